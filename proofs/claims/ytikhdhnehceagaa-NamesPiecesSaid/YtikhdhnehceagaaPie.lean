/-
  The walk of 'NamesPieces'.
-/
import Derived.Test.YtikhdhnehceagaaLaw
import Derived.SliceStrings
import Derived.Deep.Slices
import Derived.OpenShut
import Derived.Deep.RegionHeld3
import Derived.Deep.RegionHeld
namespace Go.Proofs.Ytikhdhnehceagaa
open Go.RowKit

theorem below_undrew {B : Nat} {w w' : World} (h : Below B w.drew w') : Below B w w' := ⟨h.os, h.tape, h.output, h.size, h.block⟩
theorem wrap_small {n q : Nat} (h : (n : Int) - 1 = (q : Int)) (h2 : (n : Int) ≤ 60) : IntKind.i64.wrap ((n : Int) - 1) = (q : Int) := by
  rw [h]
  simp [IntKind.wrap, IntKind.bits, IntKind.signed]
  omega
/-- The slice value (A, n, c) holds these texts. -/
def Strs (w : World) (A : Option Addr) (n c : Nat) (ps : List Bs) : Prop :=
  ps.length = n ∧ n ≤ c ∧ c ≤ maxLen ∧ (0 < n → ∃ b off, A = some ⟨b, off, none⟩ ∧ b < w.heap.size ∧ ∀ j p, ps[j]? = some p → w.cell? ⟨b, off + j, none⟩ = some (.string (str p)))
theorem addr_add (b o i : Nat) : (⟨b, o, none⟩ : Addr).add i = ⟨b, o + i, none⟩ := by simp [Addr.add]
theorem open_strs {H : Type} {enc : TypeId × Value → H} {P : Program} {t e : TypeId} {W : World} {base : Nat} {v : Value} {d : DataW H} {ps : List MemPlace} (ht : P.underlying t = some (.slice e)) (he : P.underlying e = some .string) (hc : P.cellsOf e = 1)
    (hval : Value.okWide P W .any base t v) (h : DataW.Trod enc P W 0 (fun _ => true) true t v d ps) : ∃ A l c X, v = .slice A l c ∧ Strs W A l c X := by
  obtain ⟨A, l, c, rfl⟩ := WideShapes.okWide_slice ht hval
  obtain ⟨fuel, hf⟩ := h
  rcases ChangeShapes.open_strings ht he hc hf with ⟨hcs, _⟩ | ⟨a, l', c', ss, hcs, _, hl, hm, hz, _, hcell, _⟩
  · simp [Value.cells] at hcs
    obtain ⟨rfl, rfl, rfl⟩ := hcs
    exact ⟨_, _, _, [], rfl, rfl, Nat.le_refl _, by unfold maxLen; omega, fun h => absurd h (by omega)⟩
  · simp [Value.cells] at hcs
    obtain ⟨rfl, rfl, rfl⟩ := hcs
    simp only [if_true] at hz
    refine ⟨_, _, _, (ss.take l).map (fun s => s.data.toList), rfl, by simp; omega, hl, hm, fun hn => ?_⟩
    have h0 := hcell 0 (by omega)
    obtain ⟨b, off, spot⟩ := a
    have hspot : spot = none := by simpa [Addr.add] using World.cell?_spot h0
    subst hspot
    refine ⟨b, off, rfl, by have := World.block_lt_of_cell? W _ h0; simpa [Addr.add] using this, fun j u hu => ?_⟩
    rw [List.getElem?_map, List.getElem?_take] at hu
    split at hu
    · have h2 := hcell j (by omega)
      rw [addr_add] at h2
      rw [h2, List.getD_eq_getElem?_getD]
      rw [List.getElem?_eq_getElem (by omega)] at hu ⊢
      simp only [Option.map_some, Option.some.injEq] at hu
      rw [← hu]
      simp only [Option.getD_some]
      rw [← str_of]
    · cases hu

/-- The pieces that were read so far, and what was made of them. -/
structure PInv (pre : List Bs) (all : Bs) (good : Bool) (space : Bs) : Prop where
  good_eq : good = pre.all simpL
  parts : (pre = [] ∧ all = [] ∧ space = []) ∨ (pcs all = pre ∧ pre.getLast? = some (shortL all) ∧ spaceL all = space)
theorem PInv.first {good : Bool} {all space x : Bs} (h : PInv [] all good space) (hx : (46 : UInt8) ∉ x) : PInv [x] (all ++ x) (good && simpL x) space := by
  rcases h.parts with ⟨_, h2, h3⟩ | ⟨h1, _, _⟩
  · subst h2 h3
    refine ⟨by rw [h.good_eq]; simp, .inr ⟨by rw [List.nil_append, pcs_none x hx], ?_, ?_⟩⟩
    · simp [shortL, lastS_none x hx]
    · simp [spaceL, lastS_none x hx]
  · exact absurd h1 (pcs_ne _)
theorem PInv.next {pre : List Bs} {good : Bool} {all space x : Bs} (h : PInv pre all good space) (hp : pre ≠ []) (hx : (46 : UInt8) ∉ x) : PInv (pre ++ [x]) (all ++ 46 :: x) (good && simpL x) all := by
  rcases h.parts with ⟨h1, _, _⟩ | ⟨h1, _, _⟩
  · exact absurd h1 hp
  · refine ⟨by rw [h.good_eq, all_snoc], .inr ⟨by rw [pcs_append all x hx, h1], ?_, ?_⟩⟩
    · simp [shortL, lastS_point all x hx]
    · simp [spaceL, lastS_point all x hx]
theorem PInv.full {pre : List Bs} {good : Bool} {all space : Bs} (h : PInv pre all good space) (hp : pre ≠ []) : fullL all = (good && decide (all.length ≤ 100)) ∧ pre.getLast? = some (shortL all) ∧ spaceL all = space := by
  rcases h.parts with ⟨h1, _, _⟩ | ⟨h1, h2, h3⟩
  · exact absurd h1 hp
  · refine ⟨?_, h2, h3⟩
    unfold fullL; rw [h1, h.good_eq, Bool.and_comm]
theorem cat1 (a b : Bs) : str a ++ str b = str (a ++ b) := ba_ext (by simp [str])
theorem cat2 (a : Bs) : str a ++ (⟨#[46]⟩ : ByteArray) = str (a ++ [46]) := ba_ext (by simp [str])

theorem take_snoc {ps : List Bs} {k : Nat} {p : Bs} (h : ps[k]? = some p) : ps.take (k + 1) = ps.take k ++ [p] := by rw [List.take_add_one, h]; rfl
theorem PInv.step0 {ps : List Bs} {all space p : Bs} {good : Bool} (h : PInv (ps.take 0) all good space) (hp : ps[0]? = some p) (hx : (46 : UInt8) ∉ p) : PInv (ps.take (0 + 1)) (all ++ p) (good && simpL p) space := by
  rw [take_snoc hp]; exact h.first hx
theorem PInv.step {ps : List Bs} {k : Nat} {all space p : Bs} {good : Bool} (h : PInv (ps.take k) all good space) (h0 : 0 < k) (hp : ps[k]? = some p) (hx : (46 : UInt8) ∉ p) : PInv (ps.take (k + 1)) ((all ++ [46]) ++ p) (good && simpL p) all := by
  rw [take_snoc hp, List.append_assoc]
  refine h.next ?_ hx
  intro e
  have hk : k < ps.length := by rcases Nat.lt_or_ge k ps.length with h1 | h1; exact h1; rw [List.getElem?_eq_none h1] at hp; cases hp
  have := congrArg List.length e
  rw [List.length_take, List.length_nil] at this
  omega
set_option maxHeartbeats 8000000 in
theorem pieces_walk (A : Option Addr) (n c : Nat) (ps : List Bs) (w : World) (hst : Strs w A n c ps) : Calls Try.prog 6 #[.slice A n c] w fun e w' => e = .returned (.bool true) ∧ Below w.heap.size w w' := by
  obtain ⟨hlen, hnc, hcm, hcells⟩ := hst
  by_cases h0 : n = 0
  · subst h0
    go_enter Try.func6, Try.ntmps6
    go_wp2_with (go_at_call 7; refine (awake_any _).mono ?_; rintro e w1 ⟨rfl, hb1⟩)
    go_ret
    exact ⟨rfl, hb1⟩
  · have hn0 : ((n : Int) == 0) = false := by rw [beq_eq_false_iff_ne]; omega
    by_cases h60 : 60 < n
    · have hd : decide (60 < (n : Int)) = true := by simp; omega
      clear hlen hcells
      go_enter Try.func6, Try.ntmps6
      go_wp2_with (go_at_call 7; refine (awake_any _).mono ?_; rintro e w1 ⟨rfl, hb1⟩)
      go_ret
      exact ⟨rfl, hb1⟩
    · have hd : decide (60 < (n : Int)) = false := by simp; omega
      obtain ⟨b, off, rfl, hbw, hc⟩ := hcells (by omega)
      have HC := Lib.hid hc
      have HL := Lib.hid hlen
      clear hc hlen hcells
      go_enter Try.func6, Try.ntmps6
      go_wp2
      obtain ⟨q, hqe⟩ : ∃ q : Nat, (n : Int) - 1 = (q : Int) := ⟨n - 1, by omega⟩
      have hqn : q < n := by omega
      have hqn' : (q : Int) < (n : Int) := by omega
      have HQE := Lib.hid hqe
      clear hqe
      go_loopg [3, 4, 5, 6] n (fun g va vg vs vi wr => ∃ (k : Nat) (all : Bs) (good : Bool) (space : Bs), k + g = n ∧ va = .string (str all) ∧ vg = .bool good ∧ vs = .string (str space) ∧ vi = .int .i64 (k : Int) ∧ Hid (PInv (ps.take k) all good space) ∧ all.length ≤ 201 * k ∧ w = wr)
      case atStart => exact ⟨0, [], true, [], by omega, rfl, rfl, rfl, rfl, ⟨by simp, .inl ⟨by simp, rfl, rfl⟩⟩, by simp, rfl⟩
      case round =>
        obtain ⟨k, all, good, space, hg, rfl, rfl, rfl, rfl, HP, hal, rfl⟩ := hrel
        have HG := Lib.hid hg
        have hza : (str all).size ≤ 20000 := by rw [str_size]; omega
        by_cases hkn : k < n
        · have hk : decide ((k : Int) < (n : Int)) = true := by simp; omega
          have hk' : decide (k < n) = true := by simp; omega
          obtain ⟨p, hp⟩ : ∃ p, ps[k]? = some p := ⟨ps[k]'(by rw [HL.out]; exact hkn), List.getElem?_eq_getElem (by rw [HL.out]; exact hkn)⟩
          have hcell := HC.out k p hp
          have HPk := Lib.hid hp
          clear hp hg
          by_cases hpl : p.length ≤ 200
          · have hd2 : decide (200 < ((str p).size : Int)) = false := by rw [str_size]; simp; omega
            have hzp : (str p).size ≤ 200 := by rw [str_size]; exact hpl
            have hat : At (str p) 0 p := ⟨Nat.zero_le _, by rw [str_list]; rfl⟩
            have HPl := Lib.hid hpl
            clear hpl
            go_wp2
            go_loopg [7] p.length (fun g vi wr => ∃ (j : Nat) (ys : Bs), ys.length = g ∧ vi = .int .i64 (j : Int) ∧ At (str p) j ys ∧ Hid ((46 : UInt8) ∈ p ↔ (46 : UInt8) ∈ ys) ∧ w = wr)
            case atStart => exact ⟨0, p, rfl, rfl, hat, Iff.rfl, rfl⟩
            case round =>
              obtain ⟨j, ys, hg2, rfl, ha, HM, rfl⟩ := hrel
              have HG2 := Lib.hid hg2
              clear hg2 hat
              cases ys with
              | nil =>
                have hj : decide (j < (str p).size) = false := by have := ha.nil; simp; omega
                have hx : Hid ((46 : UInt8) ∉ p) := by show _ ∉ _; rw [HM.out]; simp
                have hsi := simple_l p w (by have := HPl.out; omega)
                have HLn : Hid ((str p).size = p.length) := str_size p
                have HC1 := Lib.hid (cat1 all p)
                have HC2 := Lib.hid (cat2 all)
                have HC3 := Lib.hid (cat1 (all ++ [46]) p)
                clear ha HM
                by_cases hk0 : k = 0
                · have hkp : decide (0 < (k : Int)) = false := by simp; omega
                  have hkp' : decide (0 < k) = false := by simp; omega
                  have HN : Hid (PInv (ps.take (k + 1)) (all ++ p) (good && simpL p) space) := by
                    have h1 := HP.out
                    have h2 := HPk.out
                    subst hk0
                    exact h1.step0 h2 hx.out
                  have HA : Hid ((all ++ p).length ≤ 201 * (k + 1)) := by show _ ≤ _; have := HPl.out; simp; omega
                  have HK0 := Lib.hid hk0
                  clear hk0
                  generalize simpL p = sp at *
                  cases good with
                  | true =>
                    go_wp2_with (go_at_call 8; refine hsi.mono ?_; rintro e w1 ⟨rfl, rfl⟩)
                    go_roundg (n - 1 - k)
                    case measure => have := HG.out; omega
                    case rel => exact ⟨k + 1, all ++ p, _, space, by omega, (by rw [← HC1.out]), rfl, rfl, rfl, HN, HA.out, rfl⟩
                  | false =>
                    go_wp2_with (go_at_call 8; refine hsi.mono ?_; rintro e w1 ⟨rfl, rfl⟩)
                    go_roundg (n - 1 - k)
                    case measure => have := HG.out; omega
                    case rel => exact ⟨k + 1, all ++ p, _, space, by omega, (by rw [← HC1.out]), rfl, rfl, rfl, HN, HA.out, rfl⟩
                · have hkp : decide (0 < (k : Int)) = true := by simp; omega
                  have hkp' : decide (0 < k) = true := by simp; omega
                  have HN : Hid (PInv (ps.take (k + 1)) ((all ++ [46]) ++ p) (good && simpL p) all) := HP.out.step (by omega) HPk.out hx.out
                  have HA : Hid (((all ++ [46]) ++ p).length ≤ 201 * (k + 1)) := by show _ ≤ _; have := HPl.out; simp; omega
                  generalize simpL p = sp at *
                  cases good with
                  | true =>
                    go_wp2_with (go_at_call 8; refine hsi.mono ?_; rintro e w1 ⟨rfl, rfl⟩)
                    go_roundg (n - 1 - k)
                    case measure => have := HG.out; omega
                    case rel => exact ⟨k + 1, (all ++ [46]) ++ p, _, all, by omega, (by rw [← HC3.out, ← HC2.out]), rfl, rfl, rfl, HN, HA.out, rfl⟩
                  | false =>
                    go_wp2_with (go_at_call 8; refine hsi.mono ?_; rintro e w1 ⟨rfl, rfl⟩)
                    go_roundg (n - 1 - k)
                    case measure => have := HG.out; omega
                    case rel => exact ⟨k + 1, (all ++ [46]) ++ p, _, all, by omega, (by rw [← HC3.out, ← HC2.out]), rfl, rfl, rfl, HN, HA.out, rfl⟩
              | cons d t =>
                have hjl := ha.lt
                have hget := ha.get hjl
                have hj : decide (j < (str p).size) = true := by simp; omega
                have hat' := ha.tail
                by_cases h46 : ((d.toNat : Int) == 46) = true
                · go_wp2_with (go_at_call 7; refine (awake_any _).mono ?_; rintro e w1 ⟨rfl, hb1⟩)
                  go_ret
                  exact ⟨rfl, hb1⟩
                · have h47 : ((d.toNat : Int) == 46) = false := by simpa using h46
                  have HD : Hid (d ≠ 46) := by show _ ≠ _; rintro rfl; exact h46 rfl
                  clear h46
                  go_wp2
                  go_roundg t.length
                  case measure => have := HG2.out; simp at this; omega
                  case rel => exact ⟨j + 1, t, rfl, rfl, hat', (by show _ ↔ _; rw [HM.out]; simp [Ne.symm HD.out]), rfl⟩
          · have hd2 : decide (200 < ((str p).size : Int)) = true := by rw [str_size]; simp; omega
            go_wp2_with (go_at_call 7; refine (awake_any _).mono ?_; rintro e w1 ⟨rfl, hb1⟩)
            go_ret
            exact ⟨rfl, hb1⟩
        · have hk : decide ((k : Int) < (n : Int)) = false := by simp; omega
          have hk' : decide (k < n) = false := by simp; omega
          obtain rfl : n = k := by omega
          clear hk hk' hkn hg
          have htk : ps.take n = ps := List.take_of_length_le (by rw [HL.out]; exact Nat.le_refl _)
          have hpn : ps ≠ [] := by intro e; have := HL.out; rw [e, List.length_nil] at this; omega
          have hpi := HP.out
          rw [htk] at hpi
          obtain ⟨hfull, hlast, hspace⟩ := hpi.full hpn
          have hlast' : ps[q]? = some (shortL all) := by rw [← hlast, List.getLast?_eq_getElem?, HL.out, show n - 1 = q from by have := HQE.out; omega]
          have hcell : Hid (∀ W, Below w.heap.size w W → W.cell? ⟨b, off + q, none⟩ = some (.string (str (shortL all)))) := fun W hW => (hW.cell hbw).trans (HC.out q _ hlast')
          have h10 := fun w => full_l all w (by omega)
          have h12 := fun w => short_l all w (by omega)
          have h14 := fun w => space_l all w (by omega)
          rw [hspace] at h14
          have hzl := str_size all
          clear hlast hlast' hspace hpn htk hpi
          have hk1 : decide (n < n) = false := by simp
          have hcw := hcell.out w (Below.refl _ _)
          have hqe := HQE.out
          have i1 : (0 : Int) ≤ (n : Int) - 1 := by omega
          have i3 : (n : Int) ≤ 60 := by omega
          have i6 : IntKind.i64.wrap (q : Int) = (q : Int) := by rw [← hqe]; exact (wrap_small hqe i3).trans hqe.symm
          clear i1 i3
          cases good with
          | false =>
            have hf2 : fullL all = false := by rw [hfull]; rfl
            rw [hf2] at h10
            clear hf2 hfull hzl
            go_wp2_with fail
            first | (go_region_held (fun w' => w'.cell? ⟨b, off + q, none⟩ = some (.string (str (shortL all)))) (first | exact hcw | exact hcc1 | exact hcc2) (first
              | (go_at_call 7; refine (awake_any w.drew).mono ?_; rintro e w1 ⟨rfl, hb1⟩; have hcc1 := hcell.out w1 (below_undrew hb1))
              | (go_at_call 10; refine (h10 _).mono ?_; rintro e w2 ⟨rfl, hb2⟩; have hcc2 := hcell.out w2 ((below_undrew hb1).trans (hb2.mono hb1.size)))
              | (go_at_call 12; refine (h12 _).mono ?_; rintro e w3 ⟨rfl, rfl⟩)
              | (go_at_call 14; refine (h14 _).mono ?_; rintro e w3 ⟨rfl, rfl⟩))) | fail
            all_goals
              go_wp2
              go_ret
              exact ⟨rfl, (below_undrew hb1).trans (hb2.mono hb1.size)⟩
          | true =>
            by_cases h100 : all.length ≤ 100
            · have hf2 : fullL all = true := by rw [hfull]; simp [h100]
              have hq : decide (((str all).size : Int) ≤ 100) = true := by rw [hzl]; simp; omega
              rw [hf2] at h10
              clear hf2 hfull hzl
              go_wp2_with fail
              first | (go_region_held3 (fun w' => w'.cell? ⟨b, off + q, none⟩ = some (.string (str (shortL all)))) (first | exact hcw | exact hcc1 | exact hcc2) (first
                | (go_at_call 7; refine (awake_any w.drew).mono ?_; rintro e w1 ⟨rfl, hb1⟩; have hcc1 := hcell.out w1 (below_undrew hb1))
                | (go_at_call 10; refine (h10 _).mono ?_; rintro e w2 ⟨rfl, hb2⟩; have hcc2 := hcell.out w2 ((below_undrew hb1).trans (hb2.mono hb1.size)))
                | (go_at_call 12; refine (h12 _).mono ?_; rintro e w3 ⟨rfl, rfl⟩)
                | (go_at_call 14; refine (h14 _).mono ?_; rintro e w3 ⟨rfl, rfl⟩))) | fail
              all_goals
                go_wp2
                go_ret
                exact ⟨rfl, (below_undrew hb1).trans (hb2.mono hb1.size)⟩
            · have hf2 : fullL all = false := by rw [hfull]; simp [h100]
              have hq : decide (((str all).size : Int) ≤ 100) = false := by rw [hzl]; simp; omega
              rw [hf2] at h10
              clear hf2 hfull hzl
              go_wp2_with fail
              first | (go_region_held3 (fun w' => w'.cell? ⟨b, off + q, none⟩ = some (.string (str (shortL all)))) (first | exact hcw | exact hcc1 | exact hcc2) (first
                | (go_at_call 7; refine (awake_any w.drew).mono ?_; rintro e w1 ⟨rfl, hb1⟩; have hcc1 := hcell.out w1 (below_undrew hb1))
                | (go_at_call 10; refine (h10 _).mono ?_; rintro e w2 ⟨rfl, hb2⟩; have hcc2 := hcell.out w2 ((below_undrew hb1).trans (hb2.mono hb1.size)))
                | (go_at_call 12; refine (h12 _).mono ?_; rintro e w3 ⟨rfl, rfl⟩)
                | (go_at_call 14; refine (h14 _).mono ?_; rintro e w3 ⟨rfl, rfl⟩))) | fail
              all_goals
                go_wp2
                go_ret
                exact ⟨rfl, (below_undrew hb1).trans (hb2.mono hb1.size)⟩
end Go.Proofs.Ytikhdhnehceagaa
