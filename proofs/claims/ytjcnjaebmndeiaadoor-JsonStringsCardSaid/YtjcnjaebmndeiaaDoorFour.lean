/-
  JsonStrings' own function: a number's four digits of 16 behind what there is.
-/
import Derived.Test.YtjcnjaebmndeiaaDoorUni
import Derived.Test.YtjcnjaebmndeiaaDoorQtr
import Derived.Test.YtjcnjaebmndeiaaDoorMem
import Derived.IntWalk
namespace Go.Proofs.YtjcnjaebmndeiaaDoor
open Go.RowKit

theorem and_i64 (m q : Nat) (hm : m < 4294967296) (hq : q < 4294967296) : bits BinOp.and IntKind.i64 (m : Int) (q : Int) = ((m &&& q : Nat) : Int) := by
  have h1 : m &&& q ≤ m := Nat.and_le_left
  show IntKind.i64.wrap ((BitVec.ofInt 64 (m : Int) &&& BitVec.ofInt 64 (q : Int)).toNat : Int) = _
  rw [BitVec.ofInt_natCast, BitVec.ofInt_natCast, BitVec.toNat_and, BitVec.toNat_ofNat, BitVec.toNat_ofNat, Nat.mod_eq_of_lt (by omega), Nat.mod_eq_of_lt (by omega)]
  exact IntWalk.i64_in _ (by omega)
theorem and15_i64 (m : Nat) (hm : m < 4294967296) : bits BinOp.and IntKind.i64 (m : Int) 15 = ((m % 16 : Nat) : Int) := by
  have := and_i64 m 15 hm (by omega)
  rw [show m &&& 15 = m % 16 from Nat.and_two_pow_sub_one_eq_mod m 4] at this
  exact this
theorem and1023_i64 (m : Nat) (hm : m < 4294967296) : bits BinOp.and IntKind.i64 (m : Int) 1023 = ((m % 1024 : Nat) : Int) := by
  have := and_i64 m 1023 hm (by omega)
  rw [show m &&& 1023 = m % 1024 from Nat.and_two_pow_sub_one_eq_mod m 10] at this
  exact this
def hexText : ByteArray := ⟨#[48, 49, 50, 51, 52, 53, 54, 55, 56, 57, 97, 66, 99, 68, 101, 70]⟩
theorem hexU_ext : ∀ n : Fin 16, (⟨#[48, 49, 50, 51, 52, 53, 54, 55, 56, 57, 97, 66, 99, 68, 101, 70]⟩ : ByteArray).extract n.val (n.val + 1) = ⟨#[hexU n.val]⟩ := by decide +kernel
theorem hexU_one (n : Nat) (h : n < 16) : (⟨#[48, 49, 50, 51, 52, 53, 54, 55, 56, 57, 97, 66, 99, 68, 101, 70]⟩ : ByteArray).extract n (n + 1) = ⟨#[hexU n]⟩ := hexU_ext ⟨n, h⟩
/-- The text at block b. -/
def TxAt (w : World) (b : Nat) (t : Bs) : Prop := w.heap[b]? = some (.cells #[.string (str t)] 9 (0, 0)) ∧ t.length ≤ 100000
theorem TxAt.parts {w : World} {b : Nat} {t : Bs} (h : TxAt w b t) : w.cell? ⟨b, 0, none⟩ = some (.string (str t)) ∧ w.frozen? ⟨b, 0, none⟩ = false ∧ (str t).size ≤ 100000 :=
  ⟨by rw [cell_of_row w b 0 _ 9 (0, 0) h.1]; rfl, frozen_of_row w b 0 _ 9 h.1, h.2⟩
theorem TxAt.set {w : World} {b : Nat} {t u : Bs} (h : TxAt w b t) (hu : u.length ≤ 100000) : TxAt (w.setCell ⟨b, 0, none⟩ (.string (str u))) b u := by
  refine ⟨?_, hu⟩
  rw [heap_setCell_same w b 0 _ 9 _ h.1]
  rfl
theorem TxAt.drewN {w : World} {b : Nat} {t : Bs} (h : TxAt w b t) (n : Nat) : TxAt (w.drewN n) b t := h
def dig (n j : Nat) : Nat := n / 2 ^ (12 - 4 * j) % 16
theorem dig_lt (n j : Nat) : dig n j < 16 := Nat.mod_lt _ (by decide)
theorem dig_bits (n j : Nat) (hn : n < 65536) : bits BinOp.and IntKind.i64 ((n : Int) / 2 ^ (12 - 4 * j)) 15 = ((dig n j : Nat) : Int) := by
  have h1 : n / 2 ^ (12 - 4 * j) ≤ n := Nat.div_le_self _ _
  have h2 := and15_i64 (n / 2 ^ (12 - 4 * j)) (by omega)
  exact Eq.trans (by congr 1) h2
theorem dig_take (n j : Nat) (hj : j < 4) : (fourU n).take (2 + (j + 1)) = (fourU n).take (2 + j) ++ [hexU (dig n j)] := by
  match j, hj with
  | 0, _ => rfl
  | 1, _ => rfl
  | 2, _ => rfl
  | 3, _ => simp [fourU, dig]
def FrRel (w : World) (b n : Nat) (t : Bs) (g : Nat) (k : Value) (wr : World) : Prop :=
  ∃ j u, j + g = 4 ∧ u = (fourU n).take (2 + j) ∧ k = .int .i64 (12 - 4 * (j : Int)) ∧ TxAt wr b (t ++ u) ∧ w.grownBy wr (some b)
theorem FrRel.drewN {w : World} {b n : Nat} {t : Bs} {g : Nat} {k : Value} {wr : World} (h : FrRel w b n t g k wr) (m : Nat) : FrRel w b n t g k (wr.drewN m) := by
  obtain ⟨j, u, h1, h2, h3, h4, h5⟩ := h
  exact ⟨j, u, h1, h2, h3, h4.drewN m, gdrewN h5 m⟩
set_option maxHeartbeats 1000000 in
theorem four_any (n b : Nat) (hn : n < 65536) (t : Bs) (w : World) (h : TxAt w b t) (ht : t.length ≤ 90000) :
    Calls Tryd.prog 31 #[.int .i64 n, .pointer (some ⟨b, 0, none⟩)] w fun e w' => e = .returned (.tuple #[]) ∧ TxAt w' b (t ++ fourU n) ∧ w.grownBy w' (some b) := by
  obtain ⟨c0, f0, hs⟩ := h.parts
  have h1 : TxAt (w.setCell ⟨b, 0, none⟩ (.string (str (t ++ [92, 117])))) b (t ++ [92, 117]) := h.set (by simp; omega)
  have hcat := qstr_cat t ⟨#[92, 117]⟩
  have hrel0 : FrRel w b n t 4 (.int .i64 12) (w.setCell ⟨b, 0, none⟩ (.string (str (t ++ [92, 117])))) := ⟨0, _, rfl, rfl, rfl, h1, gset w b 0 _⟩
  have hrel1 : FrRel w b n t 4 (.int .i64 12) (w.setCell ⟨b, 0, none⟩ (.string (str t ++ ⟨#[92, 117]⟩))) := by rw [hcat]; exact hrel0
  clear hrel0 h1 hcat
  go_enter Tryd.func31, Tryd.ntmps31
  go_wp2
  go_loopg [3] 4 (fun g k wr => FrRel w b n t g k wr)
  case atStart => exact hrel1
  case round =>
    clear hrel1 c0 f0
    obtain ⟨j, u, hg, hu, rfl, hx, hgr⟩ := hrel
    obtain ⟨c0, f0, hs'⟩ := hx.parts
    by_cases hj : j < 4
    · have hd := dig_bits n j hn
      have hl := dig_lt n j
      have hT := dig_take n j hj
      generalize dig n j = d at *
      have he := hexU_one d hl
      have hxs : TxAt (wr.setCell ⟨b, 0, none⟩ (.string (str (t ++ u) ++ ⟨#[hexU d]⟩))) b (t ++ (u ++ [hexU d])) := by
        have hul : u.length ≤ 6 := by rw [hu]; exact Nat.le_trans (List.length_take_le _ _) (by omega)
        rw [qstr_cat, List.append_assoc]
        exact hx.set (by simp; omega)
      have hgs := gtrans hgr (gset wr b 0 (.string (str (t ++ u) ++ ⟨#[hexU d]⟩)))
      have hrel2 : FrRel w b n t (gk - 1) (.int .i64 (12 - 4 * (j : Int) - 4)) (wr.setCell ⟨b, 0, none⟩ (.string (str (t ++ u) ++ ⟨#[hexU d]⟩))) :=
        ⟨j + 1, u ++ [hexU d], by omega, by rw [hT, hu], by congr 1; omega, hxs, hgs⟩
      have HT := Lib.hid hT
      have HU := Lib.hid hu
      have HG := Lib.hid hg
      have hgk : 0 < gk := by omega
      clear hT hu hxs hgs hx hgr hg
      have s1 : ¬ (9223372036854775807 < (str (t ++ u)).size + 1) := by omega
      go_wp2
      go_region
      go_wp2
      go_roundg (gk - 1)
      case measure => omega
      case rel => exact hrel2.drewN 1
    · have hj4 : j = 4 := by omega
      subst hj4
      have hu' : u = fourU n := by rw [hu]; rfl
      subst hu'
      clear hg hu hj
      go_wp2
      go_end0
      exact ⟨rfl, hx, hgr⟩
end Go.Proofs.YtjcnjaebmndeiaaDoor
