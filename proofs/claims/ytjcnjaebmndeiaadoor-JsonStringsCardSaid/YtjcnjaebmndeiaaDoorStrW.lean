/-
  JsonStrings: any UTF-8, as a string, is printed and parsed; with each sign as \u and its digits it is the same. For every text, at every memory.
-/
import Derived.Test.YtjcnjaebmndeiaaDoorStr
import Derived.Test.YtjcnjaebmndeiaaDoorStrF
import Derived.Test.YtjcnjaebmndeiaaDoorRfq
namespace Go.Proofs.YtjcnjaebmndeiaaDoor
open Go.RowKit

theorem str_self (s : ByteArray) : str s.data.toList = s := by cases s; simp [str]
theorem fits_one (k : Nat) (t : ByteArray) : fits (.mk k t [] []) := by rw [fits]; exact ⟨by simp, by simp, by rw [fitsL]; trivial⟩
theorem cells4 {w : World} {b : Nat} {v0 v1 v2 v3 : Value} (h : w.heap[b]? = some (.cells #[v0, v1, v2, v3] 26 (0, 0))) : w.cell? ⟨b, 0, none⟩ = some v0 ∧ w.cell? ⟨b, 1, none⟩ = some v1 ∧ w.cell? ⟨b, 2, none⟩ = some v2 ∧ w.cell? ⟨b, 3, none⟩ = some v3 :=
  ⟨cell_of_row w b 0 _ _ _ h, cell_of_row w b 1 _ _ _ h, cell_of_row w b 2 _ _ _ h, cell_of_row w b 3 _ _ _ h⟩
theorem below_fr0' {w w' : World} (h : Below w.heap.size w w') : Fr w w' (fun k => k < w.heap.size) := below_fr h
/-- What holds in the loop over the signs. -/
def SgRel (W0 : World) (tb : Nat) (rs : List Nat) (g : Nat) (i : Value) (wr : World) : Prop :=
  ∃ k : Nat, k + g = rs.length ∧ i = .int .i64 k ∧ TxAt wr tb (34 :: uniL (rs.take k)) ∧ W0.grownBy wr (some tb)
theorem SgRel.next {W0 wr : World} {tb k g : Nat} {rs : List Nat} {c : Nat} {i : Value} (hk : k + (g + 1) = rs.length) (hc : rs[k]? = some c) (hi : i = .int .i64 ((k + 1 : Nat) : Int)) (hx : TxAt wr tb (34 :: uniL (rs.take k) ++ uniR c)) (hg : W0.grownBy wr (some tb)) : SgRel W0 tb rs g i wr := by
  refine ⟨k + 1, by omega, hi, ?_, hg⟩
  have e : rs.take (k + 1) = rs.take k ++ [c] := by
    obtain ⟨hlt, he⟩ := List.getElem?_eq_some_iff.1 hc
    rw [List.take_succ_eq_append_getElem hlt, he]
  rw [e, uniL_app]
  have : uniL [c] = uniR c := by simp [uniL]
  rw [this]
  exact hx
theorem rune_mem : ∀ (n : Nat) (l : Bs) (c : Nat), c ∈ runesN n l → (c < 55296 ∨ 57344 ≤ c) ∧ c ≤ 1114111
  | 0, _, _, h => by simp [runesN] at h
  | _ + 1, [], _, h => by simp [runesN] at h
  | n + 1, a :: t, c, h => by
    rw [runesN] at h
    rcases List.mem_cons.1 h with rfl | h
    · have := rune_bounds (a :: t); exact ⟨this.1, this.2.1⟩
    · exact rune_mem n _ c h
theorem pair_parts (c : Nat) (hb : 65536 ≤ c) (hc : c ≤ 1114111) : ∃ v y z : Nat, 55296 + ((c : Int) - 65536) / 1024 = (v : Int) ∧ bits BinOp.and IntKind.i64 ((c : Int) - 65536) 1023 = (y : Int) ∧ 56320 + (y : Int) = (z : Int) ∧ uniR c = fourU v ++ fourU z ∧ v < 65536 ∧ z < 65536 := by
  refine ⟨55296 + (c - 65536) / 1024, (c - 65536) % 1024, 56320 + (c - 65536) % 1024, by omega, ?_, by omega, if_pos hb, by omega, by omega⟩
  have h := and1023_i64 (c - 65536) (by omega)
  rw [← h]
  congr 1
  omega
/-- '[]rune(s)': a new row with the signs. -/
theorem runes_conv (s : ByteArray) (hs : s.size ≤ 1000000) (W : World) : ∃ (cap : Nat) (cs : Array Value), (convert 9 55 (.string s)).run Tryd.prog W = .ok (.slice (some ⟨W.heap.size, 0, none⟩) (runesN s.size s.data.toList).length cap) (W.drew.alloc (.cells cs 21)) ∧
    (runesN s.size s.data.toList).length ≤ cap ∧ ∀ (k c : Nat), (runesN s.size s.data.toList)[k]? = some c → cs[k]? = some (Value.int .i32 (c : Int)) := by
  have hr := run_runes_of_string (P := Tryd.prog) W 9 55 21 s Tryd.underlying9 Tryd.underlying55 Tryd.underlying21 (by have := size_runesFrom s s.size 0 #[]; simp at this; omega)
  have he := runes_eq s s.size 0 #[]
  have hz : (Conv.runesFrom s s.size 0 #[]).size = (runesN s.size s.data.toList).length := by rw [he]; simp
  have hge := grownCap_ge W (Conv.runesFrom s s.size 0 #[]).size 0 21
  rw [hz] at hr hge
  refine ⟨_, _, hr, hge, fun k c hk => ?_⟩
  obtain ⟨hlt, hc⟩ := List.getElem?_eq_some_iff.1 hk
  rw [Array.getElem?_append_left (by rw [hz]; exact hlt), he]
  simp [hlt, hc]
set_option maxHeartbeats 2000000 in
set_option maxRecDepth 100000 in
theorem strings_walk : jsonStrings.Walk := by
  intro a0 w hwf hG
  have h4 := hG.size
  by_cases hl : 500 < a0.size
  · have hi : (500 : Int) < (a0.size : Int) := by omega
    have haw := awake w hG (by omega)
    clear hwf hG
    go_enter Tryd.func8, Tryd.ntmps8
    go_wp2_with fail
    refine haw.mono ?_
    rintro e w1 ⟨rfl, hb⟩
    go_wp2
    go_ret
    exact ⟨rfl, hb⟩
  have hi : ¬ (500 : Int) < (a0.size : Int) := by omega
  have hva := Tryd.utf8_ValidString a0 w (by omega) hG.u8
  cases hv : Lib.validD a0.data.toList with
  | false =>
    rw [hv] at hva
    have HG := Lib.hid hG
    clear hwf hG hv
    go_enter Tryd.func8, Tryd.ntmps8
    go_wp2_with fail
    refine hva.mono ?_
    rintro e w1 ⟨rfl, hb⟩
    have haw := awake w1 (HG.out.below hb) (Nat.le_trans (by omega) hb.size)
    go_wp2_with fail
    refine haw.mono ?_
    rintro e w2 ⟨rfl, hb2⟩
    go_wp2
    go_ret
    exact ⟨rfl, hb.trans (hb2.mono hb.size)⟩
  | true =>
    rw [hv] at hva
    have hv0 := hv
    have HV := Lib.hid hv
    have HG := Lib.hid hG
    clear hwf hG hv hv0
    go_enter Tryd.func8, Tryd.ntmps8
    go_wp2_with fail
    refine hva.mono ?_
    rintro e w1 ⟨rfl, hb1⟩
    clear hva
    go_wp2_with fail
    refine (quote_any a0 w1 (by omega)).mono ?_
    rintro e w2 ⟨rfl, n2, rfl⟩
    have hb2 : Below w.heap.size w (w1.drewN n2) := ⟨hb1.os, hb1.tape, hb1.output, hb1.size, hb1.block⟩
    have hp := parse_any (str (34 :: (quoL a0.data.toList ++ [34]))) (w1.drewN n2) (HG.out.below hb2)
    have hq := parse_quo a0.data.toList HV.out (by have := (quoL_len a0.data.toList).2; rw [← size_len] at this; omega)
    rw [show (str (34 :: (quoL a0.data.toList ++ [34]))).data.toList = 34 :: (quoL a0.data.toList ++ [34]) from rfl, hq] at hp
    clear hq
    go_wp2_with fail
    generalize w1.drewN n2 = W1 at *
    refine hp.mono ?_
    rintro e w3 ⟨hb3, v0, v1, v2, v3, rfl, hj⟩
    clear hp
    obtain ⟨kk, tt, A, A', n1, cap1, n2', cap2, rfl, rfl, rfl, rfl⟩ := hj.forms
    have hb4 : Below w.heap.size w (w3.alloc (.cells #[.int .i64 kk, .string tt, .slice A n1 cap1, .slice A' n2' cap2] 26)) := (hb2.trans (hb3.mono hb2.size)).alloc (Nat.le_trans hb2.size hb3.size) _
    have hB4 := heap_alloc_new w3 (.cells #[.int .i64 kk, .string tt, .slice A n1 cap1, .slice A' n2' cap2] 26 (0, 0))
    have hj4 := (hj.mono (ok' := fun b => b < w3.heap.size) (fun b h _ => h)).fr ((Fr.refl w3 (fun _ => True)).alloc (.cells #[.int .i64 kk, .string tt, .slice A n1 cap1, .slice A' n2' cap2] 26)) (fun _ _ => trivial)
    have hz4 : (w3.alloc (.cells #[.int .i64 kk, .string tt, .slice A n1 cap1, .slice A' n2' cap2] 26)).heap.size = w3.heap.size + 1 := by simp
    obtain ⟨cap, cs, hcv, hcap, hcs⟩ := runes_conv a0 (by omega) ((w3.alloc (.cells #[.int .i64 kk, .string tt, .slice A n1 cap1, .slice A' n2' cap2] 26)).alloc (.cells #[.string ⟨#[34]⟩] 9))
    generalize hrs : runesN a0.size a0.data.toList = rs at *
    have HRS := Lib.hid hrs
    have hrl : rs.length ≤ 500 := by have := runesN_len a0.size a0.data.toList; rw [hrs] at this; omega
    have HCS := Lib.hid hcs
    have hw3 : w.heap.size ≤ w3.heap.size := Nat.le_trans hb2.size hb3.size
    clear hrs hcs hj hb1 hb2 hb3
    go_wp2_with fail
    have hb5 : Below w.heap.size w ((((w3.alloc (.cells #[.int .i64 kk, .string tt, .slice A n1 cap1, .slice A' n2' cap2] 26)).alloc (.cells #[.string ⟨#[34]⟩] 9)).alloc (.cells cs 21)).drew) := by
      have := (hb4.alloc (o := .cells #[.string ⟨#[34]⟩] 9) hb4.size).alloc (o := .cells cs 21) (Nat.le_trans hb4.size (by simp))
      exact ⟨this.os, this.tape, this.output, this.size, this.block⟩
    have hT5 : TxAt ((((w3.alloc (.cells #[.int .i64 kk, .string tt, .slice A n1 cap1, .slice A' n2' cap2] 26)).alloc (.cells #[.string ⟨#[34]⟩] 9)).alloc (.cells cs 21)).drew) (w3.heap.size + 1) [34] := by
      refine ⟨?_, by simp⟩
      have h1 := heap_alloc_new (w3.alloc (.cells #[.int .i64 kk, .string tt, .slice A n1 cap1, .slice A' n2' cap2] 26)) (.cells #[.string ⟨#[34]⟩] 9 (0, 0))
      rw [hz4] at h1
      exact ((World.grownBy_alloc _ (.cells cs 21) none).block _ (blk_lt h1) (by simp)).trans h1
    have hR5 : ((((w3.alloc (.cells #[.int .i64 kk, .string tt, .slice A n1 cap1, .slice A' n2' cap2] 26)).alloc (.cells #[.string ⟨#[34]⟩] 9)).alloc (.cells cs 21)).drew).heap[w3.heap.size + 1 + 1]? = some (.cells cs 21 (0, 0)) := by
      have h1 := heap_alloc_new ((w3.alloc (.cells #[.int .i64 kk, .string tt, .slice A n1 cap1, .slice A' n2' cap2] 26)).alloc (.cells #[.string ⟨#[34]⟩] 9)) (.cells cs 21 (0, 0))
      have hz5 : ((w3.alloc (.cells #[.int .i64 kk, .string tt, .slice A n1 cap1, .slice A' n2' cap2] 26)).alloc (.cells #[.string ⟨#[34]⟩] 9)).heap.size = w3.heap.size + 1 + 1 := by simp
      rw [hz5] at h1
      exact h1
    have hF5 : Fr (w3.alloc (.cells #[.int .i64 kk, .string tt, .slice A n1 cap1, .slice A' n2' cap2] 26)) ((((w3.alloc (.cells #[.int .i64 kk, .string tt, .slice A n1 cap1, .slice A' n2' cap2] 26)).alloc (.cells #[.string ⟨#[34]⟩] 9)).alloc (.cells cs 21)).drew) (fun _ => True) := (((Fr.refl _ _).alloc _).alloc _).drewN 1
    have hB5 := hF5.at hB4 trivial
    have hj5 := hj4.fr hF5 (fun _ _ => trivial)
    have hjt : ∀ g, w3.heap.size + 1 ≤ g → True := fun _ _ => trivial
    clear hb4 hB4 hj4 hF5 hcv hjt
    generalize ((((w3.alloc (.cells #[.int .i64 kk, .string tt, .slice A n1 cap1, .slice A' n2' cap2] 26)).alloc (.cells #[.string ⟨#[34]⟩] 9)).alloc (.cells cs 21)).drew) = W0 at *
    have HR := Lib.hid hR5
    have HB := Lib.hid hB5
    clear hR5 hB5 hz4
    go_loopg [31] rs.length (fun g i wr => SgRel W0 (w3.heap.size + 1) rs g i wr)
    case atStart => exact ⟨0, by omega, rfl, by simpa [uniL] using hT5, grefl _ _⟩
    case round =>
      clear hT5
      obtain ⟨k, hg, rfl, hx, hgr⟩ := hrel
      by_cases hk : k < rs.length
      · obtain ⟨c, hc⟩ : ∃ c, rs[k]? = some c := ⟨_, List.getElem?_eq_getElem hk⟩
        have hcb := rune_mem a0.size a0.data.toList c (by rw [HRS.out]; exact List.mem_of_getElem? hc)
        have hrow : wr.heap[w3.heap.size + 1 + 1]? = some (.cells cs 21 (0, 0)) := (hgr.block _ (blk_lt HR.out) (by simp)).trans HR.out
        have hcell : wr.cell? ⟨w3.heap.size + 1 + 1, k, none⟩ = some (.int .i32 (c : Int)) := by rw [cell_of_row wr _ k cs 21 (0, 0) hrow]; exact HCS.out k c hc
        have hlen := uniL_len (rs.take k)
        have hlen2 : (rs.take k).length ≤ k := List.length_take_le _ _
        have hltx : (34 :: uniL (rs.take k)).length ≤ 7000 := by simp; omega
        obtain ⟨g', hg'⟩ : ∃ g', gk = g' + 1 := ⟨gk - 1, by omega⟩
        subst hg'
        have HC := Lib.hid hc
        clear hc hrow hlen hlen2
        by_cases hbig : 65536 ≤ c
        · have hbi : (65536 : Int) ≤ (c : Int) := by omega
          obtain ⟨v, y, z, e1, e2, e3, e4, e5, e6⟩ := pair_parts c hbig hcb.2
          have HE := Lib.hid e4
          clear e4
          go_wp2_with fail
          refine (four_any v (w3.heap.size + 1) e5 _ wr hx (by omega)).mono ?_
          rintro e w4 ⟨rfl, hx4, hg4⟩
          have hl4 : (34 :: uniL (rs.take k) ++ fourU v).length ≤ 8000 := by rw [List.length_append]; simp [fourU] at hltx ⊢; omega
          go_wp2_with fail
          refine (four_any z (w3.heap.size + 1) e6 _ w4 hx4 (by omega)).mono ?_
          rintro e w5 ⟨rfl, hx5, hg5⟩
          clear e1 e2 e3
          go_wp2
          go_roundg g'
          case measure => omega
          case rel => exact SgRel.next hg HC.out (by go_num) (by rw [HE.out, ← List.append_assoc]; exact hx5) (gtrans (gtrans hgr hg4) hg5)
        · have hbi : ¬ (65536 : Int) ≤ (c : Int) := by omega
          go_wp2_with fail
          refine (four_any c (w3.heap.size + 1) (by omega) _ wr hx (by omega)).mono ?_
          rintro e w4 ⟨rfl, hx4, hg4⟩
          go_wp2
          go_roundg g'
          case measure => omega
          case rel => exact SgRel.next hg HC.out (by go_num) (by rw [show uniR c = fourU c from if_neg hbig]; exact hx4) (gtrans hgr hg4)
      · have hkk : k = rs.length := by omega
        have hu : rs.take k = rs := by rw [hkk, List.take_length]
        rw [hu] at hx
        obtain ⟨c0, f0, hs'⟩ := hx.parts
        have hlen := uniL_len rs
        have hb6 : Below w.heap.size w wr := below_of hb5 hgr (by omega)
        have hp2 := parse_any (str (34 :: (uniL rs ++ [34]))) wr (HG.out.below hb6)
        have hq2 := parse_uni a0.data.toList HV.out (by rw [← size_len]; omega)
        rw [← size_len, HRS.out] at hq2
        rw [show (str (34 :: (uniL rs ++ [34]))).data.toList = 34 :: (uniL rs ++ [34]) from rfl, hq2] at hp2
        have hcat : str (34 :: uniL rs) ++ (⟨#[34]⟩ : ByteArray) = str (34 :: (uniL rs ++ [34])) := qstr_cat (34 :: uniL rs) ⟨#[34]⟩
        have hvb : wr.heap[w3.heap.size]? = some (.cells #[.int .i64 kk, .string tt, .slice A n1 cap1, .slice A' n2' cap2] 26 (0, 0)) := (hgr.block _ (blk_lt HB.out) (by simp)).trans HB.out
        have hjr := hj5.fr (Fr.of hgr (ok := fun b => b ≠ w3.heap.size + 1) (fun b _ hb e => hb (by cases e; rfl))) (fun b hb => by omega)
        have HJ := Lib.hid hjr
        have HVB := Lib.hid hvb
        clear hx hq2 hjr hvb hj5 hgr hb5 hu hkk hg hlen
        go_wp2_with fail
        refine hp2.mono ?_
        rintro e w6 ⟨hb7, u0, u1, u2, u3, rfl, hj6⟩
        clear hp2 c0 f0 hcat
        obtain ⟨kx, tx, D, D', m1, dap1, m2, dap2, rfl, rfl, rfl, rfl⟩ := hj6.forms
        have hf6 : Fr wr (((w6.alloc (.cells #[.int .i64 kx, .string tx, .slice D m1 dap1, .slice D' m2 dap2] 26)).alloc (.cells #[.int .i64 5, .string a0, .slice none 0 0, .slice none 0 0] 26))) (fun k => k < wr.heap.size) := ((below_fr hb7).alloc _).alloc _
        have hb8 : Below w.heap.size w (((w6.alloc (.cells #[.int .i64 kx, .string tx, .slice D m1 dap1, .slice D' m2 dap2] 26)).alloc (.cells #[.int .i64 5, .string a0, .slice none 0 0, .slice none 0 0] 26))) :=
          ((hb6.trans (hb7.mono hb6.size)).alloc (Nat.le_trans hb6.size hb7.size) _).alloc (Nat.le_trans (Nat.le_trans hb6.size hb7.size) (by simp)) _
        have hA1 := hf6.at HVB.out (blk_lt HVB.out)
        have hJ1 := HJ.out.fr hf6 (fun b hb => by have := blk_lt HVB.out; omega)
        have hJ2 := hj6.fr (((Fr.refl w6 (fun _ => True)).alloc (.cells #[.int .i64 kx, .string tx, .slice D m1 dap1, .slice D' m2 dap2] 26)).alloc (.cells #[.int .i64 5, .string a0, .slice none 0 0, .slice none 0 0] 26)) (fun _ _ => trivial)
        have haw := awake _ (HG.out.below hb8) (Nat.le_trans (by omega) hb8.size)
        have hA2 : (((w6.alloc (.cells #[.int .i64 kx, .string tx, .slice D m1 dap1, .slice D' m2 dap2] 26)).alloc (.cells #[.int .i64 5, .string a0, .slice none 0 0, .slice none 0 0] 26))).heap[w6.heap.size]? = some (.cells #[.int .i64 kx, .string tx, .slice D m1 dap1, .slice D' m2 dap2] 26 (0, 0)) :=
          ((Fr.refl (w6.alloc (.cells #[.int .i64 kx, .string tx, .slice D m1 dap1, .slice D' m2 dap2] 26)) (fun _ => True)).alloc _).at (heap_alloc_new w6 _) trivial
        have hA3 : (((w6.alloc (.cells #[.int .i64 kx, .string tx, .slice D m1 dap1, .slice D' m2 dap2] 26)).alloc (.cells #[.int .i64 5, .string a0, .slice none 0 0, .slice none 0 0] 26))).heap[w6.heap.size + 1]? = some (.cells #[.int .i64 5, .string a0, .slice none 0 0, .slice none 0 0] 26 (0, 0)) := by
          have h := heap_alloc_new (w6.alloc (.cells #[.int .i64 kx, .string tx, .slice D m1 dap1, .slice D' m2 dap2] 26)) (.cells #[.int .i64 5, .string a0, .slice none 0 0, .slice none 0 0] 26 (0, 0))
          rw [show (w6.alloc (.cells #[.int .i64 kx, .string tx, .slice D m1 dap1, .slice D' m2 dap2] 26)).heap.size = w6.heap.size + 1 by simp] at h
          exact h
        rw [str_self] at hJ1 hJ2
        clear hf6 HJ HVB hj6 hb7 hb6
        go_wp2_with fail
        generalize (((w6.alloc (.cells #[.int .i64 kx, .string tx, .slice D m1 dap1, .slice D' m2 dap2] 26)).alloc (.cells #[.int .i64 5, .string a0, .slice none 0 0, .slice none 0 0] 26))) = W6 at *
        refine haw.mono ?_
        rintro e w7 ⟨rfl, hb9⟩
        clear haw
        have hf7 := below_fr0 hb9
        have hb10 : Below w.heap.size w w7 := hb8.trans (hb9.mono hb8.size)
        have B1 := hf7.at hA1 trivial
        have B2 := hf7.at hA2 trivial
        have B3 := hf7.at hA3 trivial
        have J1 := hJ1.fr hf7 (fun _ _ => trivial)
        have J2 := hJ2.fr hf7 (fun _ _ => trivial)
        obtain ⟨p0, p1, p2, p3⟩ := cells4 B1
        obtain ⟨r0, r1, r2, r3⟩ := cells4 B3
        have hsm := same_any (fits_one 5 a0) w7 _ _ _ _ _ _ _ _ _ _ J1 (JIn.leaf w7 (fun _ => True) 5 a0)
        clear hA1 hA2 hA3 hJ1 hJ2 hf7 hb9 hb8
        go_wp2_with fail
        refine hsm.mono ?_
        rintro e w8 ⟨rfl, hb11⟩
        clear hsm p0 p1 p2 p3 r0 r1 r2 r3 J1
        have hf8 := below_fr0 hb11
        have hb12 : Below w.heap.size w w8 := hb10.trans (hb11.mono hb10.size)
        have C2 := hf8.at B2 trivial
        have C3 := hf8.at B3 trivial
        have K2 := J2.fr hf8 (fun _ _ => trivial)
        obtain ⟨p0, p1, p2, p3⟩ := cells4 C2
        obtain ⟨r0, r1, r2, r3⟩ := cells4 C3
        have hsm := same_any (fits_one 5 a0) w8 _ _ _ _ _ _ _ _ _ _ K2 (JIn.leaf w8 (fun _ => True) 5 a0)
        clear B1 B2 B3 hf8 hb11 hb10 J2
        go_wp2_with fail
        refine hsm.mono ?_
        rintro e w9 ⟨rfl, hb13⟩
        clear hsm p0 p1 p2 p3 r0 r1 r2 r3 K2
        have hf9 := below_fr0 hb13
        have hb14 : Below w.heap.size w w9 := hb12.trans (hb13.mono hb12.size)
        have D3 := hf9.at C3 trivial
        obtain ⟨r0, r1, r2, r3⟩ := cells4 D3
        have hpr := print_str a0 w9 (HG.out.below hb14) (by omega) HV.out
        clear C2 C3 hf9 hb13 hb12
        go_wp2_with fail
        refine hpr.mono ?_
        rintro e w10 ⟨rfl, hb15⟩
        clear hpr
        have hb16 : Below w.heap.size w w10 := hb14.trans (hb15.mono hb14.size)
        go_wp2_with fail
        refine (quote_any a0 w10 (by omega)).mono ?_
        rintro e w11 ⟨rfl, n11, rfl⟩
        go_wp2
        go_ret
        exact ⟨rfl, ⟨hb16.os, hb16.tape, hb16.output, hb16.size, hb16.block⟩⟩
theorem jsonStrings_holds : Rows.JsonStringsCardSaid := jsonStrings.card strings_walk
end Go.Proofs.YtjcnjaebmndeiaaDoor
