/-
  The reference's 'Quote' of longer texts.
  'spaced': a right value's text with white between.
  'spaced' of arrays and objects.
  'spaced' of objects.
  'spaced' of every right value; a right value in memory, as what is parsed lies there.
-/
import Derived.Test.YtjcnjaebmndeiaaDoorQtr
import Derived.Test.YtjcnjaebmndeiaaDoorZbb
namespace Go.Proofs.YtjcnjaebmndeiaaDoor
open Go.RowKit

def keyTx (g : Bs) (obj : Bool) (s : ByteArray) : Bs := if obj then g ++ 34 :: (quoL s.data.toList ++ 34 :: (g ++ [58])) else []
theorem memC_cons (g : Bs) (obj : Bool) (z : Z) (r : List Z) (ks : List ByteArray) : memC g obj (z :: r) ks = 44 :: (keyTx g obj (ks.headD ByteArray.empty) ++ (g ++ (core g z ++ g)) ++ memC g obj r ks.tail) := by rw [memC]; rfl
theorem memC_snoc (g : Bs) (obj : Bool) : ∀ (l : List Z) (ks : List ByteArray) (q : Nat) (z : Z) (s : ByteArray), l[q]? = some z → (obj = true → ks[q]? = some s) →
    memC g obj (l.take (q + 1)) (ks.take (q + 1)) = memC g obj (l.take q) (ks.take q) ++ 44 :: (keyTx g obj s ++ (g ++ (core g z ++ g)))
  | [], _, _, _, _, h, _ => by simp at h
  | x :: r, ks, 0, z, s, h, hk => by
    simp only [List.getElem?_cons_zero, Option.some.injEq] at h
    subst h
    rw [List.take_succ_cons, List.take_zero, List.take_zero, List.take_zero, memC_cons, memC, memC]
    cases obj with
    | false => simp [keyTx]
    | true =>
      have hk := hk rfl
      match ks, hk with
      | a :: b, hk =>
        simp only [List.getElem?_cons_zero, Option.some.injEq] at hk
        subst hk
        simp [keyTx]
  | x :: r, ks, q + 1, z, s, h, hk => by
    have ih := memC_snoc g obj r ks.tail q z s (by simpa using h) (fun ho => by
      have := hk ho
      match ks, this with
      | a :: b, this => simpa using this)
    have e1 : (ks.take (q + 1 + 1)).tail = ks.tail.take (q + 1) := by cases ks <;> simp
    have e2 : (ks.take (q + 1)).tail = ks.tail.take q := by cases ks <;> simp
    have e3 : (ks.take (q + 1 + 1)).headD ByteArray.empty = (ks.take (q + 1)).headD ByteArray.empty := by cases ks <;> simp
    rw [List.take_succ_cons, List.take_succ_cons, memC_cons, memC_cons, e1, e2, e3, ih]
    simp
theorem zwL_take : ∀ (l : List Z) (q : Nat), zwL (l.take q) ≤ zwL l
  | [], q => by simp
  | x :: r, 0 => by simp [zwL]
  | x :: r, q + 1 => by have ih := zwL_take r q; rw [List.take_succ_cons, zwL, zwL]; omega
theorem kw_take : ∀ (l : List ByteArray) (q : Nat), kw (l.take q) ≤ kw l
  | [], q => by simp
  | x :: r, 0 => by simp [kw]
  | x :: r, q + 1 => by have ih := kw_take r q; rw [List.take_succ_cons, kw, kw]; omega
/-- What stands behind the bracket when q members have been written. -/
def outTx (g : Bs) (obj : Bool) (l : List Z) (ks : List ByteArray) (q : Nat) : Bs := g ++ (if obj then 123 else 91) :: (memC g obj (l.take q) (ks.take q)).drop 1
theorem outTx_long {g : Bs} (hg : g.length ≤ 8) (obj : Bool) (l : List Z) (ks : List ByteArray) (q : Nat) (h : zwL l + kw ks ≤ 1048576) : (str (outTx g obj l ks q)).size ≤ 63000000 := by
  have h1 := memC_long g hg obj (l.take q) (ks.take q)
  have h2 := zwL_take l q
  have h3 := kw_take ks q
  rw [qstr_size]
  unfold outTx
  simp only [List.length_append, List.length_cons, List.length_drop]
  omega
theorem outTx_first (g : Bs) (obj : Bool) {l : List Z} {ks : List ByteArray} {z : Z} {s : ByteArray} (hz : l[0]? = some z) (hs : obj = true → ks[0]? = some s) : outTx g obj l ks 1 = outTx g obj l ks 0 ++ (keyTx g obj s ++ (g ++ (core g z ++ g))) := by
  unfold outTx
  rw [memC_snoc g obj l ks 0 z s hz hs, List.take_zero, List.take_zero, memC]
  simp
theorem outTx_next (g : Bs) (obj : Bool) {l : List Z} {ks : List ByteArray} {q : Nat} {z : Z} {s : ByteArray} (hq : 0 < q) (hz : l[q]? = some z) (hs : obj = true → ks[q]? = some s) : outTx g obj l ks (q + 1) = outTx g obj l ks q ++ 44 :: (keyTx g obj s ++ (g ++ (core g z ++ g))) := by
  unfold outTx
  rw [memC_snoc g obj l ks q z s hz hs]
  have hl : 0 < (memC g obj (l.take q) (ks.take q)).length := by
    have := memC_len g obj (l.take q) (ks.take q)
    have hlt := (List.getElem?_eq_some_iff.1 hz).1
    rw [List.length_take] at this
    omega
  rw [List.drop_append_of_le_length (by omega)]
  simp
theorem str_cat2 (a b : Bs) : str a ++ str b = str (a ++ b) := by rw [qstr_cat]; rfl
theorem str_lit (c : UInt8) : (⟨#[c]⟩ : ByteArray) = str [c] := rfl
/-- 'spaced' tells of that value. -/
def SpC (g : Bs) (z : Z) : Prop := ∀ (w : World) (v0 v1 v2 v3 : Value), ZIn w (fun b => b < w.heap.size) z v0 v1 v2 v3 → Gl w → Calls Tryd.prog 28 #[.agg #[v0, v1, v2, v3], .string (str g)] w fun e w' => e = .returned (.string (str (spc g z))) ∧ Below w.heap.size w w'
set_option maxHeartbeats 2000000 in
set_option maxRecDepth 100000 in
theorem spaced_leaf (g : Bs) (hg : g.length ≤ 8) (k : Int) (t : ByteArray) (hl : LeafP k t) (ht : t.size ≤ 20000) (A A' : Option Addr) (c1 c2 : Nat) (w : World) (hG : Gl w) :
    Calls Tryd.prog 28 #[.agg #[.int .i64 k, .string t, .slice A 0 c1, .slice A' 0 c2], .string (str g)] w fun e w' => e = .returned (.string (str (spc g (.mk k t [] [])))) ∧ Below w.heap.size w w' := by
  have h6 : k ≠ 6 := by rcases hl with ⟨h | h | h, _⟩ | ⟨h, _⟩ | ⟨h, _⟩ <;> omega
  have h7 : k ≠ 7 := by rcases hl with ⟨h | h | h, _⟩ | ⟨h, _⟩ | ⟨h, _⟩ <;> omega
  have hB0 := heap_alloc_new w (.cells #[.int .i64 k, .string t, .slice A 0 c1, .slice A' 0 c2] 26 (0, 0))
  have hb0 : Below w.heap.size w (w.alloc (.cells #[.int .i64 k, .string t, .slice A 0 c1, .slice A' 0 c2] 26)) := (Below.refl _ _).alloc (Nat.le_refl _) _
  obtain ⟨p0, p1, p2, p3⟩ := cells_4 hB0
  have hpr := rprint_leaf k t hl ht A A' c1 c2 _ (hG.below hb0)
  have htx : spc g (.mk k t [] []) = g ++ leafTx k t ++ g := by unfold spc; rw [core, if_neg h6, if_neg h7]; simp
  have hlen := leaf_long k t
  rw [htx, ← str_cat2, ← str_cat2]
  have hgs : (str g).size ≤ 8 := hg
  have hxs : (str (leafTx k t)).size ≤ 130000 := by rw [qstr_size]; omega
  have k6 : (k == 6) = false := by simp only [beq_eq_false_iff_ne, ne_eq]; omega
  have k7 : (k == 7) = false := by simp only [beq_eq_false_iff_ne, ne_eq]; omega
  have k6' : (k != 6) = true := by simp only [bne, k6]; rfl
  have k7' : (k != 7) = true := by simp only [bne, k7]; rfl
  generalize str (leafTx k t) = X at *
  generalize str g = G at *
  clear hl htx hlen hB0 hG h6 h7
  go_enter Tryd.func28, Tryd.ntmps28
  go_wp2_with fail
  generalize (w.alloc (.cells #[.int .i64 k, .string t, .slice A 0 c1, .slice A' 0 c2] 26)) = W0 at *
  refine hpr.mono ?_
  rintro e w1 ⟨rfl, hb1⟩
  go_wp2
  go_ret
  exact ⟨rfl, hb0.trans (hb1.mono hb0.size)⟩
end Go.Proofs.YtjcnjaebmndeiaaDoor

namespace Go.Proofs.YtjcnjaebmndeiaaDoor
open Go.RowKit

set_option maxHeartbeats 4000000 in
set_option maxRecDepth 100000 in
theorem spaced_arr (g : Bs) (hg : g.length ≤ 8) (l : List Z) (hz : zwL l ≤ 1048576) (hs : ∀ x, x ∈ l → SpC g x) (A A' : Option Addr) (cap cap' : Nat) (c : Nat → Nat → Value) (w : World) (hG : Gl w)
    (hL : 0 < l.length → ∃ g off, A = some ⟨g, off, none⟩ ∧ g < w.heap.size ∧ ∀ i j, i < l.length → j < 4 → w.cell? ⟨g, off + (4 * i + j), none⟩ = some (c i j))
    (hE : ∀ i z, l[i]? = some z → ZIn w (fun b => b < w.heap.size) z (c i 0) (c i 1) (c i 2) (c i 3)) :
    Calls Tryd.prog 28 #[.agg #[.int .i64 6, .string ⟨#[]⟩, .slice A l.length cap, .slice A' 0 cap'], .string (str g)] w fun e w' => e = .returned (.string (str (spc g (.mk 6 ⟨#[]⟩ l [])))) ∧ Below w.heap.size w w' := by
  have hll := zwL_len l
  have hfin : str (spc g (.mk 6 ⟨#[]⟩ l [])) = str (outTx g false l [] l.length) ++ str g ++ (⟨#[93]⟩ : ByteArray) ++ str g := by
    rw [str_cat2, str_lit, str_cat2, str_cat2]
    refine congrArg str ?_
    unfold spc outTx
    rw [core, if_pos rfl, List.take_of_length_le (Nat.le_refl _)]
    all_goals simp
  have hlong : ∀ q, (str (outTx g false l [] q)).size ≤ 63000000 := fun q => outTx_long hg false l [] q (by simpa [kw] using hz)
  have hout0 : str (outTx g false l [] 0) = str g ++ (⟨#[91]⟩ : ByteArray) := by
    rw [str_lit, str_cat2]
    refine congrArg str ?_
    all_goals (unfold outTx; rw [List.take_zero, List.take_zero, memC])
    all_goals simp
  rw [hfin]
  have hgs : (str g).size ≤ 8 := hg
  have HOUT0 := Lib.hid hout0
  have HLONG := Lib.hid hlong
  clear hfin hlong hout0
  generalize hn : l.length = n at *
  have HN := Lib.hid hn
  have hB0 := heap_alloc_new w (.cells #[.int .i64 6, .string ⟨#[]⟩, .slice A n cap, .slice A' 0 cap'] 26 (0, 0))
  have hb0 : Below w.heap.size w (w.alloc (.cells #[.int .i64 6, .string ⟨#[]⟩, .slice A n cap, .slice A' 0 cap'] 26)) := (Below.refl _ _).alloc (Nat.le_refl _) _
  obtain ⟨p0, p1, p2, p3⟩ := cells_4 hB0
  have HG := Lib.hid hG
  have HL := Lib.hid hL
  have HE := Lib.hid hE
  have HS := Lib.hid hs
  have HB0 := Lib.hid hB0
  clear hn hG hL hE hs hB0
  go_enter Tryd.func28, Tryd.ntmps28
  go_wp2
  clear p0 p1 p2 p3
  generalize (w.alloc (.cells #[.int .i64 6, .string ⟨#[]⟩, .slice A n cap, .slice A' 0 cap'] 26)) = W0 at *
  generalize hG0 : str g = G at *
  have HG0 := Lib.hid hG0
  clear hG0
  go_loopg [5, 7] n (fun gg out i wr => ∃ q : Nat, q + gg = n ∧ i = .int .i64 q ∧ out = .string (str (outTx g false l [] q)) ∧ wr.heap[w.heap.size]? = some (.cells #[.int .i64 6, .string ⟨#[]⟩, .slice A n cap, .slice A' 0 cap'] 26 (0, 0)) ∧ Below w.heap.size w wr)
  case atStart => exact ⟨0, by omega, rfl, congrArg Value.string HOUT0.out.symm, HB0.out, hb0⟩
  case round =>
    obtain ⟨q, hqg, rfl, rfl, hbx, hbw⟩ := hrel
    obtain ⟨p0, p1, p2, p3⟩ := cells_4 hbx
    have HBX := Lib.hid hbx
    have hol := HLONG.out q
    clear hbx
    by_cases hq : q < n
    · obtain ⟨x, hx⟩ : ∃ x, l[q]? = some x := ⟨_, List.getElem?_eq_getElem (by have := HN.out; omega)⟩
      obtain ⟨eg, off, rfl, hgw, hc⟩ := HL.out (by omega)
      have hqi : (q : Int) < (n : Int) := by omega
      have hq0 : (0 : Int) ≤ (q : Int) := by omega
      obtain ⟨y0, y1, y2, y3⟩ := elc4 hc hq
      have hf := below_fr hbw
      have x0 := hf.cell y0 hgw
      have x1 := hf.cell y1 hgw
      have x2 := hf.cell y2 hgw
      have x3 := hf.cell y3 hgw
      have hzx := HE.out q x hx
      have hcall : ∀ W, Below w.heap.size w W → Calls Tryd.prog 28 #[.agg #[c q 0, c q 1, c q 2, c q 3], .string (str g)] W fun e w' => e = .returned (.string (str (spc g x))) ∧ Below W.heap.size W w' := fun W hW =>
        HS.out x (List.mem_of_getElem? hx) W _ _ _ _ ((hzx.fr (below_fr hW) (fun _ h => h)).mono (fun b _ hb => Nat.lt_of_lt_of_le hb hW.size)) (HG.out.below hW)
      have hxl : (str (spc g x)).size ≤ 63000000 := by
        have h1 := core_long g hg x
        have h2 := zwL_mem (List.mem_of_getElem? hx)
        rw [qstr_size]; unfold spc; simp only [List.length_append]; omega
      rw [HG0.out] at hcall
      have HCALL := Lib.hid hcall
      have HNX := Lib.hid (show 0 < q → str (outTx g false l [] q) ++ (⟨#[44]⟩ : ByteArray) ++ str (spc g x) = str (outTx g false l [] (q + 1)) from fun h => by
        have := outTx_next g false (l := l) (ks := []) (q := q) (z := x) (s := ⟨#[]⟩) h hx (fun h => by cases h)
        rw [this, str_lit, str_cat2, str_cat2]
        congr 1
        unfold keyTx spc
        simp)
      have HFS := Lib.hid (show q = 0 → str (outTx g false l [] q) ++ str (spc g x) = str (outTx g false l [] (q + 1)) from fun h => by
        subst h
        have := outTx_first g false (l := l) (ks := []) (z := x) (s := ⟨#[]⟩) hx (fun h => by cases h)
        rw [this, str_cat2]
        congr 1)
      generalize str (outTx g false l [] q) = O at *
      generalize str (spc g x) = X at *
      obtain ⟨g', hg'⟩ : ∃ g', gk = g' + 1 := ⟨gk - 1, by omega⟩
      subst hg'
      clear hc hx y0 y1 y2 y3 hf hcall hzx
      generalize c q 0 = a0 at *
      generalize c q 1 = a1 at *
      generalize c q 2 = a2 at *
      generalize c q 3 = a3 at *
      have HBW := Lib.hid hbw
      by_cases hz0 : q = 0
      · have hfs := HFS.out hz0
        have HF1 := Lib.hid hfs
        clear hfs HFS HNX
        subst hz0
        simp only [Nat.zero_mul, Nat.add_zero] at x0 x1 x2 x3
        go_wp2_with fail
        refine (HCALL.out _ hbw).mono ?_
        rintro e w3 ⟨rfl, hb3⟩
        have hbx3 := (below_fr0 hb3).at HBX.out trivial
        have hbw3 : Below w.heap.size w w3 := hbw.trans (hb3.mono hbw.size)
        obtain ⟨r0, r1, r2, r3⟩ := cells_4 hbx3
        go_wp2
        go_roundg g'
        case measure => omega
        case rel => exact ⟨0 + 1, by omega, by go_num, congrArg Value.string HF1.out, hbx3, hbw3⟩
      · have hfs := HNX.out (by omega)
        have HF1 := Lib.hid hfs
        have hz1 : (0 : Int) < (q : Int) := by omega
        clear hfs HFS HNX
        go_wp2_with fail
        refine (HCALL.out _ hbw).mono ?_
        rintro e w3 ⟨rfl, hb3⟩
        have hbx3 := (below_fr0 hb3).at HBX.out trivial
        have hbw3 : Below w.heap.size w w3 := hbw.trans (hb3.mono hbw.size)
        obtain ⟨r0, r1, r2, r3⟩ := cells_4 hbx3
        go_wp2
        go_roundg g'
        case measure => omega
        case rel => exact ⟨q + 1, by omega, by go_num, congrArg Value.string HF1.out, hbx3, hbw3⟩
    · have hqn : q = n := by omega
      subst hqn
      generalize hOO : str (outTx g false l [] q) = O at *
      have HOO := Lib.hid hOO
      clear hOO
      go_wp2
      go_ret
      exact ⟨by rw [HOO.out, HG0.out]; rfl, hbw⟩
end Go.Proofs.YtjcnjaebmndeiaaDoor

namespace Go.Proofs.YtjcnjaebmndeiaaDoor
open Go.RowKit

set_option maxHeartbeats 4000000 in
set_option maxRecDepth 100000 in
theorem spaced_obj (g : Bs) (hg : g.length ≤ 8) (l : List Z) (ks : List ByteArray) (hkn : ks.length = l.length) (hz : zwL l + kw ks ≤ 1048576) (hs : ∀ x, x ∈ l → SpC g x) (A A' : Option Addr) (cap cap' : Nat) (c : Nat → Nat → Value) (w : World) (hG : Gl w)
    (hL : 0 < l.length → ∃ g off, A = some ⟨g, off, none⟩ ∧ g < w.heap.size ∧ ∀ i j, i < l.length → j < 4 → w.cell? ⟨g, off + (4 * i + j), none⟩ = some (c i j))
    (hK : 0 < ks.length → ∃ g off, A' = some ⟨g, off, none⟩ ∧ g < w.heap.size ∧ ∀ i s, ks[i]? = some s → w.cell? ⟨g, off + i, none⟩ = some (.string s))
    (hE : ∀ i z, l[i]? = some z → ZIn w (fun b => b < w.heap.size) z (c i 0) (c i 1) (c i 2) (c i 3)) :
    Calls Tryd.prog 28 #[.agg #[.int .i64 7, .string ⟨#[]⟩, .slice A l.length cap, .slice A' l.length cap'], .string (str g)] w fun e w' => e = .returned (.string (str (spc g (.mk 7 ⟨#[]⟩ l ks)))) ∧ Below w.heap.size w w' := by
  have hll := zwL_len l
  have hfin : str (spc g (.mk 7 ⟨#[]⟩ l ks)) = str (outTx g true l ks l.length) ++ str g ++ (⟨#[125]⟩ : ByteArray) ++ str g := by
    rw [str_cat2, str_lit, str_cat2, str_cat2]
    refine congrArg str ?_
    unfold spc outTx
    rw [core, if_neg (by decide), if_pos rfl, List.take_of_length_le (Nat.le_refl _), List.take_of_length_le (by omega)]
    all_goals simp
  have hlong : ∀ q, (str (outTx g true l ks q)).size ≤ 63000000 := fun q => outTx_long hg true l ks q (by exact hz)
  have hout0 : str (outTx g true l ks 0) = str g ++ (⟨#[123]⟩ : ByteArray) := by
    rw [str_lit, str_cat2]
    refine congrArg str ?_
    all_goals (unfold outTx; rw [List.take_zero, List.take_zero, memC])
    all_goals simp
  rw [hfin]
  have hgs : (str g).size ≤ 8 := hg
  have HOUT0 := Lib.hid hout0
  have HLONG := Lib.hid hlong
  clear hfin hlong hout0
  generalize hn : l.length = n at *
  have HN := Lib.hid hn
  have hB0 := heap_alloc_new w (.cells #[.int .i64 7, .string ⟨#[]⟩, .slice A n cap, .slice A' n cap'] 26 (0, 0))
  have hb0 : Below w.heap.size w (w.alloc (.cells #[.int .i64 7, .string ⟨#[]⟩, .slice A n cap, .slice A' n cap'] 26)) := (Below.refl _ _).alloc (Nat.le_refl _) _
  obtain ⟨p0, p1, p2, p3⟩ := cells_4 hB0
  have HG := Lib.hid hG
  have HL := Lib.hid hL
  have HE := Lib.hid hE
  have HS := Lib.hid hs
  have HB0 := Lib.hid hB0
  have HK := Lib.hid hK
  have HKN := Lib.hid hkn
  clear hK hkn
  clear hn hG hL hE hs hB0
  go_enter Tryd.func28, Tryd.ntmps28
  go_wp2
  clear p0 p1 p2 p3
  generalize (w.alloc (.cells #[.int .i64 7, .string ⟨#[]⟩, .slice A n cap, .slice A' n cap'] 26)) = W0 at *
  generalize hG0 : str g = G at *
  have HG0 := Lib.hid hG0
  clear hG0
  go_loopg [5, 7] n (fun gg out i wr => ∃ q : Nat, q + gg = n ∧ i = .int .i64 q ∧ out = .string (str (outTx g true l ks q)) ∧ wr.heap[w.heap.size]? = some (.cells #[.int .i64 7, .string ⟨#[]⟩, .slice A n cap, .slice A' n cap'] 26 (0, 0)) ∧ Below w.heap.size w wr)
  case atStart => exact ⟨0, by omega, rfl, congrArg Value.string HOUT0.out.symm, HB0.out, hb0⟩
  case round =>
    obtain ⟨q, hqg, rfl, rfl, hbx, hbw⟩ := hrel
    obtain ⟨p0, p1, p2, p3⟩ := cells_4 hbx
    have HBX := Lib.hid hbx
    have hol := HLONG.out q
    clear hbx
    by_cases hq : q < n
    · obtain ⟨x, hx⟩ : ∃ x, l[q]? = some x := ⟨_, List.getElem?_eq_getElem (by have := HN.out; omega)⟩
      obtain ⟨s, hsk⟩ : ∃ s, ks[q]? = some s := ⟨_, List.getElem?_eq_getElem (by have := HKN.out; omega)⟩
      obtain ⟨kg, ko, rfl, hkw, hkc⟩ := HK.out (by have := HKN.out; omega)
      have hssz : s.size ≤ 1048576 := by have := kw_mem (List.mem_of_getElem? hsk); omega
      have hqsz : (str (34 :: (quoL s.data.toList ++ [34]))).size ≤ 6300000 := by
        have := (quoL_len s.data.toList).2
        rw [← size_len] at this
        rw [qstr_size]; simp only [List.length_cons, List.length_append, List.length_nil]; omega
      obtain ⟨eg, off, rfl, hgw, hc⟩ := HL.out (by omega)
      have hqi : (q : Int) < (n : Int) := by omega
      have hq0 : (0 : Int) ≤ (q : Int) := by omega
      obtain ⟨y0, y1, y2, y3⟩ := elc4 hc hq
      have hf := below_fr hbw
      have x0 := hf.cell y0 hgw
      have x1 := hf.cell y1 hgw
      have x2 := hf.cell y2 hgw
      have x3 := hf.cell y3 hgw
      have hzx := HE.out q x hx
      have hcall : ∀ W, Below w.heap.size w W → Calls Tryd.prog 28 #[.agg #[c q 0, c q 1, c q 2, c q 3], .string (str g)] W fun e w' => e = .returned (.string (str (spc g x))) ∧ Below W.heap.size W w' := fun W hW =>
        HS.out x (List.mem_of_getElem? hx) W _ _ _ _ ((hzx.fr (below_fr hW) (fun _ h => h)).mono (fun b _ hb => Nat.lt_of_lt_of_le hb hW.size)) (HG.out.below hW)
      have hxl : (str (spc g x)).size ≤ 63000000 := by
        have h1 := core_long g hg x
        have h2 := zwL_mem (List.mem_of_getElem? hx)
        rw [qstr_size]; unfold spc; simp only [List.length_append]; omega
      rw [HG0.out] at hcall
      have HCALL := Lib.hid hcall
      have k0 := hf.cell (hkc q s hsk) hkw
      have hkt : str (keyTx g true s ++ (g ++ (core g x ++ g))) = G ++ str (34 :: (quoL s.data.toList ++ [34])) ++ G ++ (⟨#[58]⟩ : ByteArray) ++ str (spc g x) := by
        rw [← HG0.out, str_cat2, str_cat2, str_lit, str_cat2, str_cat2]
        congr 1
        unfold keyTx spc
        simp
      have hfst := outTx_first g true (l := l) (ks := ks) (z := x) (s := s)
      have hnxt := outTx_next g true (l := l) (ks := ks) (q := q) (z := x) (s := s)
      have hqc := fun W => quote_big s W (by omega)
      have HQC := Lib.hid hqc
      have HNX := Lib.hid (show 0 < q → str (outTx g true l ks q) ++ (⟨#[44]⟩ : ByteArray) ++ G ++ str (34 :: (quoL s.data.toList ++ [34])) ++ G ++ (⟨#[58]⟩ : ByteArray) ++ str (spc g x) = str (outTx g true l ks (q + 1)) from fun h => by
        rw [hnxt h hx (fun _ => hsk), ← str_cat2, show (44 :: (keyTx g true s ++ (g ++ (core g x ++ g))) : Bs) = [44] ++ (keyTx g true s ++ (g ++ (core g x ++ g))) from rfl, ← str_cat2, hkt, str_lit]
        simp only [ByteArray.append_assoc])
      have HFS := Lib.hid (show q = 0 → str (outTx g true l ks q) ++ G ++ str (34 :: (quoL s.data.toList ++ [34])) ++ G ++ (⟨#[58]⟩ : ByteArray) ++ str (spc g x) = str (outTx g true l ks (q + 1)) from fun h => by
        subst h
        rw [hfst hx (fun _ => hsk), ← str_cat2, hkt]
        simp only [ByteArray.append_assoc])
      generalize str (34 :: (quoL s.data.toList ++ [34])) = Q at *
      clear hkt hfst hnxt hqc hkc hsk
      generalize str (outTx g true l ks q) = O at *
      generalize str (spc g x) = X at *
      obtain ⟨g', hg'⟩ : ∃ g', gk = g' + 1 := ⟨gk - 1, by omega⟩
      subst hg'
      clear hc hx y0 y1 y2 y3 hf hcall hzx
      generalize c q 0 = a0 at *
      generalize c q 1 = a1 at *
      generalize c q 2 = a2 at *
      generalize c q 3 = a3 at *
      have HBW := Lib.hid hbw
      by_cases hz0 : q = 0
      · have hfs := HFS.out hz0
        have HF1 := Lib.hid hfs
        clear hfs HFS HNX
        subst hz0
        simp only [Nat.zero_mul, Nat.add_zero] at x0 x1 x2 x3 k0
        go_wp2_with fail
        refine (HQC.out _).mono ?_
        rintro e w2 ⟨rfl, n2, rfl⟩
        have hbw2 : Below w.heap.size w (wr.drewN n2) := ⟨hbw.os, hbw.tape, hbw.output, hbw.size, hbw.block⟩
        have fr2 : Fr wr (wr.drewN n2) (fun _ => True) := (Fr.refl wr _).drewN n2
        have x0 := fr2.cell x0 trivial
        have x1 := fr2.cell x1 trivial
        have x2 := fr2.cell x2 trivial
        have x3 := fr2.cell x3 trivial
        have p0 := fr2.cell p0 trivial
        have p2 := fr2.cell p2 trivial
        have HBX := Lib.hid (fr2.at HBX.out trivial)
        go_wp2_with fail
        refine (HCALL.out _ hbw2).mono ?_
        rintro e w3 ⟨rfl, hb3⟩
        have hbx3 := (below_fr0 hb3).at HBX.out trivial
        have hbw3 : Below w.heap.size w w3 := hbw2.trans (hb3.mono hbw2.size)
        obtain ⟨r0, r1, r2, r3⟩ := cells_4 hbx3
        go_wp2
        go_roundg g'
        case measure => omega
        case rel => exact ⟨0 + 1, by omega, by go_num, congrArg Value.string HF1.out, hbx3, hbw3⟩
      · have hfs := HNX.out (by omega)
        have HF1 := Lib.hid hfs
        have hz1 : (0 : Int) < (q : Int) := by omega
        clear hfs HFS HNX
        go_wp2_with fail
        refine (HQC.out _).mono ?_
        rintro e w2 ⟨rfl, n2, rfl⟩
        have hbw2 : Below w.heap.size w (wr.drewN n2) := ⟨hbw.os, hbw.tape, hbw.output, hbw.size, hbw.block⟩
        have fr2 : Fr wr (wr.drewN n2) (fun _ => True) := (Fr.refl wr _).drewN n2
        have x0 := fr2.cell x0 trivial
        have x1 := fr2.cell x1 trivial
        have x2 := fr2.cell x2 trivial
        have x3 := fr2.cell x3 trivial
        have p0 := fr2.cell p0 trivial
        have p2 := fr2.cell p2 trivial
        have HBX := Lib.hid (fr2.at HBX.out trivial)
        go_wp2_with fail
        refine (HCALL.out _ hbw2).mono ?_
        rintro e w3 ⟨rfl, hb3⟩
        have hbx3 := (below_fr0 hb3).at HBX.out trivial
        have hbw3 : Below w.heap.size w w3 := hbw2.trans (hb3.mono hbw2.size)
        obtain ⟨r0, r1, r2, r3⟩ := cells_4 hbx3
        go_wp2
        go_roundg g'
        case measure => omega
        case rel => exact ⟨q + 1, by omega, by go_num, congrArg Value.string HF1.out, hbx3, hbw3⟩
    · have hqn : q = n := by omega
      subst hqn
      generalize hOO : str (outTx g true l ks q) = O at *
      have HOO := Lib.hid hOO
      clear hOO
      go_wp2
      go_ret
      exact ⟨by rw [HOO.out, HG0.out]; rfl, hbw⟩
end Go.Proofs.YtjcnjaebmndeiaaDoor

namespace Go.Proofs.YtjcnjaebmndeiaaDoor
open Go.RowKit

theorem spaced_json (g : Bs) (hg : g.length ≤ 8) : ∀ (n : Nat) (z : Z), SizeOf.sizeOf z < n → zn z ≤ 390 → zw z ≤ 1048576 → ∀ d, Rgt d z → SpC g z
  | 0, _, h => by omega
  | n + 1, .mk k t l ks, hsz => fun hz hzw d hr w v0 v1 v2 v3 h hG => by
    rw [Rgt] at hr
    rw [zn] at hz
    rw [zw] at hzw
    have hlz : ∀ x, x ∈ l → zn x ≤ 390 ∧ zw x ≤ 1048576 ∧ SizeOf.sizeOf x < n := fun x hx => by
      have h1 := zwL_mem hx
      have h2 : zn x ≤ znL l := by
        obtain ⟨i, hi⟩ := List.getElem?_of_mem hx
        have := znL_take l i x hi
        have := znL_le l (i + 1)
        omega
      have h3 := List.sizeOf_lt_of_mem hx
      simp only [Z.mk.sizeOf_spec] at hsz
      exact ⟨by omega, by omega, by omega⟩
    have hts : t.size ≤ 20000 := by omega
    cases h with
    | mk _ _ _ _ A A' cap cap' c h1 h2 h3 hcap hcap' hL hK hE =>
      rcases hr with ⟨hl, rfl, rfl⟩ | ⟨⟨rfl, _, hk⟩, hc⟩
      · exact spaced_leaf g hg k t hl hts A A' cap cap' w hG
      · have hs : ∀ x, x ∈ l → SpC g x := fun x hx => spaced_json g hg n x (hlz x hx).2.2 (hlz x hx).1 (hlz x hx).2.1 (d + 1) (RgtL_mem hc x hx)
        rcases hk with ⟨rfl, rfl⟩ | ⟨rfl, hkl, _, _⟩
        · exact spaced_arr g hg l (by omega) hs A A' cap cap' c w hG hL hE
        · have := spaced_obj g hg l ks hkl (by omega) hs A A' cap cap' c w hG hL hK hE
          rw [← hkl] at this
          rw [hkl] at this ⊢
          exact this
theorem rgt_kind {d : Nat} {k : Int} {t : ByteArray} {l : List Z} {ks : List ByteArray} (h : Rgt d (.mk k t l ks)) : 0 ≤ k := by
  rw [Rgt] at h
  rcases h with ⟨⟨h | h | h, _⟩ | ⟨h, _⟩ | ⟨h, _⟩, _⟩ | ⟨⟨_, _, ⟨h, _⟩ | ⟨h, _⟩⟩, _⟩ <;> omega
theorem zin_jin {w : World} {ok : Nat → Prop} {z : Z} {v0 v1 v2 v3 : Value} (h : ZIn w ok z v0 v1 v2 v3) : ∀ d, Rgt d z → JIn w ok (toJ z) v0 v1 v2 v3 := by
  induction h with
  | mk k t l ks A A' cap cap' c h1 h2 h3 hcap hcap' hL hK hE ih =>
    intro d hr
    have hk := rgt_kind hr
    have hll := toJL_len l
    rw [toJ]
    have hkk : ((k.toNat : Nat) : Int) = k := by omega
    have hc : ∀ i z, l[i]? = some z → ∃ d', Rgt d' z := fun i z hz => by
      rw [Rgt] at hr
      rcases hr with ⟨_, hl0, _⟩ | ⟨_, hc⟩
      · have := (List.getElem?_eq_some_iff.1 hz).1
        rw [hl0] at this
        exact absurd this (Nat.not_lt_zero _)
      · exact ⟨_, RgtL_mem hc z (List.mem_of_getElem? hz)⟩
    have := JIn.mk (w := w) (ok := ok) k.toNat t (toJL l) ks A A' cap cap' c (by rw [hll]; exact hcap) hcap' (by rw [hll]; exact hL) hK (fun i t' ht => by
      obtain ⟨z, hz, rfl⟩ := toJL_get l i t' ht
      obtain ⟨d', hd'⟩ := hc i z hz
      exact ih i z hz d' hd')
    rw [hkk, hll] at this
    exact this
theorem znL_len : ∀ (l : List Z), l.length ≤ znL l
  | [] => by simp
  | .mk k t l ks :: r => by have := znL_len r; rw [znL, zn]; simp only [List.length_cons]; omega
theorem znL_mem {l : List Z} {x : Z} (hx : x ∈ l) : zn x ≤ znL l := by
  obtain ⟨i, hi⟩ := List.getElem?_of_mem hx
  have := znL_take l i x hi
  have := znL_le l (i + 1)
  omega
theorem fits_toJ : ∀ (n : Nat) (z : Z), SizeOf.sizeOf z < n → zn z ≤ 1000000 → fits (toJ z)
  | 0, _, h, _ => by omega
  | n + 1, .mk k t l ks, hsz, hz => by
    rw [zn] at hz
    have h1 := znL_len l
    rw [toJ, fits, toJL_len]
    refine ⟨by omega, by omega, ?_⟩
    have hall : ∀ (m : List Z), (∀ x, x ∈ m → fits (toJ x)) → fitsL (toJL m) := fun m => by
      induction m with
      | nil => intro _; rw [toJL, fitsL]; trivial
      | cons a b ih => intro h; rw [toJL, fitsL]; exact ⟨h a (by simp), ih (fun x hx => h x (by simp [hx]))⟩
    refine hall l (fun x hx => fits_toJ n x ?_ ?_)
    · have := List.sizeOf_lt_of_mem hx
      simp only [Z.mk.sizeOf_spec] at hsz
      omega
    · have := znL_mem hx
      omega
end Go.Proofs.YtjcnjaebmndeiaaDoor
