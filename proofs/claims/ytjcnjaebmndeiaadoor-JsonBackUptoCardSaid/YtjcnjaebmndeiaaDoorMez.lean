/-
  'appendMembers' of every array and object whose members are right.
-/
import Derived.Test.YtjcnjaebmndeiaaDoorApl
import Derived.Test.YtjcnjaebmndeiaaDoorApv
namespace Go.Proofs.YtjcnjaebmndeiaaDoor
open Go.RowKit

/-- q members, commas between. -/
def memQ (obj : Bool) (l : List Z) (ks : List ByteArray) (q : Nat) : Bs := (memC [] obj (l.take q) (ks.take q)).drop 1
theorem memQ_zero (obj : Bool) (l : List Z) (ks : List ByteArray) : memQ obj l ks 0 = [] := by unfold memQ; rw [List.take_zero, List.take_zero, memC]; rfl
theorem memQ_first (obj : Bool) {l : List Z} {ks : List ByteArray} {z : Z} {s : ByteArray} (hz : l[0]? = some z) (hs : obj = true → ks[0]? = some s) : memQ obj l ks 1 = keyTx [] obj s ++ core [] z := by
  unfold memQ
  rw [memC_snoc [] obj l ks 0 z s hz hs, List.take_zero, List.take_zero, memC]
  simp
theorem memQ_next (obj : Bool) {l : List Z} {ks : List ByteArray} {q : Nat} {z : Z} {s : ByteArray} (hq : 0 < q) (hz : l[q]? = some z) (hs : obj = true → ks[q]? = some s) : memQ obj l ks (q + 1) = memQ obj l ks q ++ 44 :: (keyTx [] obj s ++ core [] z) := by
  unfold memQ
  rw [memC_snoc [] obj l ks q z s hz hs]
  have hl : 0 < (memC [] obj (l.take q) (ks.take q)).length := by
    have := memC_len [] obj (l.take q) (ks.take q)
    have hlt := (List.getElem?_eq_some_iff.1 hz).1
    rw [List.length_take] at this
    omega
  rw [List.drop_append_of_le_length (by omega)]
  simp
theorem memC_take_le (g : Bs) (obj : Bool) : ∀ (l : List Z) (ks : List ByteArray) (q : Nat), (memC g obj (l.take q) (ks.take q)).length ≤ (memC g obj l ks).length
  | [], _, _ => by simp [memC]
  | x :: r, ks, 0 => by rw [List.take_zero, List.take_zero, memC]; simp
  | x :: r, ks, q + 1 => by
    have ih := memC_take_le g obj r ks.tail q
    have e2 : (ks.take (q + 1)).tail = ks.tail.take q := by cases ks <;> simp
    have e3 : (ks.take (q + 1)).headD ByteArray.empty = ks.headD ByteArray.empty := by cases ks <;> simp
    rw [List.take_succ_cons, memC_cons, memC_cons, e2, e3]
    simp only [List.length_cons, List.length_append]
    omega
theorem memQ_le (obj : Bool) (l : List Z) (ks : List ByteArray) (q : Nat) : (memQ obj l ks q).length ≤ (memC [] obj l ks).length := by
  have := memC_take_le [] obj l ks q
  unfold memQ
  rw [List.length_drop]
  omega
theorem RG.bel {w : World} {B : Nat} {v : Value} {l : Bs} {v1 : Value} {w1 w2 : World} {gs : List (Nat × Obj)} (h : RG w B v l v1 w1 gs) (hb : Below w1.heap.size w1 w2) : RG w B v l v1 w2 gs :=
  h.post (ownsRow_fr h.1.1 (below_fr hb) (fun g e => (h.1.1.lt g e).2)) ⟨hb.os, hb.tape, hb.output, hb.size, fun k hk _ => hb.block k hk⟩ (.inl rfl)
theorem RG.app1 {w : World} {B : Nat} {v : Value} {l : Bs} {v1 v2 : Value} {w1 w2 : World} {gs : List (Nat × Obj)} {c : UInt8} (h : RG w B v l v1 w1 gs) (ho : w2.ownsRow B 5 1 v2 (l.length + 1) (Lib.byteCells l ++ [.int .u8 c.toNat]))
    (hg : w1.grownBy w2 v1.ownBlock) (hb : v2.ownBlock = v1.ownBlock ∨ v2.ownBlock = some w1.heap.size) : RG w B v (l ++ [c]) v2 w2 gs := by
  refine h.post (app_one ho) hg ?_
  rcases hb with e | e
  · exact .inl e
  · exact .inr ⟨_, e, Nat.le_refl _⟩
theorem RG.less {w : World} {B : Nat} {v : Value} {l : Bs} {v1 : Value} {w1 : World} {gs gs' : List (Nat × Obj)} (h : RG w B v l v1 w1 gs) (hs : ∀ p, p ∈ gs' → p ∈ gs) : RG w B v l v1 w1 gs' := ⟨h.1, h.2.1, fun p hp => h.2.2 p (hs p hp)⟩
theorem RG.start {w : World} {B : Nat} {v : Value} {l : Bs} (hown : w.ownsRow B 5 1 v l.length (Lib.byteCells l)) (hB : B ≤ w.heap.size) (o : Obj) : RG w B v l v (w.alloc o) [(w.heap.size, o)] := by
  have hvlt := hown.lt
  refine ⟨⟨hown.alloc _, World.grownBy_alloc w _ _, .inl rfl, by simp; omega, fun e => by have := (hvlt _ e).2; omega⟩, by simp, fun p hp => ?_⟩
  rw [List.mem_singleton] at hp
  subst hp
  exact ⟨heap_alloc_new w _, fun e => by have := (hvlt _ e).2; omega⟩
/-- 'appendValue' writes that value. -/
def AvC (z : Z) : Prop := ∀ (B : Nat) (v : Value) (l : Bs) (W : World) (v0 v1 v2 v3 : Value), ZIn W (fun k => k < B) z v0 v1 v2 v3 → Gl W → 4 ≤ B → W.ownsRow B 5 1 v l.length (Lib.byteCells l) → B ≤ W.heap.size → l.length + (core [] z).length ≤ 190000000 →
  Calls Tryd.prog 46 #[v, .agg #[v0, v1, v2, v3]] W (AppPost W B v (l ++ core [] z))

set_option maxHeartbeats 4000000 in
set_option maxRecDepth 100000 in
theorem members_zarr (B : Nat) (v : Value) (l : Bs) (ls : List Z) (t : ByteArray) (A A' : Option Addr) (c1 c2 : Nat) (c : Nat → Nat → Value) (w : World) (hG : Gl w) (hown : w.ownsRow B 5 1 v l.length (Lib.byteCells l)) (hB : B ≤ w.heap.size) (h4 : 4 ≤ B)
    (hll : l.length + (memC [] false ls []).length ≤ 190000000) (hn : ls.length ≤ 2000000)
    (hL : 0 < ls.length → ∃ g off, A = some ⟨g, off, none⟩ ∧ g < B ∧ ∀ i j, i < ls.length → j < 4 → w.cell? ⟨g, off + (4 * i + j), none⟩ = some (c i j))
    (hE : ∀ i z, ls[i]? = some z → ZIn w (fun b => b < B) z (c i 0) (c i 1) (c i 2) (c i 3)) (hs : ∀ x, x ∈ ls → AvC x) :
    Calls Tryd.prog 72 #[v, .agg #[.int .i64 6, .string t, .slice A ls.length c1, .slice A' 0 c2]] w (AppPost w B v (l ++ memQ false ls [] ls.length)) := by
  obtain ⟨i0, hi, hz0, hz1, hz2⟩ := info_parts Tryd.info5
  have hvlt := hown.lt
  have HML := Lib.hid (memQ_le false ls [])
  have hM0 := memQ_zero false ls []
  generalize hnn : ls.length = n at *
  have HN := Lib.hid hnn
  have hrg0 : RG w B v (l ++ memQ false ls [] 0) v (w.alloc (.cells #[.int .i64 6, .string t, .slice A n c1, .slice A' 0 c2] 26)) [(w.heap.size, .cells #[.int .i64 6, .string t, .slice A n c1, .slice A' 0 c2] 26)] := by
    rw [hM0, List.append_nil]
    exact RG.start hown hB _
  have hbox := hrg0.cell (g := w.heap.size) (cs := #[.int .i64 6, .string t, .slice A n c1, .slice A' 0 c2]) (t := 26) (fr := (0, 0)) (by simp) 2
  have HG := Lib.hid hG
  have HL := Lib.hid hL
  have HE := Lib.hid hE
  have HS := Lib.hid hs
  have HLL := Lib.hid hll
  have HVL := Lib.hid hvlt
  have HR0 := Lib.hid hrg0
  clear hnn hM0 hG hL hE hs hll hvlt hrg0 hown
  go_enter Tryd.func72, Tryd.ntmps72
  go_wp2
  go_loopg [0, 10] n (fun g u i wr => ∃ k : Nat, k + g = n ∧ i = .int .i64 k ∧ RG w B v (l ++ memQ false ls [] k) u wr [(w.heap.size, .cells #[.int .i64 6, .string t, .slice A n c1, .slice A' 0 c2] 26)])
  case atStart => exact ⟨0, by omega, rfl, HR0.out⟩
  case round =>
    obtain ⟨k, hkg, rfl, hrg⟩ := hrel
    clear hbox
    by_cases hk : k < n
    · obtain ⟨x, hx⟩ : ∃ x, ls[k]? = some x := ⟨_, List.getElem?_eq_getElem (by have := HN.out; omega)⟩
      obtain ⟨eg, off, rfl, hgB, hc⟩ := HL.out (by omega)
      have hfr := hrg.1.fr (fun g e => (HVL.out g e).1)
      have hzx := HE.out k x hx
      obtain ⟨y0, y1, y2, y3⟩ := elc4 hc hk
      have d0 := hfr.cell y0 hgB
      have d1 := hfr.cell y1 hgB
      have d2 := hfr.cell y2 hgB
      have d3 := hfr.cell y3 hgB
      obtain ⟨kx, tx, Ax, m1, cx1, Ax', m2, cx2, e0, e1, e2, e3⟩ := zin_agg hzx
      rw [e0] at d0
      rw [e1] at d1
      rw [e2] at d2
      rw [e3] at d3
      rw [e0, e1, e2, e3] at hzx
      have hav := HS.out x (List.mem_of_getElem? hx)
      have hcall : ∀ (w7 : World) (v7 : Value) (l7 : Bs) (gs7 : List (Nat × Obj)), RG w B v l7 v7 w7 gs7 → l7.length + (core [] x).length ≤ 190000000 → Calls Tryd.prog 46 #[v7, .agg #[.int .i64 kx, .string tx, .slice Ax m1 cx1, .slice Ax' m2 cx2]] w7 (AppPost w7 B v7 (l7 ++ core [] x)) := fun w7 v7 l7 gs7 h7 hl7 =>
        hav B v7 l7 w7 _ _ _ _ (hzx.fr (h7.1.fr (fun g e => (HVL.out g e).1)) (fun _ h => h)) (HG.out.kept h7.1.2.1 (fun k e => by have := (HVL.out k e).1; omega)) h4 h7.1.1 h7.1.2.2.2.1 hl7
      have hfin : ∀ (w7 : World) (v7 : Value) (l7 : Bs) (gs7 : List (Nat × Obj)), RG w B v l7 v7 w7 gs7 → (w.heap.size, Obj.cells #[.int .i64 6, .string t, .slice (some ⟨eg, off, none⟩) n c1, .slice A' 0 c2] 26) ∈ gs7 → l7 ++ core [] x = l ++ memQ false ls [] (k + 1) → ∀ e w8, AppPost w7 B v7 (l7 ++ core [] x) e w8 →
          ∃ v8, e = .returned v8 ∧ ∃ k' : Nat, k' + (n - (k + 1)) = n ∧ Value.int .i64 ((k : Int) + 1) = .int .i64 k' ∧ RG w B v (l ++ memQ false ls [] k') v8 w8 [(w.heap.size, .cells #[.int .i64 6, .string t, .slice (some ⟨eg, off, none⟩) n c1, .slice A' 0 c2] 26)] := fun w7 v7 l7 gs7 h7 hm7 he7 e w8 h8 => by
        obtain ⟨v8, rfl, ho8, hg8, hb8⟩ := h8
        have h9 := h7.post ho8 hg8 hb8
        rw [he7] at h9
        exact ⟨v8, rfl, k + 1, by omega, by simp, h9.less (fun p hp => by rw [List.mem_singleton] at hp; subst hp; exact hm7)⟩
      have p2 := hrg.cell (g := w.heap.size) (cs := #[.int .i64 6, .string t, .slice (some ⟨eg, off, none⟩) n c1, .slice A' 0 c2]) (t := 26) (fr := (0, 0)) (by simp) 2
      have p0 := hrg.cell (g := w.heap.size) (cs := #[.int .i64 6, .string t, .slice (some ⟨eg, off, none⟩) n c1, .slice A' 0 c2]) (t := 26) (fr := (0, 0)) (by simp) 0
      have hle := HML.out (k + 1)
      have hle0 := HML.out k
      have hfst := memQ_first false (l := ls) (ks := []) (z := x) (s := ⟨#[]⟩)
      have hnxt := memQ_next false (l := ls) (ks := []) (q := k) (z := x) (s := ⟨#[]⟩)
      have hqd : keyTx [] false (⟨#[]⟩ : ByteArray) ++ core [] x = core [] x := by
        unfold keyTx
        simp
      rw [hqd] at hfst hnxt
      clear hqd
      have HCALL := Lib.hid hcall
      have HFIN := Lib.hid hfin
      have HFST := Lib.hid hfst
      have HNXT := Lib.hid hnxt
      have HLE := Lib.hid hle
      have HX := Lib.hid hx
      clear hcall hfin hfst hnxt hle hx hav hzx hc y0 y1 y2 y3 hfr e0 e1 e2 e3
      have hcap := HLL.out
      have hn1 : k < 2000000 := by omega
      have HLC := Lib.hid (show (l ++ memQ false ls [] (k + 1)).length ≤ 190000000 by have := HLE.out; rw [List.length_append]; omega)
      clear hcap hle0
      generalize core [] x = cx at *
      by_cases hk0 : k = 0
      · have HE1 : Hid ((l ++ memQ false ls [] k) ++ cx = l ++ memQ false ls [] (k + 1)) := by
          show _ = _
          subst hk0
          rw [memQ_zero, HFST.out HX.out (fun h => by cases h)]
          simp
        generalize memQ false ls [] k = mm at *
        have hk1 : ¬ (0 < (k : Int)) := by omega
        have hlc := HLC.out
        rw [← HE1.out] at hlc
        have hb4 : (l ++ mm).length + cx.length ≤ 190000000 := by simp only [List.length_append] at hlc ⊢; omega
        clear hlc hk0
        have hrgx := hrg.alloc (.cells #[.int .i64 kx, .string tx, .slice Ax m1 cx1, .slice Ax' m2 cx2] 26)
        have hrg4 := hrgx
        have z0 := hrgx.cell (g := w.heap.size) (cs := #[.int .i64 6, .string t, .slice (some ⟨eg, off, none⟩) n c1, .slice A' 0 c2]) (t := 26) (fr := (0, 0)) (by simp) 0
        go_wp2_with fail
        refine (HCALL.out _ _ _ _ hrg4 hb4).mono fun e w8 h8 => ?_
        obtain ⟨v8, rfl, hr8⟩ := HFIN.out _ _ _ _ hrg4 (by simp) HE1.out e w8 h8
        have HR8 := Lib.hid hr8
        clear hr8 h8
        go_wp2
        go_roundg (n - (k + 1))
        case measure => omega
        case rel => exact HR8.out
      · have hk1 : 0 < (k : Int) := by omega
        have HE1 : Hid ((l ++ memQ false ls [] k ++ [44]) ++ cx = l ++ memQ false ls [] (k + 1)) := by
          show _ = _
          rw [HNXT.out (by omega) HX.out (fun h => by cases h)]
          simp
        generalize memQ false ls [] k = mm at *
        have hlc := HLC.out
        rw [← HE1.out] at hlc
        have hb1 : (l ++ mm).length + 1 ≤ 190000000 := by simp only [List.length_append, List.length_cons, List.length_nil] at hlc ⊢; omega
        have hb4 : (l ++ mm ++ [44]).length + cx.length ≤ 190000000 := by simp only [List.length_append, List.length_cons, List.length_nil] at hlc ⊢; omega
        clear hlc hk0
        have hrgx := hrg.alloc (.cells #[.int .i64 kx, .string tx, .slice Ax m1 cx1, .slice Ax' m2 cx2] 26)
        go_wp2_with (at_builtin; refine wpList_append_own_at _ rfl _ _ 50 rfl B 5 i0 _ 1 1 Tryd.underlying50 hi hz0 hz1 hz2 rfl (by decide) _ _ _ rfl (hrgx.1.1.alloc _) ⟨wr.heap.size + 1, 0, none⟩ 1 1 [.int .u8 44] rfl rfl (by have := cell_one_new (wr.alloc (.cells #[.int .i64 kx, .string tx, .slice Ax m1 cx1, .slice Ax' m2 cx2] 26)) (.int .u8 44) 5; simpa using this) (by simp [Value.oneCell']) (by unfold maxLen; omega) (by omega) (by have := hrgx.1.2.2.2.1; simp at this ⊢; omega) ?_; intro v4 w4 hown4 hg4 _ hb4; have hrg4 := ((hrgx.alloc _).app1 (c := 44) hown4 hg4 hb4); clear hown4 hg4 hb4; have z0 := (hrg4.cell (g := w.heap.size) (cs := #[.int .i64 6, .string t, .slice (some ⟨eg, off, none⟩) n c1, .slice A' 0 c2]) (t := 26) (fr := (0, 0)) (by simp) 0); have x0 := (hrg4.cell (g := wr.heap.size) (cs := #[.int .i64 kx, .string tx, .slice Ax m1 cx1, .slice Ax' m2 cx2]) (t := 26) (fr := (0, 0)) (by simp) 0); have x1 := (hrg4.cell (g := wr.heap.size) (cs := #[.int .i64 kx, .string tx, .slice Ax m1 cx1, .slice Ax' m2 cx2]) (t := 26) (fr := (0, 0)) (by simp) 1); have x2 := (hrg4.cell (g := wr.heap.size) (cs := #[.int .i64 kx, .string tx, .slice Ax m1 cx1, .slice Ax' m2 cx2]) (t := 26) (fr := (0, 0)) (by simp) 2); have x3 := (hrg4.cell (g := wr.heap.size) (cs := #[.int .i64 kx, .string tx, .slice Ax m1 cx1, .slice Ax' m2 cx2]) (t := 26) (fr := (0, 0)) (by simp) 3))
        refine (HCALL.out _ _ _ _ hrg4 hb4).mono fun e w8 h8 => ?_
        obtain ⟨v8, rfl, hr8⟩ := HFIN.out _ _ _ _ hrg4 (by simp) HE1.out e w8 h8
        have HR8 := Lib.hid hr8
        clear hr8 h8
        go_wp2
        go_roundg (n - (k + 1))
        case measure => omega
        case rel => exact HR8.out
    · have hkn : k = n := by omega
      subst hkn
      go_wp2
      go_ret
      exact ⟨u0, rfl, hrg.1.1, hrg.1.2.1, hrg.1.2.2.1⟩
set_option maxHeartbeats 4000000 in
set_option maxRecDepth 100000 in
theorem members_zobj (B : Nat) (v : Value) (l : Bs) (ls : List Z) (ks : List ByteArray) (t : ByteArray) (A A' : Option Addr) (c1 c2 : Nat) (c : Nat → Nat → Value) (w : World) (hG : Gl w) (hown : w.ownsRow B 5 1 v l.length (Lib.byteCells l)) (hB : B ≤ w.heap.size) (h4 : 4 ≤ B)
    (hll : l.length + (memC [] true ls ks).length ≤ 190000000) (hkn : ks.length = ls.length) (hn : ls.length ≤ 2000000) (hks : ∀ s, s ∈ ks → s.size ≤ 1100000)
    (hL : 0 < ls.length → ∃ g off, A = some ⟨g, off, none⟩ ∧ g < B ∧ ∀ i j, i < ls.length → j < 4 → w.cell? ⟨g, off + (4 * i + j), none⟩ = some (c i j))
    (hK : 0 < ks.length → ∃ g off, A' = some ⟨g, off, none⟩ ∧ g < B ∧ ∀ i s, ks[i]? = some s → w.cell? ⟨g, off + i, none⟩ = some (.string s))
    (hE : ∀ i z, ls[i]? = some z → ZIn w (fun b => b < B) z (c i 0) (c i 1) (c i 2) (c i 3)) (hs : ∀ x, x ∈ ls → AvC x) :
    Calls Tryd.prog 72 #[v, .agg #[.int .i64 7, .string t, .slice A ls.length c1, .slice A' ls.length c2]] w (AppPost w B v (l ++ memQ true ls ks ls.length)) := by
  obtain ⟨i0, hi, hz0, hz1, hz2⟩ := info_parts Tryd.info5
  have hvlt := hown.lt
  have HML := Lib.hid (memQ_le true ls ks)
  have hM0 := memQ_zero true ls ks
  generalize hnn : ls.length = n at *
  have HN := Lib.hid hnn
  have hrg0 : RG w B v (l ++ memQ true ls ks 0) v (w.alloc (.cells #[.int .i64 7, .string t, .slice A n c1, .slice A' n c2] 26)) [(w.heap.size, .cells #[.int .i64 7, .string t, .slice A n c1, .slice A' n c2] 26)] := by
    rw [hM0, List.append_nil]
    exact RG.start hown hB _
  have hbox := hrg0.cell (g := w.heap.size) (cs := #[.int .i64 7, .string t, .slice A n c1, .slice A' n c2]) (t := 26) (fr := (0, 0)) (by simp) 2
  have HG := Lib.hid hG
  have HL := Lib.hid hL
  have HE := Lib.hid hE
  have HS := Lib.hid hs
  have HLL := Lib.hid hll
  have HVL := Lib.hid hvlt
  have HR0 := Lib.hid hrg0
  have HK := Lib.hid hK
  have HKN := Lib.hid hkn
  have HKS := Lib.hid hks
  clear hnn hM0 hG hL hE hs hll hvlt hrg0 hown hK hkn hks
  go_enter Tryd.func72, Tryd.ntmps72
  go_wp2
  go_loopg [0, 10] n (fun g u i wr => ∃ k : Nat, k + g = n ∧ i = .int .i64 k ∧ RG w B v (l ++ memQ true ls ks k) u wr [(w.heap.size, .cells #[.int .i64 7, .string t, .slice A n c1, .slice A' n c2] 26)])
  case atStart => exact ⟨0, by omega, rfl, HR0.out⟩
  case round =>
    obtain ⟨k, hkg, rfl, hrg⟩ := hrel
    clear hbox
    by_cases hk : k < n
    · obtain ⟨x, hx⟩ : ∃ x, ls[k]? = some x := ⟨_, List.getElem?_eq_getElem (by have := HN.out; omega)⟩
      obtain ⟨s, hsk⟩ : ∃ s, ks[k]? = some s := ⟨_, List.getElem?_eq_getElem (by have := HKN.out; omega)⟩
      obtain ⟨kg, ko, rfl, hkB, hkc⟩ := HK.out (by have := HKN.out; omega)
      have hssz := HKS.out s (List.mem_of_getElem? hsk)
      obtain ⟨eg, off, rfl, hgB, hc⟩ := HL.out (by omega)
      have hfr := hrg.1.fr (fun g e => (HVL.out g e).1)
      have hzx := HE.out k x hx
      obtain ⟨y0, y1, y2, y3⟩ := elc4 hc hk
      have d0 := hfr.cell y0 hgB
      have d1 := hfr.cell y1 hgB
      have d2 := hfr.cell y2 hgB
      have d3 := hfr.cell y3 hgB
      obtain ⟨kx, tx, Ax, m1, cx1, Ax', m2, cx2, e0, e1, e2, e3⟩ := zin_agg hzx
      rw [e0] at d0
      rw [e1] at d1
      rw [e2] at d2
      rw [e3] at d3
      rw [e0, e1, e2, e3] at hzx
      have hav := HS.out x (List.mem_of_getElem? hx)
      have hcall : ∀ (w7 : World) (v7 : Value) (l7 : Bs) (gs7 : List (Nat × Obj)), RG w B v l7 v7 w7 gs7 → l7.length + (core [] x).length ≤ 190000000 → Calls Tryd.prog 46 #[v7, .agg #[.int .i64 kx, .string tx, .slice Ax m1 cx1, .slice Ax' m2 cx2]] w7 (AppPost w7 B v7 (l7 ++ core [] x)) := fun w7 v7 l7 gs7 h7 hl7 =>
        hav B v7 l7 w7 _ _ _ _ (hzx.fr (h7.1.fr (fun g e => (HVL.out g e).1)) (fun _ h => h)) (HG.out.kept h7.1.2.1 (fun k e => by have := (HVL.out k e).1; omega)) h4 h7.1.1 h7.1.2.2.2.1 hl7
      have hfin : ∀ (w7 : World) (v7 : Value) (l7 : Bs) (gs7 : List (Nat × Obj)), RG w B v l7 v7 w7 gs7 → (w.heap.size, Obj.cells #[.int .i64 7, .string t, .slice (some ⟨eg, off, none⟩) n c1, .slice (some ⟨kg, ko, none⟩) n c2] 26) ∈ gs7 → l7 ++ core [] x = l ++ memQ true ls ks (k + 1) → ∀ e w8, AppPost w7 B v7 (l7 ++ core [] x) e w8 →
          ∃ v8, e = .returned v8 ∧ ∃ k' : Nat, k' + (n - (k + 1)) = n ∧ Value.int .i64 ((k : Int) + 1) = .int .i64 k' ∧ RG w B v (l ++ memQ true ls ks k') v8 w8 [(w.heap.size, .cells #[.int .i64 7, .string t, .slice (some ⟨eg, off, none⟩) n c1, .slice (some ⟨kg, ko, none⟩) n c2] 26)] := fun w7 v7 l7 gs7 h7 hm7 he7 e w8 h8 => by
        obtain ⟨v8, rfl, ho8, hg8, hb8⟩ := h8
        have h9 := h7.post ho8 hg8 hb8
        rw [he7] at h9
        exact ⟨v8, rfl, k + 1, by omega, by simp, h9.less (fun p hp => by rw [List.mem_singleton] at hp; subst hp; exact hm7)⟩
      have p2 := hrg.cell (g := w.heap.size) (cs := #[.int .i64 7, .string t, .slice (some ⟨eg, off, none⟩) n c1, .slice (some ⟨kg, ko, none⟩) n c2]) (t := 26) (fr := (0, 0)) (by simp) 2
      have p0 := hrg.cell (g := w.heap.size) (cs := #[.int .i64 7, .string t, .slice (some ⟨eg, off, none⟩) n c1, .slice (some ⟨kg, ko, none⟩) n c2]) (t := 26) (fr := (0, 0)) (by simp) 0
      have p3 := hrg.cell (g := w.heap.size) (cs := #[.int .i64 7, .string t, .slice (some ⟨eg, off, none⟩) n c1, .slice (some ⟨kg, ko, none⟩) n c2]) (t := 26) (fr := (0, 0)) (by simp) 3
      have k0 := hfr.cell (hkc k s hsk) hkB
      have hkey : ∀ (w7 : World) (v7 : Value) (l7 : Bs) (gs7 : List (Nat × Obj)), RG w B v l7 v7 w7 gs7 → w7.cell? ⟨kg, ko + k, none⟩ = some (.string s) := fun w7 v7 l7 gs7 h7 => (h7.1.fr (fun g e => (HVL.out g e).1)).cell (hkc k s hsk) hkB
      have hle := HML.out (k + 1)
      have hle0 := HML.out k
      have hfst := memQ_first true (l := ls) (ks := ks) (z := x) (s := s)
      have hnxt := memQ_next true (l := ls) (ks := ks) (q := k) (z := x) (s := s)
      have hqd : keyTx [] true s ++ core [] x = (str (34 :: (quoL s.data.toList ++ [34]))).data.toList ++ ([58] ++ core [] x) := by
        show _ = (34 :: (quoL s.data.toList ++ [34])) ++ ([58] ++ core [] x)
        unfold keyTx
        simp
      have hqt := fun W => quote_text s W hssz
      have HQT := Lib.hid hqt
      rw [hqd] at hfst hnxt
      generalize str (34 :: (quoL s.data.toList ++ [34])) = Q at *
      have hQs := (size_len Q).symm
      generalize hQL : Q.data.toList = QL at *
      have HQL := Lib.hid hQL
      have HQS := Lib.hid hQs
      clear hqd hqt hQL hQs
      have HCALL := Lib.hid hcall
      have HFIN := Lib.hid hfin
      have HFST := Lib.hid hfst
      have HNXT := Lib.hid hnxt
      have HLE := Lib.hid hle
      have HX := Lib.hid hx
      have HKEY := Lib.hid hkey
      have HSK := Lib.hid hsk
      clear hcall hfin hfst hnxt hle hx hav hzx hc y0 y1 y2 y3 hfr e0 e1 e2 e3 hkc hsk hkey
      have hcap := HLL.out
      have hn1 : k < 2000000 := by omega
      have HLC := Lib.hid (show (l ++ memQ true ls ks (k + 1)).length ≤ 190000000 by have := HLE.out; rw [List.length_append]; omega)
      clear hcap hle0
      generalize core [] x = cx at *
      by_cases hk0 : k = 0
      · have HE1 : Hid ((l ++ memQ true ls ks k) ++ QL ++ [58] ++ cx = l ++ memQ true ls ks (k + 1)) := by
          show _ = _
          subst hk0
          rw [memQ_zero, HFST.out HX.out (fun _ => HSK.out)]
          simp
        generalize memQ true ls ks k = mm at *
        have hk1 : ¬ (0 < (k : Int)) := by omega
        have hlc := HLC.out
        rw [← HE1.out] at hlc
        have hb2 : (l ++ mm).length + Q.size ≤ 190000000 := by have := HQS.out; simp only [List.length_append, List.length_cons, List.length_nil] at hlc ⊢; omega
        have hb3 : (l ++ mm ++ QL).length + 1 ≤ 190000000 := by simp only [List.length_append, List.length_cons, List.length_nil] at hlc ⊢; omega
        have hb4 : (l ++ mm ++ QL ++ [58]).length + cx.length ≤ 190000000 := by simp only [List.length_append, List.length_cons, List.length_nil] at hlc ⊢; omega
        clear hlc hk0
        have hrgx := hrg.alloc (.cells #[.int .i64 kx, .string tx, .slice Ax m1 cx1, .slice Ax' m2 cx2] 26)
        have hrg4 := hrgx
        have z0 := hrgx.cell (g := w.heap.size) (cs := #[.int .i64 7, .string t, .slice (some ⟨eg, off, none⟩) n c1, .slice (some ⟨kg, ko, none⟩) n c2]) (t := 26) (fr := (0, 0)) (by simp) 0
        have z3 := hrgx.cell (g := w.heap.size) (cs := #[.int .i64 7, .string t, .slice (some ⟨eg, off, none⟩) n c1, .slice (some ⟨kg, ko, none⟩) n c2]) (t := 26) (fr := (0, 0)) (by simp) 3
        have k4 := HKEY.out _ _ _ _ hrgx
        go_wp2_with fail
        refine (HQT.out _).mono ?_
        rintro e w5 ⟨rfl, hb5⟩
        have hrg5 := hrg4.bel hb5
        clear z0 z3 k4 hb5 p0 p2 p3 k0 d0 d1 d2 d3
        go_wp2_with (first | (at_builtin; refine wp_app_string rfl _ _ rfl i0 hi hz0 hz1 hz2 B _ _ rfl hrg5.1.1 Q rfl (by omega) hrg5.1.2.2.2.1 ?_; intro v6 w6 ho6 hg6 hb6; rw [HQL.out] at ho6; have hrg6 := (hrg5.post ho6 hg6 hb6); clear ho6 hg6 hb6) | (at_builtin; refine wpList_append_own_at _ rfl _ _ 50 rfl B 5 i0 _ 1 1 Tryd.underlying50 hi hz0 hz1 hz2 rfl (by decide) _ _ _ rfl (hrg6.1.1.alloc _) ⟨w6.heap.size, 0, none⟩ 1 1 [.int .u8 58] rfl rfl (by have := cell_one_new (w6) (.int .u8 58) 5; simpa using this) (by simp [Value.oneCell']) (by unfold maxLen; omega) (by omega) (by have := hrg6.1.2.2.2.1; simp at this ⊢; omega) ?_; intro v7 w7 hown4 hg4 _ hb4; have hrg7 := ((hrg6.alloc _).app1 (c := 58) hown4 hg4 hb4); clear hown4 hg4 hb4; have x0 := (hrg7.cell (g := wr.heap.size) (cs := #[.int .i64 kx, .string tx, .slice Ax m1 cx1, .slice Ax' m2 cx2]) (t := 26) (fr := (0, 0)) (by simp) 0); have x1 := (hrg7.cell (g := wr.heap.size) (cs := #[.int .i64 kx, .string tx, .slice Ax m1 cx1, .slice Ax' m2 cx2]) (t := 26) (fr := (0, 0)) (by simp) 1); have x2 := (hrg7.cell (g := wr.heap.size) (cs := #[.int .i64 kx, .string tx, .slice Ax m1 cx1, .slice Ax' m2 cx2]) (t := 26) (fr := (0, 0)) (by simp) 2); have x3 := (hrg7.cell (g := wr.heap.size) (cs := #[.int .i64 kx, .string tx, .slice Ax m1 cx1, .slice Ax' m2 cx2]) (t := 26) (fr := (0, 0)) (by simp) 3)))
        refine (HCALL.out _ _ _ _ hrg7 hb4).mono fun e w8 h8 => ?_
        obtain ⟨v8, rfl, hr8⟩ := HFIN.out _ _ _ _ hrg7 (by simp) HE1.out e w8 h8
        have HR8 := Lib.hid hr8
        clear hr8 h8
        go_wp2
        go_roundg (n - (k + 1))
        case measure => omega
        case rel => exact HR8.out
      · have hk1 : 0 < (k : Int) := by omega
        have HE1 : Hid ((l ++ memQ true ls ks k ++ [44]) ++ QL ++ [58] ++ cx = l ++ memQ true ls ks (k + 1)) := by
          show _ = _
          rw [HNXT.out (by omega) HX.out (fun _ => HSK.out)]
          simp
        generalize memQ true ls ks k = mm at *
        have hlc := HLC.out
        rw [← HE1.out] at hlc
        have hb1 : (l ++ mm).length + 1 ≤ 190000000 := by simp only [List.length_append, List.length_cons, List.length_nil] at hlc ⊢; omega
        have hb2 : (l ++ mm ++ [44]).length + Q.size ≤ 190000000 := by have := HQS.out; simp only [List.length_append, List.length_cons, List.length_nil] at hlc ⊢; omega
        have hb3 : (l ++ mm ++ [44] ++ QL).length + 1 ≤ 190000000 := by simp only [List.length_append, List.length_cons, List.length_nil] at hlc ⊢; omega
        have hb4 : (l ++ mm ++ [44] ++ QL ++ [58]).length + cx.length ≤ 190000000 := by simp only [List.length_append, List.length_cons, List.length_nil] at hlc ⊢; omega
        clear hlc hk0
        have hrgx := hrg.alloc (.cells #[.int .i64 kx, .string tx, .slice Ax m1 cx1, .slice Ax' m2 cx2] 26)
        go_wp2_with (at_builtin; refine wpList_append_own_at _ rfl _ _ 50 rfl B 5 i0 _ 1 1 Tryd.underlying50 hi hz0 hz1 hz2 rfl (by decide) _ _ _ rfl (hrgx.1.1.alloc _) ⟨wr.heap.size + 1, 0, none⟩ 1 1 [.int .u8 44] rfl rfl (by have := cell_one_new (wr.alloc (.cells #[.int .i64 kx, .string tx, .slice Ax m1 cx1, .slice Ax' m2 cx2] 26)) (.int .u8 44) 5; simpa using this) (by simp [Value.oneCell']) (by unfold maxLen; omega) (by omega) (by have := hrgx.1.2.2.2.1; simp at this ⊢; omega) ?_; intro v4 w4 hown4 hg4 _ hb4; have hrg4 := ((hrgx.alloc _).app1 (c := 44) hown4 hg4 hb4); clear hown4 hg4 hb4; have z0 := (hrg4.cell (g := w.heap.size) (cs := #[.int .i64 7, .string t, .slice (some ⟨eg, off, none⟩) n c1, .slice (some ⟨kg, ko, none⟩) n c2]) (t := 26) (fr := (0, 0)) (by simp) 0); have z3 := (hrg4.cell (g := w.heap.size) (cs := #[.int .i64 7, .string t, .slice (some ⟨eg, off, none⟩) n c1, .slice (some ⟨kg, ko, none⟩) n c2]) (t := 26) (fr := (0, 0)) (by simp) 3); have k4 := HKEY.out _ _ _ _ hrg4)
        refine (HQT.out _).mono ?_
        rintro e w5 ⟨rfl, hb5⟩
        have hrg5 := hrg4.bel hb5
        clear z0 z3 k4 hb5 p0 p2 p3 k0 d0 d1 d2 d3
        go_wp2_with (first | (at_builtin; refine wp_app_string rfl _ _ rfl i0 hi hz0 hz1 hz2 B _ _ rfl hrg5.1.1 Q rfl (by omega) hrg5.1.2.2.2.1 ?_; intro v6 w6 ho6 hg6 hb6; rw [HQL.out] at ho6; have hrg6 := (hrg5.post ho6 hg6 hb6); clear ho6 hg6 hb6) | (at_builtin; refine wpList_append_own_at _ rfl _ _ 50 rfl B 5 i0 _ 1 1 Tryd.underlying50 hi hz0 hz1 hz2 rfl (by decide) _ _ _ rfl (hrg6.1.1.alloc _) ⟨w6.heap.size, 0, none⟩ 1 1 [.int .u8 58] rfl rfl (by have := cell_one_new (w6) (.int .u8 58) 5; simpa using this) (by simp [Value.oneCell']) (by unfold maxLen; omega) (by omega) (by have := hrg6.1.2.2.2.1; simp at this ⊢; omega) ?_; intro v7 w7 hown4 hg4 _ hb4; have hrg7 := ((hrg6.alloc _).app1 (c := 58) hown4 hg4 hb4); clear hown4 hg4 hb4; have x0 := (hrg7.cell (g := wr.heap.size) (cs := #[.int .i64 kx, .string tx, .slice Ax m1 cx1, .slice Ax' m2 cx2]) (t := 26) (fr := (0, 0)) (by simp) 0); have x1 := (hrg7.cell (g := wr.heap.size) (cs := #[.int .i64 kx, .string tx, .slice Ax m1 cx1, .slice Ax' m2 cx2]) (t := 26) (fr := (0, 0)) (by simp) 1); have x2 := (hrg7.cell (g := wr.heap.size) (cs := #[.int .i64 kx, .string tx, .slice Ax m1 cx1, .slice Ax' m2 cx2]) (t := 26) (fr := (0, 0)) (by simp) 2); have x3 := (hrg7.cell (g := wr.heap.size) (cs := #[.int .i64 kx, .string tx, .slice Ax m1 cx1, .slice Ax' m2 cx2]) (t := 26) (fr := (0, 0)) (by simp) 3)))
        refine (HCALL.out _ _ _ _ hrg7 hb4).mono fun e w8 h8 => ?_
        obtain ⟨v8, rfl, hr8⟩ := HFIN.out _ _ _ _ hrg7 (by simp) HE1.out e w8 h8
        have HR8 := Lib.hid hr8
        clear hr8 h8
        go_wp2
        go_roundg (n - (k + 1))
        case measure => omega
        case rel => exact HR8.out
    · have hkn : k = n := by omega
      subst hkn
      go_wp2
      go_ret
      exact ⟨u0, rfl, hrg.1.1, hrg.1.2.1, hrg.1.2.2.1⟩
end Go.Proofs.YtjcnjaebmndeiaaDoor
