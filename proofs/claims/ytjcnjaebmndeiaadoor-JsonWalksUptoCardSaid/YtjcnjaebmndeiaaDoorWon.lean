/-
  'Walk$1', told to a range's body.
-/
import Derived.Test.YtjcnjaebmndeiaaDoorEcw
import Derived.Test.YtjcnjaebmndeiaaDoorTel
import Derived.Test.YtjcnjaebmndeiaaDoorFlt
import Derived.Test.YtjcnjaebmndeiaaDoorBrg
namespace Go.Proofs.YtjcnjaebmndeiaaDoor
open Go.RowKit Go.Shelf
attribute [local go_sem] Oper.semAt_some

def zmap (p : Nat × ZT) : Nat × Z := (p.1, p.2.t)
mutual
theorem zpre_map {w : World} {ok : Nat → Prop} : ∀ (x : ZT) (d : Nat), ZVIn w ok x → (zpre d x).map zmap = pz d x.t
  | .mk z a b c e ks, d, h => by
    have ih := zpreL_map ks (d + 1) h.kid
    have hts : ks.map ZT.t = z.l := h.ts
    rw [zpre, List.map_cons, ih, hts]
    cases z with
    | mk k t l kk => rw [show ZT.t (.mk (.mk k t l kk) a b c e ks) = .mk k t l kk from rfl, pz]; rfl
theorem zpreL_map {w : World} {ok : Nat → Prop} : ∀ (l : List ZT) (d : Nat), (∀ x, x ∈ l → ZVIn w ok x) → (zpreL d l).map zmap = pzL d (l.map ZT.t)
  | [], d, _ => by rw [zpreL, List.map_nil, List.map_nil, pzL]
  | x :: r, d, h => by
    rw [zpreL, List.map_append, zpre_map x d (h x (by simp)), zpreL_map r d (fun y hy => h y (by simp [hy])), List.map_cons, pzL]
end
/-- What telling has taken of the room. -/
def taken : List (Nat × Z) → Nat
  | [] => 0
  | p :: r => (72 * zc p.2 + 16 * zk p.2) + taken r
theorem taken_app : ∀ (a b : List (Nat × Z)), taken (a ++ b) = taken a + taken b
  | [], b => by simp [taken]
  | p :: r, b => by rw [List.cons_append, taken, taken, taken_app r b]; omega
mutual
theorem pz_le : ∀ (z : Z) (d : Nat) (p : Nat × Z), p ∈ pz d z → zc p.2 ≤ zc z ∧ zk p.2 ≤ zk z
  | .mk k t l ks, d, p, h => by
    rw [pz] at h
    rcases List.mem_cons.1 h with rfl | h
    · exact ⟨Nat.le_refl _, Nat.le_refl _⟩
    · have ih := pzL_le l (d + 1) p h
      rw [show zc (Z.mk k t l ks) = 1 + zcL l from zc_l _, show zk (Z.mk k t l ks) = ks.length + zkL l from zk_l _]
      omega
theorem pzL_le : ∀ (l : List Z) (d : Nat) (p : Nat × Z), p ∈ pzL d l → zc p.2 ≤ zcL l ∧ zk p.2 ≤ zkL l
  | [], d, p, h => by rw [pzL] at h; cases h
  | x :: r, d, p, h => by
    rw [pzL] at h
    rw [zcL, zkL]
    rcases List.mem_append.1 h with h | h
    · have := pz_le x d p h; omega
    · have := pzL_le r d p h; omega
end
theorem round_wide {n m : Nat} {P : Program} {l l' f : Nat} {tmps : Array Value} {assign body : Code} {w : World} {R : Ending → World → Prop} (h : RoundIn Fence.wide n P l f tmps assign body w R) : RoundIn (Fence.wide.inRound l') m P l f tmps assign body w R :=
  ⟨trivial, fun c cs _ => h.2 c cs (room_wide _)⟩
/-- A region that draws, by what holds of each set of operations that are done. -/
theorem any_rel {F : Fence} {n : Nat} {P : Program} {md : Region.Mode} {ops : Array Oper} {Q : Exit → Act → World → Prop} {R : Nat → Array Bool → Act → World → Prop}
    (h : ∀ f L a w, R f L a w → (Region.ready md ops L = [] → Q .normal a w) ∧ ∀ i ∈ Region.ready md ops L, ∃ g, f = g + 1 ∧ wpOpIn F n P ops Q i (R g (L.setIfInBounds i true)) a w) :
    ∀ f L a w, R f L a w → wpAnyIn F n P md ops Q f L a w
  | 0, L, a, w, hr => by
    have h1 := h _ _ _ _ hr
    have h2 : Region.ready md ops L = [] := List.eq_nil_iff_forall_not_mem.2 fun i hi => by obtain ⟨g, e, _⟩ := h1.2 i hi; cases e
    exact ⟨h2, h1.1 h2⟩
  | f + 1, L, a, w, hr => ⟨(h _ _ _ _ hr).1, fun i hi => by
    obtain ⟨g, e, hw⟩ := (h _ _ _ _ hr).2 i hi
    cases e
    exact wpOpIn_mono (fun a w hr => any_rel h f _ a w hr) hw⟩
/-- What 'tell' leaves. -/
def TellP (W : World) (tb : Nat) (room : Int) (z : Z) (v : Value) (w' : World) : Prop := ∃ d0 d1 d2 d3, v = .agg #[d0, d1, d2, d3] ∧ ZIn w' (fun b => W.heap.size ≤ b) z d0 d1 d2 d3 ∧ w'.heap[tb]? = some (.cells #[.int .i64 room] 79 (0, 0)) ∧ Fr W w' (fun b => b ≠ tb)
def bsel (b : Bool) (v : Value) : Value := if b then v else undef
def bcnt (b : Bool) : Nat := if b then 0 else 1
/-- What 'Walk$1' does, told to a body. -/
def ItF (n : Nat) (p : Nat) (xs : List (Nat × Z)) (Rd : Nat → Prop) (w : World) : Prop :=
  ∀ (l : Nat) (J Jx : List (Nat × Z) → (Nat → Prop) → World → Prop) (W : World), Fr w W Rd → l < W.heap.size → ¬ Rd l → StW W.heap.size J → StW W.heap.size Jx →
    (∀ pre x rest S W1 m c0 c1 c2 c3, J pre S W1 → xs = pre ++ x :: rest → (∀ k, S k → W.heap.size ≤ k ∧ k < m) → W.heap.size ≤ m → m ≤ W1.heap.size → ZIn W1 (fun b => m ≤ b) x.2 c0 c1 c2 c3 → YieldAt Fence.wide (n - 1) Tryd.prog l #[.int .i64 (x.1 : Nat), .agg #[c0, c1, c2, c3]] W1 fun e W' =>
      (e = .returned (.bool true) ∧ ∃ S', J (pre ++ [x]) S' W' ∧ Fr W1 W' (fun k => (Rd k ∨ W.heap.size ≤ k) ∧ ¬ S k) ∧ ∀ k, S' k → (S k ∨ m ≤ k) ∧ k < W'.heap.size) ∨ (e = .returned (.bool false) ∧ ∃ S', Jx (pre ++ [x]) S' W' ∧ Fr W1 W' (fun k => (Rd k ∨ W.heap.size ≤ k) ∧ ¬ S k) ∧ ∀ k, S' k → S k ∨ m ≤ k)) →
    J [] (fun _ => False) W → CallsIn Fence.wide n Tryd.prog 48 (#[.func (.yield l) #[] #[]] ++ #[.pointer (some ⟨p, 0, none⟩)]) W fun e W' => (∃ v, e = .returned v) ∧ ((∃ S, J xs S W') ∨ ∃ pre rest S, xs = pre ++ rest ∧ Jx pre S W')
set_option maxRecDepth 100000 in
set_option maxHeartbeats 8000000 in
theorem walk1_y (n : Nat) (hn : 8 ≤ n) (p : Nat) (z : Z) (w : World) (Rd : Nat → Prop) (hRlt : ∀ k, Rd k → k < w.heap.size) (hRp : Rd p) (v0 v1 v2 v3 : Value) (hp : w.heap[p]? = some (.cells #[v0, v1, v2, v3] 26 (0, 0))) (hz : ZIn w Rd z v0 v1 v2 v3) (hzn : zn z ≤ 2000) (htk : taken (pz 0 z) < 2147483647) :
    ItF n p (pz 0 z) Rd w := by
  intro l J Jx W hW hlW hlR hJ hJx hY h0
  obtain ⟨kk, tt, A, n1, c1, A', n2, c2, rfl, rfl, rfl, rfl⟩ := zin_agg hz
  have hpW := hW.at hp hRp
  have hzW := (hz.fr hW (fun _ h => h)).mono (ok' := fun b => b < W.heap.size) (fun b _ hb => Nat.lt_of_lt_of_le (hRlt b hb) hW.size)
  have hpl : p < W.heap.size := blk_lt hpW
  have hck := zck_zn z
  have HY := Lib.hid hY
  have HJ := Lib.hid hJ
  have HJx := Lib.hid hJx
  clear hY hJ hJx hp hz
  refine callsIn_of_wp_marks Tryd.func48 rfl trivial ?_
  simp only [Tryd.ntmps48, List.size_toArray, List.length_cons, List.length_nil, Nat.reduceAdd, Nat.reduceSub, Array.replicate_succ, Array.replicate_zero, List.push_toArray, List.append_toArray, List.nil_append, List.cons_append]
  have hfa : Fr W (((W.alloc (.cells #[.func (.yield l) #[] #[]] 76)).alloc (.cells #[.int .i64 2147483647] 79)).alloc (.cells #[.pointer (some ⟨W.heap.size + 1, 0, none⟩)] 77)) (fun _ => True) := (((Fr.refl W _).alloc _).alloc _).alloc _
  have hsa : (((W.alloc (.cells #[.func (.yield l) #[] #[]] 76)).alloc (.cells #[.int .i64 2147483647] 79)).alloc (.cells #[.pointer (some ⟨W.heap.size + 1, 0, none⟩)] 77)).heap.size = W.heap.size + 3 := by simp
  have hYb : (((W.alloc (.cells #[.func (.yield l) #[] #[]] 76)).alloc (.cells #[.int .i64 2147483647] 79)).alloc (.cells #[.pointer (some ⟨W.heap.size + 1, 0, none⟩)] 77)).heap[W.heap.size]? = some (.cells #[.func (.yield l) #[] #[]] 76 (0, 0)) := old_at _ (old_at _ (new_at rfl _))
  have hTb : (((W.alloc (.cells #[.func (.yield l) #[] #[]] 76)).alloc (.cells #[.int .i64 2147483647] 79)).alloc (.cells #[.pointer (some ⟨W.heap.size + 1, 0, none⟩)] 77)).heap[W.heap.size + 1]? = some (.cells #[.int .i64 2147483647] 79 (0, 0)) := old_at _ (new_at (by simp) _)
  have hPb : (((W.alloc (.cells #[.func (.yield l) #[] #[]] 76)).alloc (.cells #[.int .i64 2147483647] 79)).alloc (.cells #[.pointer (some ⟨W.heap.size + 1, 0, none⟩)] 77)).heap[W.heap.size + 2]? = some (.cells #[.pointer (some ⟨W.heap.size + 1, 0, none⟩)] 77 (0, 0)) := new_at (by simp) _
  obtain ⟨p0, p1, p2, p3⟩ := cells_4 (hfa.at hpW trivial)
  have hcl := clone_any z _ _ _ _ _ ((hzW.fr (ok' := fun _ => True) hfa (fun _ _ => trivial)).mono (ok' := fun b => b < (((W.alloc (.cells #[.func (.yield l) #[] #[]] 76)).alloc (.cells #[.int .i64 2147483647] 79)).alloc (.cells #[.pointer (some ⟨W.heap.size + 1, 0, none⟩)] 77)).heap.size) (fun b _ hb => by omega)) (by omega) (by omega)
  have HCL := Lib.hid hcl
  clear hcl
  gi_wp2_with (first
    | (refine ⟨trivial, fun _ => by omega, ?_⟩; gi_at_call 42; refine (callsIn_wide.2 HCL.out).mono ?_; rintro e w2 ⟨d0, d1, d2, d3, rfl, hd, hb2⟩; obtain ⟨k9, t9, A9, n9, c9, B9, m9, s9, rfl, rfl, rfl, rfl⟩ := zin_agg hd)
    | (refine ⟨trivial, fun _ => by omega, ?_⟩; gi_at_call 43; refine (zeach_call Fence.wide _ trivial rfl _ _ _ _ _ _ _ _ _).mono ?_; rintro e w3 ⟨rfl, rfl⟩))
  clear p0 p1 p2 p3 HCL
  generalize (((W.alloc (.cells #[.func (.yield l) #[] #[]] 76)).alloc (.cells #[.int .i64 2147483647] 79)).alloc (.cells #[.pointer (some ⟨W.heap.size + 1, 0, none⟩)] 77)) = Wa at *
  have hf2 : Fr Wa w2 (fun _ => True) := below_fr0 hb2
  have hf3 : Fr w2 (w2.alloc (.cells #[.int .i64 k9, .string t9, .slice A9 n9 c9, .slice B9 m9 s9] 26)) (fun _ => True) := (Fr.refl w2 _).alloc _
  have hs2 : W.heap.size + 3 ≤ w2.heap.size := by have := hb2.size; omega
  have hs3 : (w2.alloc (.cells #[.int .i64 k9, .string t9, .slice A9 n9 c9, .slice B9 m9 s9] 26)).heap.size = w2.heap.size + 1 := by simp
  have hbox3 := heap_alloc_new w2 (.cells #[.int .i64 k9, .string t9, .slice A9 n9 c9, .slice B9 m9 s9] 26 (0, 0))
  have hd3 := (hd.fr (ok' := fun _ => True) hf3 (fun _ _ => trivial)).mono (ok' := fun k => W.heap.size + 3 ≤ k ∧ k < (w2.alloc (.cells #[.int .i64 k9, .string t9, .slice A9 n9 c9, .slice B9 m9 s9] 26)).heap.size) (fun b hb hb2 => ⟨by omega, hb⟩)
  obtain ⟨kids, hv⟩ := hd3.vt
  have hmap := zpre_map (.mk z (.int .i64 k9) (.string t9) (.slice A9 n9 c9) (.slice B9 m9 s9) kids) 0 hv
  have hmap' : (zpre 0 (.mk z (.int .i64 k9) (.string t9) (.slice A9 n9 c9) (.slice B9 m9 s9) kids)).map zmap = pz 0 z := hmap
  have hmem := zmem_pre (.mk z (.int .i64 k9) (.string t9) (.slice A9 n9 c9) (.slice B9 m9 s9) kids) 0 hv
  have hlen := congrArg List.length hmap'
  rw [List.length_map, pz_len] at hlen
  have hY3 := hf3.at (hf2.at hYb trivial) trivial
  have hT3 := hf3.at (hf2.at hTb trivial) trivial
  have hP3 := hf3.at (hf2.at hPb trivial) trivial
  have hfW3 : Fr W (w2.alloc (.cells #[.int .i64 k9, .string t9, .slice A9 n9 c9, .slice B9 m9 s9] 26)) (fun _ => True) := hfa.trans (hf2.trans hf3)
  clear hmap hd hd3 hb2 hf2 hf3 hfa hYb hTb hPb hsa
  generalize (w2.alloc (.cells #[.int .i64 k9, .string t9, .slice A9 n9 c9, .slice B9 m9 s9] 26)) = W3 at *
  have hj3 : J [] (fun _ => False) W3 := HJ.out _ _ _ _ h0 (hfW3.mono (fun _ _ _ => trivial))
  refine range_w (F := Fence.wide) (n := n) (ps := #[11, 12]) rfl (by omega) (gf := 68) (lb := #[.pointer (some ⟨w2.heap.size, 0, none⟩)]) rfl trivial (enters_of Tryd.func68 (by kernel_rfl) rfl) (encs := zencN) (fun _ => rfl)
    (each_w Fence.wide (n - 1) trivial rfl (by omega) w2.heap.size (.mk z (.int .i64 k9) (.string t9) (.slice A9 n9 c9) (.slice B9 m9 s9) kids) W3 (fun k => W.heap.size + 3 ≤ k ∧ k < W3.heap.size) (fun k hk => hk.2) ⟨by omega, by omega⟩ hbox3 hv (by omega)) (fun k hk => hk.2)
    (fun pr S W' => J (pr.map zmap) S W' ∧ W'.heap[W.heap.size]? = some (.cells #[.func (.yield l) #[] #[]] 76 (0, 0)) ∧ W'.heap[W.heap.size + 1]? = some (.cells #[.int .i64 (2147483647 - (taken (pr.map zmap) : Int))] 79 (0, 0)) ∧ W'.heap[W.heap.size + 2]? = some (.cells #[.pointer (some ⟨W.heap.size + 1, 0, none⟩)] 77 (0, 0)) ∧ Fr W3 W' (fun k => W.heap.size + 3 ≤ k ∧ k < W3.heap.size))
    (fun pr S W' => Jx (pr.map zmap) S W') ?stI ?stX ?start ?round ?done ?stop
  case stI =>
    intro s S A A' hs hf
    exact ⟨HJ.out _ _ _ _ hs.1 (hf.mono (fun k _ hk => hk.elim .inl (fun h => .inr (by omega)))), hf.at hs.2.1 (.inr (by omega)), hf.at hs.2.2.1 (.inr (by omega)), hf.at hs.2.2.2.1 (.inr (by omega)), hs.2.2.2.2.trans (hf.mono (fun k _ hk => .inr hk.2))⟩
  case stX =>
    intro s S A A' hs hf
    exact HJx.out _ _ _ _ hs (hf.mono (fun k _ hk => hk.elim .inl (fun h => .inr (by omega))))
  case start => exact ⟨hj3, hY3, by simpa [taken] using hT3, hP3, Fr.refl _ _⟩
  case done =>
    intro S W' hI hS hd
    have hj := hI.1
    rw [hmap'] at hj
    have HJJ := Lib.hid (HJ.out _ _ _ _ hj ((fr_put W' W3.heap.size (.deferred none)).mono (fun k _ hk => hk.elim (fun h => by have := hS k h; omega) (fun h => by omega))))
    gi_wp2
    refine ⟨by simp, .inl ⟨_, _, rfl, run_takeDeferred hd, ?_⟩⟩
    refine ⟨_, results_none rfl _ _ _, ?_⟩
    exact ⟨⟨_, rfl⟩, .inl ⟨S, HJJ.out⟩⟩
  case stop =>
    intro pre rest S W' hx hI hS hd
    have HJJ := Lib.hid (HJx.out _ _ _ _ hI ((fr_put W' W3.heap.size (.deferred none)).mono (fun k _ hk => hk.elim (fun h => by have := hS k h; omega) (fun h => by omega))))
    have HXX := Lib.hid (show pz 0 z = pre.map zmap ++ rest.map zmap by rw [← hmap', hx, List.map_append])
    clear hx
    gi_wp2
    refine ⟨by simp, .inl ⟨_, _, rfl, run_takeDeferred hd, ?_⟩⟩
    refine ⟨_, results_none rfl _ _ _, ?_⟩
    exact ⟨⟨_, rfl⟩, .inr ⟨_, _, S, HXX.out, HJJ.out⟩⟩
  case round =>
    intro pre x rest S W4 hx hI hS hlt
    obtain ⟨hj, hyb, htb, hpb, hfrd⟩ := hI
    have hvx := (hmem x (by rw [hx]; simp)).fr hfrd (fun _ h => h)
    obtain ⟨kx, tx, Ax, Ax', cx, cx', f0, f1, f2, f3, _, _⟩ := hvx.fm
    have hxz := hvx.jin
    rw [f0, f1, f2, f3] at hxz
    have hxval : x.2.val = .agg #[.int .i64 kx, .string tx, .slice Ax x.2.kids.length cx, .slice Ax' x.2.t.ks.length cx'] := by simp only [ZT.val, f0, f1, f2, f3]
    generalize x.2.kids.length = nkx at *
    generalize x.2.t.ks.length = mkx at *
    show Code.wpIn _ _ _ _ _ { tmps := _, defers := _ } _
    simp only [zencN, hxval, List.zip_cons_cons, List.zip_nil_right, List.foldl_toArray', List.foldl_toArray, List.foldl_cons, List.foldl_nil, List.setIfInBounds_toArray, List.set_cons_succ, List.set_cons_zero, Array.zip]
    clear hxval f0 f1 f2 f3 hvx
    have HX := Lib.hid (show pz 0 z = pre.map zmap ++ zmap x :: rest.map zmap by rw [← hmap', hx, List.map_append, List.map_cons])
    have hle := pz_le z 0 (zmap x) (by rw [HX.out]; simp)
    have htx : taken (pre.map zmap) + (72 * zc x.2.t + 16 * zk x.2.t) ≤ taken (pz 0 z) := by
      rw [HX.out, taken_app, taken]
      show _ ≤ taken (pre.map zmap) + ((72 * zc x.2.t + 16 * zk x.2.t) + taken (rest.map zmap))
      omega
    have hle' : zc x.2.t ≤ zc z ∧ zk x.2.t ≤ zk z := hle
    clear hx hmem hmap' hle hlen
    gi_wp2
    refine ⟨(Fr.refl W4 _).alloc _, ?_⟩
    intro W5 hf5 hl1 hl0 ⟨hj5, hy5, ht5, hp5, hfr5⟩
    have hx5 : W5.heap[W4.heap.size]? = some (.cells #[.int .i64 kx, .string tx, .slice Ax nkx cx, .slice Ax' mkx cx'] 26 (0, 0)) := hf5.at (new_at rfl _) (by omega)
    have hs5 : W4.heap.size < W5.heap.size := blk_lt hx5
    have hxz5 := ((hxz.fr ((Fr.refl W4 (fun _ => True)).alloc (.cells #[.int .i64 kx, .string tx, .slice Ax nkx cx, .slice Ax' mkx cx'] 26)) (fun _ _ => trivial)).fr hf5 (fun k h => by omega)).mono (ok' := fun b => b < W5.heap.size ∧ b ≠ W.heap.size + 1) (fun b _ hb => ⟨by omega, by omega⟩)
    have HT := Lib.hid (tell_any (W.heap.size + 1) _ x.2.t W5.drew _ _ _ _ ht5 (hxz5.fr (show Fr W5 W5.drew _ from (Fr.refl W5 _).drewN 1) (fun _ h => h)) (by omega) (by omega) (by omega) (by omega))
    have q0 : W5.cell? ⟨W.heap.size, 0, none⟩ = some (.func (.yield l) #[] #[]) := by rw [cell_of_row _ _ _ _ _ _ hy5]; rfl
    have q2 : W5.cell? ⟨W.heap.size + 2, 0, none⟩ = some (.pointer (some ⟨W.heap.size + 1, 0, none⟩)) := by rw [cell_of_row _ _ _ _ _ _ hp5]; rfl
    obtain ⟨x0, x1, x2, x3⟩ := cells_4 hx5
    let PC : Bool → World → Prop := fun r w' => ∃ S', (if r then J (pre.map zmap ++ [zmap x]) S' w' ∧ ∀ k, S' k → (S k ∨ W5.heap.size ≤ k) ∧ k < w'.heap.size else Jx (pre.map zmap ++ [zmap x]) S' w' ∧ ∀ k, S' k → S k ∨ W5.heap.size ≤ k) ∧
      w'.heap[W.heap.size]? = some (.cells #[.func (.yield l) #[] #[]] 76 (0, 0)) ∧ w'.heap[W.heap.size + 1]? = some (.cells #[.int .i64 (2147483647 - (taken ((pre ++ [x]).map zmap) : Int))] 79 (0, 0)) ∧ w'.heap[W.heap.size + 2]? = some (.cells #[.pointer (some ⟨W.heap.size + 1, 0, none⟩)] 77 (0, 0)) ∧ Fr W5 w' (fun k => k ≠ W.heap.size + 1 ∧ W.heap.size ≤ k ∧ ¬ S k)
    clear hx5 hxz5 hxz hf5 hj hyb htb hpb hfrd
    gi_wp2
    refine wpIn_region_any (by kernel_rfl) ?_
    change wpAnyIn _ _ _ _ _ _ _ _ _ (World.drew _)
    refine any_rel (R := fun f L a w => ∃ b0 b1 b2 b3 b4 b5 b6 : Bool, ∃ v17 v18 v19 : Value, L = #[b0, b1, b2, b3, b4, b5, b6] ∧ f = bcnt b0 + bcnt b1 + bcnt b2 + bcnt b3 + bcnt b4 + bcnt b5 + bcnt b6 ∧
      (b4 = true → b2 = true ∧ b3 = true) ∧ (b5 = true → b0 = true ∧ b1 = true ∧ b4 = true) ∧ (b6 = true → b5 = true) ∧
      a = { tmps := #[Value.func (Fn.yield l) #[] #[], Value.pointer (some { block := p, off := 0 }),
          Value.pointer (some { block := W.heap.size, off := 0 }),
          Value.pointer (some { block := W.heap.size + 1 + 1, off := 0 }), Value.int IntKind.i64 ↑x.fst,
          Value.pointer (some { block := W4.heap.size, off := 0 }), Value.agg #[Value.int IntKind.i64 2147483647],
          Value.pointer (some { block := W.heap.size + 1, off := 0 }),
          Value.agg #[Value.int IntKind.i64 kk, Value.string tt, Value.slice A n1 c1, Value.slice A' n2 c2],
          Value.agg #[Value.int IntKind.i64 k9, Value.string t9, Value.slice A9 n9 c9, Value.slice B9 m9 s9],
          Value.func (Fn.func 68) #[] #[Value.pointer (some { block := w2.heap.size, off := 0 })],
          Value.int IntKind.i64 ↑x.fst,
          Value.agg #[Value.int IntKind.i64 kx, Value.string tx, Value.slice Ax nkx cx, Value.slice Ax' mkx cx'], bsel b0 (.func (.yield l) #[] #[]),
          bsel b1 (.int .i64 ↑x.fst), bsel b2 (.pointer (some ⟨W.heap.size + 1, 0, none⟩)), bsel b3 (.agg #[Value.int IntKind.i64 kx, Value.string tx, Value.slice Ax nkx cx, Value.slice Ax' mkx cx']), v17, v18, v19], defers := [] } ∧ (b4 = false → v17 = undef ∧ w = W5.drew) ∧ (b4 = true → b5 = false → TellP W5 (W.heap.size + 1) (2147483647 - (taken (pre.map zmap) : Int) - (72 * zc x.2.t + 16 * zk x.2.t : Nat)) x.2.t v17 w) ∧ (b5 = true → ∃ r, v18 = .bool r ∧ PC r w ∧ (b6 = true → v19 = .bool (!r)))) ?_ _ _ _ _ ?start
    case start => exact ⟨false, false, false, false, false, false, false, undef, undef, undef, rfl, rfl, by simp, by simp, by simp, rfl, fun _ => ⟨rfl, rfl⟩, by simp, by simp⟩
    rintro f L a w7 ⟨b0, b1, b2, b3, b4, b5, b6, v17, v18, v19, rfl, rfl, i4, i5, i6, rfl, s0, s4, s5⟩
    refine ⟨fun h0 => ?_, fun i hi => ?_⟩
    · have hno := List.eq_nil_iff_forall_not_mem.1 h0
      obtain rfl : b0 = true := by cases b0 with | true => rfl | false => exact absurd (mem_ready.2 ⟨rfl, _, rfl, fun e he _ => by simp at he⟩) (hno 0)
      obtain rfl : b1 = true := by cases b1 with | true => rfl | false => exact absurd (mem_ready.2 ⟨rfl, _, rfl, fun e he _ => by simp at he⟩) (hno 1)
      obtain rfl : b2 = true := by cases b2 with | true => rfl | false => exact absurd (mem_ready.2 ⟨rfl, _, rfl, fun e he _ => by simp at he⟩) (hno 2)
      obtain rfl : b3 = true := by cases b3 with | true => rfl | false => exact absurd (mem_ready.2 ⟨rfl, _, rfl, fun e he _ => by simp at he⟩) (hno 3)
      obtain rfl : b4 = true := by cases b4 with | true => rfl | false => exact absurd (mem_ready.2 ⟨rfl, _, rfl, fun e he _ => by simp at he; rcases he with rfl | rfl <;> rfl⟩) (hno 4)
      obtain rfl : b5 = true := by cases b5 with | true => rfl | false => exact absurd (mem_ready.2 ⟨rfl, _, rfl, fun e he _ => by simp at he; rcases he with rfl | rfl | rfl | rfl <;> rfl⟩) (hno 5)
      obtain rfl : b6 = true := by cases b6 with | true => rfl | false => exact absurd (mem_ready.2 ⟨rfl, _, rfl, fun e he _ => by simp at he; rcases he with rfl; rfl⟩) (hno 6)
      obtain ⟨r, rfl, ⟨S', hP, hy9, ht9, hp9, hF9⟩, h19⟩ := s5 rfl
      obtain rfl := h19 rfl
      have hL1 : w7.heap[W3.heap.size + 1]? = W5.heap[W3.heap.size + 1]? := by obtain ⟨o, ho, _⟩ := hl1; rw [hF9.at ho ⟨by omega, by omega, fun h => by have := hS _ h; omega⟩, ho]
      have hL0 : w7.heap[W3.heap.size]? = W5.heap[W3.heap.size]? := by obtain ⟨o, ho, _⟩ := hl0; rw [hF9.at ho ⟨by omega, by omega, fun h => by have := hS _ h; omega⟩, ho]
      have hmp : (pre ++ [x]).map zmap = pre.map zmap ++ [zmap x] := by simp
      cases r with
      | true =>
        obtain ⟨hj9, hS9⟩ := hP
        have HR := Lib.hid (show ∀ a0 : Act, retPw (W3.heap.size + 1) (W3.heap.size + 2) (fun k => W.heap.size + 3 ≤ k ∧ k < W3.heap.size) (fun pr S W' => J (pr.map zmap) S W' ∧ W'.heap[W.heap.size]? = some (.cells #[.func (.yield l) #[] #[]] 76 (0, 0)) ∧ W'.heap[W.heap.size + 1]? = some (.cells #[.int .i64 (2147483647 - (taken (pr.map zmap) : Int))] 79 (0, 0)) ∧ W'.heap[W.heap.size + 2]? = some (.cells #[.pointer (some ⟨W.heap.size + 1, 0, none⟩)] 77 (0, 0)) ∧ Fr W3 W' (fun k => W.heap.size + 3 ≤ k ∧ k < W3.heap.size)) (fun pr S W' => Jx (pr.map zmap) S W') (pre ++ [x]) S W5 .normal a0 w7 from
          fun _ => ⟨hF9.mono (fun k _ hk => ⟨by omega, by omega, hk.2⟩), hL1, hL0, S', ⟨by rw [hmp]; exact hj9, hy9, ht9, hp9, hfr5.trans (hF9.mono (fun k _ hk => ⟨by omega, by omega, fun h => by have := hS _ h; omega⟩))⟩, hS9⟩)
        simp only [bsel]
        gi_wp2
        rw [← hs3]
        exact HR.out _
      | false =>
        obtain ⟨hj9, hS9⟩ := hP
        have HR := Lib.hid (show ∀ a0 : Act, retPw (W3.heap.size + 1) (W3.heap.size + 2) (fun k => W.heap.size + 3 ≤ k ∧ k < W3.heap.size) (fun pr S W' => J (pr.map zmap) S W' ∧ W'.heap[W.heap.size]? = some (.cells #[.func (.yield l) #[] #[]] 76 (0, 0)) ∧ W'.heap[W.heap.size + 1]? = some (.cells #[.int .i64 (2147483647 - (taken (pr.map zmap) : Int))] 79 (0, 0)) ∧ W'.heap[W.heap.size + 2]? = some (.cells #[.pointer (some ⟨W.heap.size + 1, 0, none⟩)] 77 (0, 0)) ∧ Fr W3 W' (fun k => W.heap.size + 3 ≤ k ∧ k < W3.heap.size)) (fun pr S W' => Jx (pr.map zmap) S W') (pre ++ [x]) S W5 .ret a0 w7 from
          fun _ => ⟨hL1, hL0, S', (show Jx ((pre ++ [x]).map zmap) S' w7 by rw [hmp]; exact hj9), hS9⟩)
        simp only [bsel]
        gi_wp2
        rw [← hs3]
        exact HR.out _
    obtain ⟨g0, o, ho, ha⟩ := mem_ready.1 hi
    match i, g0, o, ho, ha with
    | 0, g0, o, ho, ha =>
      obtain rfl : b0 = false := g0
      have e5 : b5 = false := by cases b5 with | false => rfl | true => exact (i5 rfl).1.symm
      have hq : w7.cell? ⟨W.heap.size, 0, none⟩ = some (.func (.yield l) #[] #[]) := by
        cases b4 with
        | false => rw [(s0 rfl).2]; exact q0
        | true => obtain ⟨_, _, _, _, _, _, _, hF⟩ := s4 rfl e5; exact hF.cell q0 (by simp)
      refine ⟨bcnt true + bcnt b1 + bcnt b2 + bcnt b3 + bcnt b4 + bcnt b5 + bcnt b6, by have e0 : bcnt false = 1 := rfl; have e1 : bcnt true = 0 := rfl; omega, wpOpIn_step rfl fun K' hK => ?_⟩
      go_simp
      exact hK _ _ ⟨true, b1, b2, b3, b4, b5, b6, v17, v18, v19, rfl, rfl, i4, fun h => ⟨rfl, (i5 h).2⟩, i6, rfl, s0, s4, s5⟩
    | 1, g0, o, ho, ha =>
      obtain rfl : b1 = false := g0
      refine ⟨bcnt b0 + bcnt true + bcnt b2 + bcnt b3 + bcnt b4 + bcnt b5 + bcnt b6, by have e0 : bcnt false = 1 := rfl; have e1 : bcnt true = 0 := rfl; omega, wpOpIn_step rfl fun K' hK => ?_⟩
      go_simp
      exact hK _ _ ⟨b0, true, b2, b3, b4, b5, b6, v17, v18, v19, rfl, rfl, i4, fun h => ⟨(i5 h).1, rfl, (i5 h).2.2⟩, i6, rfl, s0, s4, s5⟩
    | 2, g0, o, ho, ha =>
      obtain rfl : b2 = false := g0
      obtain rfl : b4 = false := by cases b4 with | false => rfl | true => exact (i4 rfl).1.symm
      obtain ⟨rfl, rfl⟩ := s0 rfl
      refine ⟨bcnt b0 + bcnt b1 + bcnt true + bcnt b3 + bcnt false + bcnt b5 + bcnt b6, by have e0 : bcnt false = 1 := rfl; have e1 : bcnt true = 0 := rfl; omega, wpOpIn_step rfl fun K' hK => ?_⟩
      go_simp
      exact hK _ _ ⟨b0, b1, true, b3, false, b5, b6, undef, v18, v19, rfl, rfl, fun h => ⟨rfl, (i4 h).2⟩, i5, i6, rfl, s0, s4, s5⟩
    | 3, g0, o, ho, ha =>
      obtain rfl : b3 = false := g0
      obtain rfl : b4 = false := by cases b4 with | false => rfl | true => exact (i4 rfl).2.symm
      obtain ⟨rfl, rfl⟩ := s0 rfl
      refine ⟨bcnt b0 + bcnt b1 + bcnt b2 + bcnt true + bcnt false + bcnt b5 + bcnt b6, by have e0 : bcnt false = 1 := rfl; have e1 : bcnt true = 0 := rfl; omega, wpOpIn_step rfl fun K' hK => ?_⟩
      go_simp
      exact hK _ _ ⟨b0, b1, b2, true, false, b5, b6, undef, v18, v19, rfl, rfl, fun h => ⟨(i4 h).1, rfl⟩, i5, i6, rfl, s0, s4, s5⟩
    | 4, g0, o, ho, ha =>
      obtain rfl : b4 = false := g0
      cases ho
      obtain rfl : b2 = true := ha ⟨2, .data⟩ (by simp) rfl
      obtain rfl : b3 = true := ha ⟨3, .data⟩ (by simp) rfl
      obtain rfl : b5 = false := by cases b5 with | false => rfl | true => exact (i5 rfl).2.2.symm
      obtain ⟨rfl, rfl⟩ := s0 rfl
      refine ⟨bcnt b0 + bcnt b1 + bcnt true + bcnt true + bcnt true + bcnt false + bcnt b6, by have e0 : bcnt false = 1 := rfl; have e1 : bcnt true = 0 := rfl; omega, wpOpIn_step rfl fun K' hK => ?_⟩
      simp only [bsel]
      go_simp
      refine ⟨trivial, fun h => by simp [Fence.wide] at h, (CallsIn.inRound _ (callsIn_wide.2 HT.out)).mono ?_⟩
      rintro e w8 ⟨d0, d1, d2, d3, rfl, hd, ht8, hF8⟩
      exact hK _ _ ⟨b0, b1, true, true, true, false, b6, _, v18, v19, rfl, rfl, fun _ => ⟨rfl, rfl⟩, by simp, i6, rfl, by simp, fun _ _ => ⟨d0, d1, d2, d3, rfl, hd, ht8, Fr.trans (show Fr W5 W5.drew _ from (Fr.refl W5 _).drewN 1) hF8⟩, by simp⟩
    | 5, g0, o, ho, ha =>
      obtain rfl : b5 = false := g0
      cases ho
      obtain rfl : b0 = true := ha ⟨0, .data⟩ (by simp) rfl
      obtain rfl : b1 = true := ha ⟨1, .data⟩ (by simp) rfl
      obtain rfl : b4 = true := ha ⟨4, .data⟩ (by simp) rfl
      obtain ⟨rfl, rfl⟩ := i4 rfl
      obtain ⟨d0, d1, d2, d3, rfl, hd, ht7, hF7⟩ := s4 rfl rfl
      refine ⟨bcnt true + bcnt true + bcnt true + bcnt true + bcnt true + bcnt true + bcnt b6, by have e0 : bcnt false = 1 := rfl; have e1 : bcnt true = 0 := rfl; omega, wpOpIn_step rfl fun K' hK => ?_⟩
      have hj7 := HJ.out _ _ _ _ hj5 (hF7.mono (fun k _ hk => hk.elim (fun h => by have := hS k h; omega) (fun h => by omega)))
      obtain ⟨fn, tmp5, as5, bd5, hy, hR⟩ := HY.out (pre.map zmap) (zmap x) (rest.map zmap) S w7 W5.heap.size d0 d1 d2 d3 hj7 HX.out (fun k h => by have := hS k h; omega) (by omega) hF7.size hd
      dsimp only [zmap] at hy
      have hmp : (pre ++ [x]).map zmap = pre.map zmap ++ [zmap x] := by simp
      have htk9 : (2147483647 - (taken (pre.map zmap) : Int) - (72 * zc x.2.t + 16 * zk x.2.t : Nat)) = 2147483647 - (taken ((pre ++ [x]).map zmap) : Int) := by
        rw [hmp, taken_app, taken, taken]
        show _ = 2147483647 - ((taken (pre.map zmap) + ((72 * zc x.2.t + 16 * zk x.2.t) + 0) : Nat) : Int)
        omega
      rw [htk9] at ht7
      have hy7 := hF7.at hy5 (by omega)
      have hp7 := hF7.at hp5 (by omega)
      simp only [bsel]
      go_simp
      refine ⟨fun h => by simp [Fence.wide] at h, (round_wide hR).mono ?_⟩
      rintro e w8 (⟨rfl, S', hj8, hf8, hs8⟩ | ⟨rfl, S', hj8, hf8, hs8⟩)
      · exact hK _ _ ⟨true, true, true, true, true, true, b6, _, _, v19, rfl, rfl, i4, fun _ => ⟨rfl, rfl, rfl⟩, fun _ => rfl, rfl, by simp, by simp, fun _ => ⟨true, rfl, ⟨S', ⟨hj8, hs8⟩, hf8.at hy7 ⟨.inr (Nat.le_refl _), fun h => by have := hS _ h; omega⟩, hf8.at ht7 ⟨.inr (by omega), fun h => by have := hS _ h; omega⟩, hf8.at hp7 ⟨.inr (by omega), fun h => by have := hS _ h; omega⟩, (hF7.mono (fun k _ hk => hk.1)).trans (hf8.mono (fun k _ hk => ⟨.inr hk.2.1, hk.2.2⟩))⟩, fun h => by have := i6 h; cases this⟩⟩
      · exact hK _ _ ⟨true, true, true, true, true, true, b6, _, _, v19, rfl, rfl, i4, fun _ => ⟨rfl, rfl, rfl⟩, fun _ => rfl, rfl, by simp, by simp, fun _ => ⟨false, rfl, ⟨S', ⟨hj8, hs8⟩, hf8.at hy7 ⟨.inr (Nat.le_refl _), fun h => by have := hS _ h; omega⟩, hf8.at ht7 ⟨.inr (by omega), fun h => by have := hS _ h; omega⟩, hf8.at hp7 ⟨.inr (by omega), fun h => by have := hS _ h; omega⟩, (hF7.mono (fun k _ hk => hk.1)).trans (hf8.mono (fun k _ hk => ⟨.inr hk.2.1, hk.2.2⟩))⟩, fun h => by have := i6 h; cases this⟩⟩
    | 6, g0, o, ho, ha =>
      obtain rfl : b6 = false := g0
      cases ho
      obtain rfl : b5 = true := ha ⟨5, .data⟩ (by simp) rfl
      obtain ⟨rfl, rfl, rfl⟩ := i5 rfl
      obtain ⟨rfl, rfl⟩ := i4 rfl
      obtain ⟨r, rfl, hP, hn9⟩ := s5 rfl
      refine ⟨bcnt true + bcnt true + bcnt true + bcnt true + bcnt true + bcnt true + bcnt true, by have e0 : bcnt false = 1 := rfl; have e1 : bcnt true = 0 := rfl; omega, wpOpIn_step rfl fun K' hK => ?_⟩
      go_simp
      exact hK _ _ ⟨true, true, true, true, true, true, true, v17, .bool r, _, rfl, rfl, i4, i5, fun _ => rfl, rfl, s0, s4, fun _ => ⟨r, rfl, hP, fun _ => rfl⟩⟩
    | k + 7, g0, o, ho, ha => exact absurd g0 (by simp)
end Go.Proofs.YtjcnjaebmndeiaaDoor
