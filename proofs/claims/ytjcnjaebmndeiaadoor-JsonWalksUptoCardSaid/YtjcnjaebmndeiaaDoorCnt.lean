/-
  'count' of every value.
-/
import Derived.Test.YtjcnjaebmndeiaaDoorZrt
namespace Go.Proofs.YtjcnjaebmndeiaaDoor
open Go.RowKit

mutual
/-- How many values a value is, with all within it. -/
def zc : Z → Nat
  | .mk _ _ l _ => 1 + zcL l
def zcL : List Z → Nat
  | [] => 0
  | z :: r => zc z + zcL r
end
mutual
/-- How many keys. -/
def zk : Z → Nat
  | .mk _ _ l ks => ks.length + zkL l
def zkL : List Z → Nat
  | [] => 0
  | z :: r => zk z + zkL r
end
mutual
theorem zck_zn : ∀ (z : Z), zc z + zk z ≤ zn z
  | .mk _ t l ks => by have := zckL_znL l; rw [zc, zk, zn]; omega
theorem zckL_znL : ∀ (l : List Z), zcL l + zkL l ≤ znL l
  | [] => by simp [zcL, zkL, znL]
  | z :: r => by have := zck_zn z; have := zckL_znL r; rw [zcL, zkL, znL]; omega
end
theorem zcL_app : ∀ (a b : List Z), zcL (a ++ b) = zcL a + zcL b
  | [], b => by simp [zcL]
  | z :: r, b => by rw [List.cons_append, zcL, zcL, zcL_app r b]; omega
theorem zkL_app : ∀ (a b : List Z), zkL (a ++ b) = zkL a + zkL b
  | [], b => by simp [zkL]
  | z :: r, b => by rw [List.cons_append, zkL, zkL, zkL_app r b]; omega
theorem zcL_len : ∀ (l : List Z), l.length ≤ zcL l
  | [] => by simp
  | .mk k t l ks :: r => by have := zcL_len r; rw [zcL, zc]; simp only [List.length_cons]; omega
def tcL (r : List ZT) : Nat := zcL (r.map ZT.t)
def tkL (r : List ZT) : Nat := zkL (r.map ZT.t)
/-- What is within the members. -/
def pnd : List ZT → Nat
  | [] => 0
  | x :: r => zcL x.t.l + pnd r
def Z.ks : Z → List ByteArray | .mk _ _ _ ks => ks
theorem zc_l (z : Z) : zc z = 1 + zcL z.l := by cases z; rw [zc]; rfl
theorem zk_l (z : Z) : zk z = z.ks.length + zkL z.l := by cases z; rw [zk]; rfl
theorem tcL_pnd : ∀ (r : List ZT), tcL r = r.length + pnd r
  | [] => rfl
  | x :: r => by have := tcL_pnd r; unfold tcL at this ⊢; rw [List.map_cons, zcL, this, pnd, zc_l, List.length_cons]; omega
def tcS : List (List ZT) → Nat
  | [] => 0
  | r :: s => tcL r + tcS s
def tkS : List (List ZT) → Nat
  | [] => 0
  | r :: s => tkL r + tkS s
theorem tcS_len : ∀ (s : List (List ZT)), (∀ r, r ∈ s → r ≠ []) → s.length ≤ tcS s
  | [], _ => Nat.le_refl _
  | r :: s, h => by
    have ih := tcS_len s (fun x hx => h x (by simp [hx]))
    have h1 := tcL_pnd r
    have h2 := List.length_pos_iff.2 (h r (by simp))
    rw [tcS]
    simp only [List.length_cons]
    omega
theorem ZVIn.fm {w : World} {ok : Nat → Prop} {x : ZT} (h : ZVIn w ok x) : ∃ (k : Int) (t : ByteArray) (A A' : Option Addr) (cap cap' : Nat), x.v0 = .int .i64 k ∧ x.v1 = .string t ∧ x.v2 = .slice A x.kids.length cap ∧ x.v3 = .slice A' x.t.ks.length cap' ∧ x.kids.length ≤ maxLen ∧ x.t.ks.length ≤ maxLen := by
  have hts := congrArg List.length h.ts
  rw [List.length_map] at hts
  match x, h.jin, hts with
  | .mk z a b c e kids, hj, hts =>
    have hj' : ZIn w ok z a b c e := hj
    cases hj' with
    | mk k t l ks A A' cap cap' cc h1 h2 h3 hcap hcap' _ _ _ =>
      have hts' : kids.length = l.length := hts
      refine ⟨k, t, A, A', cap, cap', rfl, rfl, ?_, rfl, ?_, ?_⟩
      · show Value.slice A l.length cap = .slice A kids.length cap
        rw [hts']
      · show kids.length ≤ maxLen; omega
      · show ks.length ≤ maxLen; omega
theorem below_app {n : Nat} {w W W5 : World} {v : Value} (h : Below n w W) (hg : W.grownBy W5 v.ownBlock) (hv : ∀ g, v.ownBlock = some g → n ≤ g) (hn : n ≤ W.heap.size) : Below n w W5 :=
  ⟨hg.os.trans h.os, hg.tape.trans h.tape, hg.output.trans h.output, Nat.le_trans h.size hg.size, fun k hk => (hg.block k (by omega) (fun e => by have := hv k e.symm; omega)).trans (h.block k hk)⟩
/-- What holds in the outer loop. -/
def CRel (w : World) (N K : Nat) (g : Nat) (v2 v3 v4 : Value) (wr : World) : Prop :=
  ∃ (s : List (List ZT)) (vs : List Value) (n m : Nat), v2 = .int .i64 n ∧ v3 = .int .i64 m ∧ n + tcS s = N ∧ m + tkS s = K ∧ 2 * tcS s + s.length = g ∧ wr.ownsRow (w.heap.size + 1) 23 1 v4 s.length vs.reverse ∧ ZStk w (fun b => b < w.heap.size) vs s ∧ ((∀ r, r ∈ s → r ≠ []) ∨ s.length ≤ 1) ∧ Below w.heap.size w wr ∧ w.heap.size + 1 ≤ wr.heap.size
/-- What holds in the inner one. -/
def DRel (w : World) (N K n : Nat) (r : List ZT) (len0 : Nat) (g : Nat) (v3 v4 i : Value) (wr : World) : Prop :=
  ∃ (q : Nat) (s : List (List ZT)) (vs : List Value) (m : Nat), q + g = r.length ∧ i = .int .i64 q ∧ v3 = .int .i64 m ∧ n + tcS s + pnd (r.drop q) = N ∧ m + tkS s + tkL (r.drop q) = K ∧ wr.ownsRow (w.heap.size + 1) 23 1 v4 s.length vs.reverse ∧ ZStk w (fun b => b < w.heap.size) vs s ∧ (∀ r, r ∈ s → r ≠ []) ∧ s.length ≤ len0 + q ∧ Below w.heap.size w wr ∧ w.heap.size + 1 ≤ wr.heap.size
set_option maxHeartbeats 4000000 in
set_option maxRecDepth 100000 in
theorem count_any (x0 : ZT) (w : World) (hv : ZVIn w (fun b => b < w.heap.size) x0) (hN : zc x0.t ≤ 100000) (hKb : zk x0.t ≤ 100000) :
    Calls Tryd.prog 66 #[.agg #[x0.v0, x0.v1, x0.v2, x0.v3]] w fun e w' => e = .returned (.tuple #[.int .i64 (zc x0.t), .int .i64 (zk x0.t)]) ∧ Below w.heap.size w w' := by
  obtain ⟨k, t, A, A', cap, cap', e0, e1, e2, e3, hl1, hl2⟩ := hv.fm
  have hsl := hv.sl
  have hkid := hv.kid
  have hzc : 1 + tcL x0.kids = zc x0.t := by unfold tcL; rw [hv.ts, zc_l]
  have hzk : x0.t.ks.length + tkL x0.kids = zk x0.t := by unfold tkL; rw [hv.ts, zk_l]
  rw [e2] at hsl
  rw [e0, e1, e2, e3]
  generalize zc x0.t = N at *
  generalize zk x0.t = K at *
  generalize x0.t.ks.length = nk at *
  generalize x0.kids = kids at *
  clear e0 e1 e2 e3 hv
  obtain ⟨i0, hi, hz0, hz1, hz2⟩ := info_parts Tryd.info23
  generalize hnl : kids.length = nl at *
  have HSL := Lib.hid hsl
  have HNL := Lib.hid hnl
  have HKID := Lib.hid hkid
  clear hsl hnl hkid
  go_enter Tryd.func66, Tryd.ntmps66
  go_wp2
  go_quiet (fail)
  go_wp2
  have hb0 : Below w.heap.size w (((w.alloc (.cells #[.int .i64 k, .string t, .slice A nl cap, .slice A' nk cap'] 26)).drewN nq).alloc (.cells #[.slice A nl cap] 23)) := by
    have h := ((Below.refl w.heap.size w).alloc (Nat.le_refl _) (.cells #[.int .i64 k, .string t, .slice A nl cap, .slice A' nk cap'] 26)).alloc (o := .cells #[.slice A nl cap] 23) (by simp)
    exact ⟨h.os, h.tape, h.output, h.size, h.block⟩
  have hrow : (((w.alloc (.cells #[.int .i64 k, .string t, .slice A nl cap, .slice A' nk cap'] 26)).drewN nq).alloc (.cells #[.slice A nl cap] 23)).heap[w.heap.size + 1]? = some (.cells #[.slice A nl cap] 23 (0, 0)) := by
    have h := heap_alloc_new ((w.alloc (.cells #[.int .i64 k, .string t, .slice A nl cap, .slice A' nk cap'] 26)).drewN nq) (.cells #[.slice A nl cap] 23 (0, 0))
    rwa [show ((w.alloc (.cells #[.int .i64 k, .string t, .slice A nl cap, .slice A' nk cap'] 26)).drewN nq).heap.size = w.heap.size + 1 by simp] at h
  have hsz0 : w.heap.size + 1 ≤ (((w.alloc (.cells #[.int .i64 k, .string t, .slice A nl cap, .slice A' nk cap'] 26)).drewN nq).alloc (.cells #[.slice A nl cap] 23)).heap.size := by simp
  generalize (((w.alloc (.cells #[.int .i64 k, .string t, .slice A nl cap, .slice A' nk cap'] 26)).drewN nq).alloc (.cells #[.slice A nl cap] 23)) = W1 at *
  have hrel0 : CRel w N K (2 * tcL kids + 1) (.int .i64 1) (.int .i64 nk) (.slice (some ⟨w.heap.size + 1, 0, none⟩) 1 1) W1 := by
    refine ⟨[kids], [.slice A nl cap], 1, nk, rfl, rfl, by rw [tcS, tcS]; omega, by rw [tkS, tkS]; omega, by rw [tcS, tcS]; rfl, ⟨rfl, .inr ⟨_, 1, _, rfl, Nat.le_refl _, hrow, Nat.le_refl _, by unfold maxLen; omega, rfl, rfl⟩⟩, ⟨HSL.out, HKID.out, trivial⟩, .inr (Nat.le_refl _), hb0, hsz0⟩
  have HR0 := Lib.hid hrel0
  clear hrel0 hrow hsz0 hb0 hzc hzk HSL HNL HKID hl1 hl2
  go_loopg [2, 3, 4] (2 * tcL kids + 1) (fun g v2 v3 v4 wr => CRel w N K g v2 v3 v4 wr)
  case atStart => exact HR0.out
  case round =>
    clear HR0
    obtain ⟨s, vs, n, m, rfl, rfl, hn, hm, hg, hown, hstk, hgood, hbw, hsz⟩ := hrel
    have HG := Lib.hid hg
    have HN := Lib.hid hn
    have HM := Lib.hid hm
    clear hg hn hm
    match s, vs, hstk with
    | [], [], _ =>
      obtain ⟨A0, cp0, rfl, _, _, _⟩ := own_open hown (by omega)
      have hnN : n = N := by have := HN.out; rw [tcS] at this; omega
      have hmK : m = K := by have := HM.out; rw [tkS] at this; omega
      subst hnN hmK
      clear hown
      go_wp2
      go_ret2
      exact ⟨rfl, hbw⟩
    | r :: s, v :: vs, ⟨hsl, hvin, hstk⟩ =>
      have hvl := hstk.len
      obtain ⟨g, cap, rfl⟩ := ownsRow_succ hown
      have hcap : s.length + 1 ≤ cap ∧ cap ≤ maxLen := by
        obtain ⟨A9, cp9, e9, a1, a2, _⟩ := own_open hown (by omega)
        cases e9; exact ⟨a1, a2⟩
      rw [List.reverse_cons] at hown
      have htop : wr.cell? ⟨g, s.length, none⟩ = some v := by
        have := hown.cells (g := g) rfl s.length v (by rw [List.getElem?_append_right (by simp; omega)]; simp [hvl])
        rw [addr_add, Nat.zero_add] at this
        exact this
      have hgs : ∀ x, x ∈ s → x ≠ [] := by
        rcases hgood with h | h
        · exact fun x hx => h x (by simp [hx])
        · intro x hx
          simp only [List.length_cons] at h
          have := List.length_pos_of_mem hx
          omega
      have hsc := tcS_len s hgs
      have hnr := HN.out
      rw [tcS, tcL_pnd] at hnr
      have hmr := HM.out
      rw [tkS] at hmr
      have hpop := own_pop hown
      obtain ⟨A1, cp1, rfl, hr1, hr2, hr3⟩ := hsl
      have HGE := Lib.hid (show ∀ T L : Nat, T = tcS s + pnd r → L ≤ s.length + r.length → 2 * T + L < gk by have := HG.out; rw [tcS, tcL_pnd] at this; simp only [List.length_cons] at this; intro T L h1 h2; omega)
      have hrel1 : DRel w N K (n + r.length) r s.length r.length (.int .i64 m) (.slice (some ⟨g, 0, none⟩) s.length cap) (.int .i64 0) wr := ⟨0, s, vs, m, by omega, rfl, rfl, by rw [List.drop_zero]; omega, by rw [List.drop_zero]; omega, hpop, hstk, hgs, by omega, hbw, hsz⟩
      have HR1 := Lib.hid hrel1
      have HSUM := Lib.hid (show n + r.length + (tcS s + pnd r) = N by omega)
      have HSLC := Lib.hid hr3
      have HVIN := Lib.hid hvin
      obtain ⟨hcap1, hcap2⟩ := hcap
      unfold maxLen at hcap2 hr2
      have hrn : r.length ≤ 100000 := by omega
      have hnn : n ≤ 100000 := by omega
      have hsn : s.length ≤ 100000 := by omega
      clear hrel1 hr3 hvin hown hpop hstk hgs hgood hbw hsz hnr hmr hsc hvl HN HM HG
      generalize hrl : r.length = nr at *
      have HRL := Lib.hid hrl
      clear hrl
      go_wp2
      go_loopg [3, 4, 34] nr (fun g2 u3 u4 i wr2 => DRel w N K (n + nr) r s.length g2 u3 u4 i wr2)
      case atStart => exact HR1.out
      case round =>
        clear HR1 htop
        obtain ⟨q, s2, vs2, m2, hq, rfl, rfl, hn2, hm2, hown2, hstk2, hgs2, hlen2, hbw2, hsz2⟩ := hrel
        rw [HRL.out] at hq
        by_cases hqr : q < nr
        · obtain ⟨x, hx⟩ : ∃ x, r[q]? = some x := ⟨_, List.getElem?_eq_getElem (by have := HRL.out; omega)⟩
          obtain ⟨g1, off, rfl, hg1, hc1⟩ := HSLC.out (by omega)
          obtain ⟨d0, d1, d2, d3⟩ := hc1 q x hx
          have hxv := HVIN.out x (List.mem_of_getElem? hx)
          have hdrop : r.drop q = x :: r.drop (q + 1) := by
            have hlt := (List.getElem?_eq_some_iff.1 hx).1
            rw [List.drop_eq_getElem_cons hlt]
            rw [(List.getElem?_eq_some_iff.1 hx).2]
          rw [hdrop, pnd] at hn2
          rw [hdrop] at hm2
          unfold tkL at hm2
          rw [List.map_cons, zkL, zk_l] at hm2
          obtain ⟨kx, tx, Ax, Ax', cx, cx', f0, f1, f2, f3, hk1, hk2⟩ := hxv.fm
          have hxsl := hxv.sl
          have hxkid := hxv.kid
          have hxts := hxv.ts
          rw [f2] at hxsl
          have hf := below_fr hbw2
          have y0 := hf.cell d0 hg1
          have y1 := hf.cell d1 hg1
          have y2 := hf.cell d2 hg1
          have y3 := hf.cell d3 hg1
          rw [f0] at y0
          rw [f1] at y1
          rw [f2] at y2
          rw [f3] at y3
          rw [Nat.mul_comm] at y0 y1 y2 y3
          rw [← hxts] at hn2 hm2
          have hks : x.t.ks.length ≤ 100000 := by omega
          have hm2n : m2 ≤ 100000 := by omega
          have hkl : x.kids.length ≤ 100000 := by have := zcL_len (x.kids.map ZT.t); rw [List.length_map] at this; omega
          have hs2c := tcS_len s2 hgs2
          have hs2n : s2.length ≤ 100000 := by omega
          generalize x.t.ks.length = nkx at *
          generalize hkd : x.kids = kd at *
          have HN2 := Lib.hid hn2
          have HM2 := Lib.hid hm2
          have HXSL := Lib.hid hxsl
          have HXK := Lib.hid hxkid
          have HGS2 := Lib.hid hgs2
          have HSTK := Lib.hid hstk2
          have hgl := hown2.lt
          have HGL := Lib.hid hgl
          clear hn2 hm2 hxsl hxkid hxts hxv hx hc1 d0 d1 d2 d3 f0 f1 f2 f3 hdrop hkd hgs2 hstk2 hs2c hf hgl
          unfold maxLen at hk1 hk2
          have hba := (hbw2.alloc hbw2.size (.cells #[.int .i64 kx, .string tx, .slice Ax kd.length cx, .slice Ax' nkx cx'] 26))
          have hoa := hown2.alloc (.cells #[.int .i64 kx, .string tx, .slice Ax kd.length cx, .slice Ax' nkx cx'] 26)
          by_cases hkz : kd.length = 0
          · have hkdn : kd = [] := List.length_eq_zero_iff.1 hkz
            have hfinal : DRel w N K (n + nr) r s.length (nr - (q + 1)) (.int .i64 ((m2 + nkx : Nat) : Int)) u4 (.int .i64 ((q + 1 : Nat) : Int)) (wr.alloc (.cells #[.int .i64 kx, .string tx, .slice Ax kd.length cx, .slice Ax' nkx cx'] 26)) := by
              have h1 := HN2.out
              have h2 := HM2.out
              rw [hkdn, List.map_nil, zcL] at h1
              rw [hkdn, List.map_nil, zkL] at h2
              refine ⟨q + 1, s2, vs2, m2 + nkx, by have := HRL.out; omega, rfl, rfl, by omega, by unfold tkL; omega, hoa, HSTK.out, HGS2.out, by omega, hba, by have := hba.size; simp; omega⟩
            have HF := Lib.hid hfinal
            clear hfinal hba hoa hkdn
            generalize kd.length = nkd at *
            subst hkz
            go_wp2
            go_roundg (nr - (q + 1))
            case measure => omega
            case rel => have h := HF.out; simpa using h
          · have hkp : 0 < kd.length := by omega
            have hafter : ∀ (v5 : Value) (w5 : World) (o5 : Obj), w5.ownsRow (w.heap.size + 1) 23 1 v5 (s2.length + 1) (vs2.reverse ++ [.slice Ax kd.length cx]) → ((wr.alloc (.cells #[.int .i64 kx, .string tx, .slice Ax kd.length cx, .slice Ax' nkx cx'] 26)).alloc o5).grownBy w5 u4.ownBlock →
                DRel w N K (n + nr) r s.length (nr - (q + 1)) (.int .i64 ((m2 + nkx : Nat) : Int)) v5 (.int .i64 ((q + 1 : Nat) : Int)) w5 := by
              intro v5 w5 o5 ho5 hg5
              have h1 := HN2.out
              have h2 := HM2.out
              have hba2 := hba.alloc hba.size o5
              have hb5 := below_app hba2 hg5 (fun g e => by have := (HGL.out g e).1; omega) hba2.size
              refine ⟨q + 1, kd :: s2, .slice Ax kd.length cx :: vs2, m2 + nkx, by have := HRL.out; omega, rfl, rfl, by rw [tcS]; unfold tcL; omega, by rw [tkS]; unfold tkL; omega, by simpa using ho5, ⟨HXSL.out, HXK.out, HSTK.out⟩, fun y hy => ?_, by simp only [List.length_cons]; omega, hb5, by have := hg5.size; simp at this; omega⟩
              rcases List.mem_cons.1 hy with rfl | hy
              · exact List.length_pos_iff.1 hkp
              · exact HGS2.out y hy
            have HAf := Lib.hid hafter
            clear hafter hba
            generalize kd.length = nkd at *
            go_wp2_with (at_builtin; refine wpList_append_own_at _ rfl _ _ 99 rfl (w.heap.size + 1) 23 i0 _ 1 24 Tryd.underlying99 hi hz0 hz1 hz2 rfl (by decide) _ _ _ rfl (hoa.alloc _) ⟨wr.heap.size + 1, 0, none⟩ 1 1 [.slice Ax nkd cx] rfl rfl (by have := cell_one_new (wr.alloc (.cells #[.int .i64 kx, .string tx, .slice Ax nkd cx, .slice Ax' nkx cx'] 26)) (.slice Ax nkd cx) 23; simpa using this) (by simp [Value.oneCell']) (by unfold maxLen; omega) (by omega) (by simp; omega) ?_; intro v5 w5 hown5 hg5 _ hb5; have HF := (Lib.hid (HAf.out v5 w5 _ hown5 hg5)); clear hown5 hg5 hb5)
            go_roundg (nr - (q + 1))
            case measure => omega
            case rel => have h := HF.out; simpa using h
        · have hqn : q = nr := by omega
          subst hqn
          have hdr : r.drop q = [] := List.drop_eq_nil_iff.2 (by have := HRL.out; omega)
          rw [hdr, pnd] at hn2
          rw [hdr] at hm2
          have hm2' : m2 + tkS s2 = K := by unfold tkL at hm2; rw [List.map_nil, zkL] at hm2; omega
          have hfin : CRel w N K (2 * tcS s2 + s2.length) (.int .i64 ((n + q : Nat) : Int)) (.int .i64 m2) u4 wr := ⟨s2, vs2, n + q, m2, rfl, rfl, by omega, hm2', rfl, hown2, hstk2, .inl hgs2, hbw2, hsz2⟩
          have HF := Lib.hid hfin
          have HGF := Lib.hid (HGE.out (tcS s2) s2.length (by have := HSUM.out; omega) hlen2)
          clear hfin hdr hn2 hm2 hm2' hown2 hstk2 hgs2
          go_wp2
          go_roundg (2 * tcS s2 + s2.length)
          case measure => exact HGF.out
          case rel => have h := HF.out; simpa using h
end Go.Proofs.YtjcnjaebmndeiaaDoor
