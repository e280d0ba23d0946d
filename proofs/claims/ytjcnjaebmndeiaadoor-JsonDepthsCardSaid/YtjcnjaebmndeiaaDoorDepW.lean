/-
  PROVED: the law JsonDepths answers true for every pair of arguments (json.Parse takes texts of arrays or of objects nested up to 64 deep, and refuses deeper ones with the error of that name).
  CONDITIONS: none but those of the given statement.
-/
import Derived.Test.YtjcnjaebmndeiaaDoorAwk
import Derived.Test.YtjcnjaebmndeiaaDoorDepM
import Derived.Test.YtjcnjaebmndeiaaDoorDepF
namespace Go.Proofs.YtjcnjaebmndeiaaDoor
open Go.RowKit

theorem bound (a0 : Int) : ∃ N : Nat, 1 ≤ N ∧ N ≤ 70 ∧ wrap64 (1 + wrap64 ((IntKind.u64.wrap a0).tmod 70)) = N := by
  have h0 : 0 ≤ IntKind.u64.wrap a0 := by rw [IntKind.wrap_u64]; omega
  rw [Int.tmod_eq_emod_of_nonneg h0]
  generalize IntKind.u64.wrap a0 = x at *
  exact ⟨(1 + x % 70).toNat, by omega, by omega, by unfold wrap64; omega⟩
theorem rep_len (k : Nat) (l : Bs) : (rep k l).length = k * l.length := by
  induction k with
  | zero => simp [rep]
  | succ k ih => rw [rep, List.length_append, ih, Nat.succ_mul]
theorem str_len (l : Bs) : (str l).size = l.length := by rfl
theorem str_app (l m : Bs) : str l ++ (⟨m.toArray⟩ : ByteArray) = str (l ++ m) := by
  apply Go.WideShapes.bytes_inj
  rw [ByteArray.data_append]
  simp [str]
theorem nest_zero {w : World} {ok : Nat → Prop} {x : VT} (h : VIn w ok x) (hn : isNest 0 x.t = true) : x.kids = [] := by
  have ht := h.ts
  cases hx : x.t with
  | mk k t l ks =>
    rw [hx] at ht hn
    simp only [isNest, List.isEmpty_iff] at hn
    subst hn
    simpa [J.l] using ht
theorem nest_succ {w : World} {ok : Nat → Prop} {x : VT} {r : Nat} (h : VIn w ok x) (hn : isNest (r + 1) x.t = true) : ∃ c, x.kids = [c] ∧ isNest r c.t = true ∧ VIn w ok c := by
  have ht := h.ts
  cases hx : x.t with
  | mk k t l ks =>
    rw [hx] at ht hn
    match l, hn, ht with
    | [y], hn, ht =>
      simp only [isNest, J.l] at hn ht
      match hk : x.kids, ht with
      | [c], ht =>
        simp only [List.map_cons, List.map_nil, List.cons.injEq, and_true] at ht
        exact ⟨c, rfl, by rw [ht]; exact hn, h.kid c (by rw [hk]; simp)⟩
set_option maxHeartbeats 2000000 in
set_option maxRecDepth 100000 in
theorem walk : jsonDepths.Walk := by
  intro a0 a1 w hwf hG
  obtain ⟨N, h1, h2, hN⟩ := bound a0
  have HG := Lib.hid hG
  clear hG hwf
  go_enter Tryd.func9, Tryd.ntmps9
  go_wp2
  rw [hN]
  generalize wrap64 ((IntKind.u64.wrap a0).tmod 70) = z1 at *
  generalize (IntKind.u64.wrap a0).tmod 70 = z2 at *
  generalize IntKind.u64.wrap a0 = z3 at *
  clear hN
  go_loopg [5, 6, 7] N (fun g f b i wr => ∃ k : Nat, k + g = N ∧ i = .int .i64 k ∧ f = .string (str (rep k (fr1 a1))) ∧ b = .string (str (rep k (bk1 a1))) ∧ w = wr)
  case atStart => exact ⟨0, by omega, rfl, rfl, rfl, rfl⟩
  case round =>
    obtain ⟨k, hkg, rfl, rfl, rfl, rfl⟩ := hrel
    have hlf : (rep k (fr1 a1)).length ≤ 350 := by
      rw [rep_len]; have : (fr1 a1).length ≤ 5 := by cases a1 <;> decide
      calc k * (fr1 a1).length ≤ 70 * 5 := Nat.mul_le_mul (by omega) this
        _ = 350 := rfl
    have hlb : (rep k (bk1 a1)).length ≤ 350 := by
      rw [rep_len]; have : (bk1 a1).length ≤ 5 := by cases a1 <;> decide
      calc k * (bk1 a1).length ≤ 70 * 5 := Nat.mul_le_mul (by omega) this
        _ = 350 := rfl
    by_cases hk : k < N
    · have hk' : (k : Int) < N := by omega
      generalize hf : rep k (fr1 a1) = ff at *
      generalize hb : rep k (bk1 a1) = bb at *
      have s1 : ¬ (9223372036854775807 < (str ff).size + 1) := by rw [str_len]; omega
      have s2 : ¬ (9223372036854775807 < (str ff).size + 5) := by rw [str_len]; omega
      have s3 : ¬ (9223372036854775807 < (str bb).size + 1) := by rw [str_len]; omega
      cases a1
      · go_wp2
        go_roundg (N - (k + 1))
        case measure => omega
        case rel => exact ⟨k + 1, by omega, by simp, by rw [rep, hf]; exact congrArg Value.string (str_app ff [91]), by rw [rep, hb]; exact congrArg Value.string (str_app bb [93]), rfl⟩
      · go_wp2
        go_roundg (N - (k + 1))
        case measure => omega
        case rel => exact ⟨k + 1, by omega, by simp, by rw [rep, hf]; exact congrArg Value.string (str_app ff [123, 34, 97, 34, 58]), by rw [rep, hb]; exact congrArg Value.string (str_app bb [125]), rfl⟩
    · have hk' : ¬ ((k : Int) < N) := by omega
      have hkN : k = N := by omega
      subst hkN
      have hch := chk_at a1 h1 h2
      unfold chk nestText at hch
      generalize hf : rep k (fr1 a1) = ff at *
      generalize hb : rep k (bk1 a1) = bb at *
      have s1 : ¬ (9223372036854775807 < (str ff).size + 1) := by rw [str_len]; omega
      have s2 : ¬ (9223372036854775807 < (str ff).size + 1 + (str bb).size) := by rw [str_len, str_len]; omega
      have hp := parse_any (str ff ++ ⟨#[49]⟩ ++ str bb) w HG
      have e1 : (str ff ++ ⟨#[49]⟩ ++ str bb).data.toList = ff ++ [49] ++ bb := by
        rw [ByteArray.data_append, ByteArray.data_append]; simp [str]
      rw [e1] at hp
      clear hf hb e1 hlf hlb
      have hpost : Calls Tryd.prog 12 #[.string (str ff ++ ⟨#[49]⟩ ++ str bb)] w fun e w1 => Below w.heap.size w w1 ∧ ∃ (x : VT) (m er : Nat), e = .returned (.tuple #[x.val, .int .i64 er]) ∧ VIn w1 (fun b => b < w1.heap.size) x ∧ isNest m x.t = true ∧ m ≤ k ∧ (k ≤ 64 ∧ er = 0 ∧ m = k ∨ 64 < k ∧ er = 5 ∧ m = 0) := by
        refine hp.mono ?_
        rintro e w1 ⟨hb, hm⟩
        refine ⟨hb, ?_⟩
        cases hq : parseM (ff ++ [49] ++ bb) with
        | ok v =>
          rw [hq] at hm hch
          obtain ⟨v0, v1, v2, v3, rfl, hj⟩ := hm
          obtain ⟨kids, hv⟩ := hj.vt
          simp only [Bool.and_eq_true, decide_eq_true_eq] at hch
          exact ⟨_, k, 0, rfl, hv.inside, hch.2, Nat.le_refl _, .inl ⟨hch.1, rfl, rfl⟩⟩
        | error er =>
          rw [hq] at hm hch
          simp only [Bool.and_eq_true, decide_eq_true_eq, beq_iff_eq] at hch
          obtain ⟨hc1, rfl⟩ := hch
          refine ⟨.mk (.mk 0 ⟨#[]⟩ [] []) (.int .i64 0) (.string ⟨#[]⟩) (.slice none 0 0) (.slice none 0 0) [], 0, 5, hm, ?_, rfl, by omega, .inr ⟨hc1, rfl, rfl⟩⟩
          exact .mk _ _ _ _ _ _ ⟨none, 0, rfl, by simp, by decide, by simp⟩ (.mk 0 ⟨#[]⟩ [] [] none none 0 0 (fun _ _ => undef) ⟨by simp, by decide⟩ ⟨by simp, by decide⟩ (by simp) (by simp) (by simp)) rfl (by simp)
      clear hp hch
      go_wp2_with fail
      refine hpost.mono ?_
      rintro e w1 ⟨hb1, x, m, er, rfl, hv, hn, hmk, hcase⟩
      obtain ⟨kk, tt, A, A', n1, cap1, n2, cap2, f0, f1, f2, f3⟩ := hv.jin.forms
      have hval : x.val = .agg #[.int .i64 kk, .string tt, .slice A n1 cap1, .slice A' n2 cap2] := by simp only [VT.val, f0, f1, f2, f3]
      have hcx : (.cells #[x.v0, x.v1, x.v2, x.v3] 26 (0, 0) : Obj) = .cells #[.int .i64 kk, .string tt, .slice A n1 cap1, .slice A' n2 cap2] 26 (0, 0) := by rw [f0, f1, f2, f3]
      have HV := Lib.hid hv
      have HN := Lib.hid hn
      have HC := Lib.hid hcase
      have HM := Lib.hid hmk
      have HX := Lib.hid hcx
      rw [hval]
      clear hv hn hcase hmk hval hpost f0 f1 f2 f3 hcx
      go_wp2
      have hbA : Below w1.heap.size w1 ((w1.alloc (.cells #[.int .i64 kk, .string tt, .slice A n1 cap1, .slice A' n2 cap2] 26)).alloc (.cells #[.int .i64 kk, .string tt, .slice A n1 cap1, .slice A' n2 cap2] 26)) :=
        ((Below.refl _ _).alloc (Nat.le_refl _) _).alloc (by simp) _
      have hbx := heap_alloc_new (w1.alloc (.cells #[.int .i64 kk, .string tt, .slice A n1 cap1, .slice A' n2 cap2] 26)) (.cells #[.int .i64 kk, .string tt, .slice A n1 cap1, .slice A' n2 cap2] 26 (0, 0))
      rw [show (w1.alloc (.cells #[.int .i64 kk, .string tt, .slice A n1 cap1, .slice A' n2 cap2] 26)).heap.size = w1.heap.size + 1 from by simp] at hbx
      have HB1 := Lib.hid hb1
      clear hb1 s1 s2 hk hk'
      generalize (w1.alloc (.cells #[.int .i64 kk, .string tt, .slice A n1 cap1, .slice A' n2 cap2] 26)).alloc (.cells #[.int .i64 kk, .string tt, .slice A n1 cap1, .slice A' n2 cap2] 26) = W2 at *
      generalize str ff ++ (⟨#[49]⟩ : ByteArray) ++ str bb = q9 at *
      generalize str ff ++ (⟨#[49]⟩ : ByteArray) = q8 at *
      generalize str ff = q7 at *
      generalize str bb = q6 at *
      go_loopg [10, 11] m (fun g d p wr => ∃ (j : Nat) (y : VT) (b : Nat), j + g = m ∧ d = .int .i64 j ∧ p = .pointer (some ⟨b, 0, none⟩) ∧ wr.heap[b]? = some (.cells #[y.v0, y.v1, y.v2, y.v3] 26 (0, 0)) ∧ w1.heap.size ≤ b ∧ VIn w1 (fun b => b < w1.heap.size) y ∧ isNest g y.t = true ∧ Below w1.heap.size w1 wr)
      case atStart => exact ⟨0, x, w1.heap.size + 1, by omega, rfl, rfl, by rw [HX.out]; exact hbx, by omega, HV, HN, hbA⟩
      case round =>
        obtain ⟨j, y, b, hjg, rfl, rfl, hyb, hbb, hyv, hyn, hbw⟩ := hrel
        clear hbx hbA HX
        obtain ⟨ky, ty, B1, B1', m1, d1, m2, d2, f0, f1, f2, f3⟩ := hyv.jin.forms
        have hsl := (hyv.fr (below_fr hbw) (fun _ h => h)).sl
        rw [f0, f1, f2, f3] at hyb
        rw [f2] at hsl
        have hblt := blk_lt hyb
        have q0 : wr.cell? ⟨b, 0, none⟩ = some (.int .i64 ky) := cell_of_row wr _ 0 _ _ _ hyb
        have q1 : wr.cell? ⟨b, 1, none⟩ = some (.string ty) := cell_of_row wr _ 1 _ _ _ hyb
        have q2 : wr.cell? ⟨b, 2, none⟩ = some (.slice B1 m1 d1) := cell_of_row wr _ 2 _ _ _ hyb
        have q3 : wr.cell? ⟨b, 3, none⟩ = some (.slice B1' m2 d2) := cell_of_row wr _ 3 _ _ _ hyb
        obtain ⟨A9, cp9, e9, hs1, hs2, hs3⟩ := hsl
        cases e9
        have HS3 := Lib.hid hs3
        have HYV := Lib.hid hyv
        have HYN := Lib.hid hyn
        clear hs3 hyv hyn
        by_cases hg0 : gk = 0
        · have hk0 : y.kids = [] := nest_zero HYV (by rw [← hg0]; exact HYN)
          rw [hk0] at q2
          have hjm : j = m := by omega
          subst hjm
          clear HS3
          have hGr : Gl wr := (Gl.below HG HB1).below hbw
          have h4 : 4 ≤ wr.heap.size := by
            obtain ⟨ev, hev, _⟩ := hGr.err
            exact World.block_lt_of_cell? wr ⟨3, 0, none⟩ hev
          have haw := awake wr hGr h4
          clear hGr
          go_wp2_with fail
          refine haw.mono ?_
          rintro e w3 ⟨rfl, hb3⟩
          have hfin : Below w.heap.size w w3 := HB1.out.trans ((hbw.mono HB1.out.size).trans (hb3.mono (by have := HB1.out.size; have := hbw.size; omega)))
          have HF := Lib.hid hfin
          clear hfin hb3 haw q0 q1 q2 q3 hyb
          rcases HC.out with ⟨c1, rfl, hmk⟩ | ⟨c1, rfl, rfl⟩
          · subst hmk
            have c2 : (j : Int) ≤ 64 := by omega
            go_wp2
            go_ret
            exact ⟨rfl, HF⟩
          · have c2 : ¬ ((k : Int) ≤ 64) := by omega
            have c3 : (64 : Int) < (k : Int) := by omega
            go_wp2
            go_ret
            exact ⟨rfl, HF⟩
        · obtain ⟨r, hr⟩ : ∃ r, gk = r + 1 := ⟨gk - 1, by omega⟩
          obtain ⟨c, hk0, hcn, hcv⟩ := nest_succ (r := r) HYV.out (by rw [← hr]; exact HYN)
          rw [hk0] at q2 HS3
          obtain ⟨gg, off, rfl, hgB, hcells⟩ := HS3.out (by simp)
          obtain ⟨t0, t1, t2, t3⟩ := hcells 0 c rfl
          obtain ⟨kc, tc, C1, C1', o1, p1, o2, p2, g0, g1, g2, g3⟩ := hcv.jin.forms
          simp only [Nat.mul_zero, Nat.add_zero] at t0 t1 t2 t3
          rw [g0] at t0
          rw [g1] at t1
          rw [g2] at t2
          rw [g3] at t3
          have hgl : gg < wr.heap.size := World.block_lt_of_cell? wr ⟨gg, off, none⟩ t0
          have hgne : gg ≠ wr.heap.size := by omega
          have hj7 : (j : Int) ≤ 100 := by have := HM.out; omega
          have hsw := hbw.size
          have hend : ∀ cs : Array Value, Below w1.heap.size w1 (wr.alloc (.cells cs 26)) := fun cs => hbw.alloc hsw _
          have HE := Lib.hid hend
          clear hcells HS3 hend
          go_wp2
          go_roundg r
          case measure => omega
          case rel => exact ⟨j + 1, c, wr.heap.size, by omega, by simp, rfl, by rw [g0, g1, g2, g3]; exact heap_alloc_new wr _, hsw, hcv, hcn, HE.out _⟩
theorem jsonDepths_holds : Rows.JsonDepthsCardSaid := jsonDepths.card walk
end Go.Proofs.YtjcnjaebmndeiaaDoor
