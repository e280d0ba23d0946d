/-
  'blocks': one thing behind the other, in blocks.
-/
import Derived.Test.YtlkbcdbjmkfkkaaDoorTkr
import Derived.Deep.LoopGhost
namespace Go.Proofs.YtlkbcdbjmkfkkaaDoor
open Go.RowKit Go.Shelf

/-- What a thing that is taken leaves. -/
def StepP (St : ItS → World → Prop) (Er : World → Prop) (r : Except Nat ItS) (e : Ending) (w' : World) : Prop :=
  match r with
  | .ok s' => e = .returned (.int .i64 0) ∧ St s' w'
  | .error f => e = .returned (.int .i64 f) ∧ 0 < f ∧ Er w'
theorem stepP_ok {St : ItS → World → Prop} {Er : World → Prop} {r : Except Nat ItS} {s : ItS} {w' : World} (hr : r = .ok s) (h : St s w') : StepP St Er r (.returned (.int .i64 0)) w' := by
  subst hr; exact ⟨rfl, h⟩
theorem stepP_err {St : ItS → World → Prop} {Er : World → Prop} {r : Except Nat ItS} {f : Nat} {w' : World} (hr : r = .error f) (hf : 0 < f) (h : Er w') : StepP St Er r (.returned (.int .i64 f)) w' := by
  subst hr; exact ⟨rfl, hf, h⟩
theorem headM_err {xs : List Int} {f : Nat} (h : headM xs = .error f) : 0 < f := by
  unfold headM at h
  split at h
  · rename_i f' h1
    cases h
    exact (numberM_err h1).1
  · split at h
    · cases h
    · split at h
      · rename_i f' h3
        cases h
        exact (numberM_err h3).1
      · split at h
        · cases h; omega
        · cases h
/-- What the things taken have to abide. -/
structure Taking (p q : Nat) (nv : Value) (caps : Array Value) (step : ItS → Except Nat ItS) (St : ItS → World → Prop) (Er : World → Prop) : Prop where
  len : ∀ s s', step s = .ok s' → s'.xs.length ≤ s.xs.length
  tk : ∀ s W, St s W → Tk W p q nv s.xs s.cnt
  rd : ∀ s W W' ys, St s W → Fr W W' (fun k => k ≠ q) → Tk W' p q nv ys s.cnt → St { s with xs := ys } W'
  er : ∀ s W W', St s W → Fr W W' (fun k => k ≠ q) → Er W'
  one : ∀ s W, St s W → Calls Tryd.prog 45 caps W (StepP St Er (step s))
theorem i_wrap {i N : Nat} (h : (N : Int) ≤ maxI) (hi : i < N) : wrap64 ((i : Int) + 1) = ((i + 1 : Nat) : Int) := by unfold maxI at h; unfold wrap64; push_cast; omega

set_option maxHeartbeats 4000000 in
set_option maxRecDepth 100000 in
theorem blocks_any {p q : Nat} {nv : Value} {caps : Array Value} {step : ItS → Except Nat ItS} {St : ItS → World → Prop} {Er : World → Prop} (T : Taking p q nv caps step St Er) (s0 : ItS) (w : World) (h : St s0 w) :
    Calls Tryd.prog 44 #[.pointer (some ⟨p, 0, none⟩), .func (.func 45) #[] caps] w (StepP St Er (blocksM step (s0.xs.length + 1) s0)) := by
  have HT := Lib.hid T
  clear T
  go_enter Tryd.func44, Tryd.ntmps44
  go_wp2
  go_step3
  go_wp2
  go_step3
  go_wp2
  go_loopg [4] (s0.xs.length + 1) (fun g v wr => ∃ s : ItS, v = .int .i64 0 ∧ Hid (blocksM step (s0.xs.length + 1) s0 = blocksM step g s) ∧ s.xs.length < g ∧ St s wr)
  case atStart => exact ⟨s0, rfl, Lib.hid rfl, by omega, h⟩
  case round =>
    obtain ⟨s, rfl, HB, hlt, hst⟩ := hrel
    obtain ⟨g', hg'⟩ : ∃ g', gk = g' + 1 := ⟨gk - 1, by omega⟩
    subst hg'
    have htk := HT.out.tk s wr hst
    have hhd := head_tk p q nv s.xs s.cnt wr htk
    have HST := Lib.hid hst
    clear h hst htk
    cases hh : headM s.xs with
    | error f =>
      rw [hh] at hhd
      have hfe := headM_err hh
      have hf'' : ((f : Int) != 0) = true := by simp; omega
      have HR : Hid (blocksM step (s0.xs.length + 1) s0 = .error f) := Lib.hid (by rw [HB.out, blocksM, hh])
      clear hh HB
      go_wp2_with fail
      refine hhd.mono ?_
      rintro e w1 ⟨hf, n, m, rfl⟩
      have HE := Lib.hid (HT.out.er _ _ _ HST.out hf)
      clear hhd hf
      go_wp2
      try rw [Exit.noGoto_ret]
      go_ret
      exact stepP_err HR.out (by omega) HE.out
    | ok v =>
      obtain ⟨n, sz, ys⟩ := v
      rw [hh] at hhd
      have hl := headM_len hh
      have HL := Lib.hid hl
      have HB2 : Hid (blocksM step (s0.xs.length + 1) s0 = if n = 0 then .ok { s with xs := ys } else
        match roundsM step n.toNat { s with xs := ys } with
        | .error e => .error e
        | .ok s' => if 0 ≤ sz ∧ sz ≠ (ys.length : Int) - s'.xs.length then .error 4 else blocksM step g' s') := Lib.hid (by rw [HB.out, blocksM, hh]; rfl)
      clear hh HB hl
      go_wp2_with fail
      refine hhd.mono ?_
      rintro e w1 ⟨hf, rfl, htk1⟩
      have hst1 := HT.out.rd _ _ _ ys HST.out hf htk1
      clear hhd hf HST
      by_cases hn0 : n = 0
      · have hd : (n == 0) = true := by simpa using hn0
        have HR : Hid (blocksM step (s0.xs.length + 1) s0 = .ok { s with xs := ys }) := Lib.hid (by rw [HB2.out, if_pos hn0])
        clear HB2 hn0 htk1
        have HS1 := Lib.hid hst1
        clear hst1
        go_wp2
        try rw [Exit.noGoto_ret]
        go_ret
        exact stepP_ok HR.out HS1.out
      · have hd : (n == 0) = false := by simpa using hn0
        obtain ⟨c0, c1, c2, _⟩ := htk1.cells
        have HR1 := Lib.hid htk1.rdr
        obtain ⟨N, hN⟩ : ∃ N : Nat, n = N := ⟨n.toNat, by have := HL.out; omega⟩
        subst hN
        have HN := Lib.hid HL.out.2.2.1
        have HB3 : Hid (blocksM step (s0.xs.length + 1) s0 = match roundsM step N { s with xs := ys } with
          | .error e => .error e
          | .ok s' => if 0 ≤ sz ∧ sz ≠ (ys.length : Int) - s'.xs.length then .error 4 else blocksM step g' s') := Lib.hid (by rw [HB2.out, if_neg hn0]; rfl)
        have HYS : Hid (ys.length < s.xs.length) := Lib.hid HL.out.1
        clear HB2 htk1 hn0
        have HS1 := Lib.hid hst1
        clear hst1
        go_wp2_with fail
        refine (left_rd q ys 0 w1 HR1.out).mono ?_
        rintro e w2 ⟨rfl, rfl⟩
        clear c0 c1 c2 HL
        obtain ⟨len, hlen⟩ : ∃ len : Nat, ys.length = len := ⟨_, rfl⟩
        rw [hlen]
        have hlb : len ≤ 100000 := by obtain ⟨_, _, _, _, h⟩ := HR1.out; omega
        have HLEN := Lib.hid hlen
        clear hlen HR1
        go_wp2
        go_loopg [4, 29] N (fun g v i wr => ∃ (s' : ItS) (k : Nat), v = .int .i64 0 ∧ k + g = N ∧ i = .int .i64 k ∧ Hid (roundsM step N { s with xs := ys } = roundsM step g s') ∧ s'.xs.length ≤ len ∧ St s' wr)
        case atStart => exact ⟨_, 0, rfl, by omega, rfl, Lib.hid rfl, by have := HLEN.out; simp only; omega, HS1.out⟩
        case round =>
          obtain ⟨s', k, rfl, hk, rfl, HRO, hxs, hst'⟩ := hrel
          have HS1 := Lib.hid hst'
          clear hst'
          by_cases hkN : k < N
          · obtain ⟨g2, hg2⟩ : ∃ g2, gk = g2 + 1 := ⟨gk - 1, by omega⟩
            subst hg2
            have hlen' := HT.out.len s'
            have HLN := Lib.hid hlen'
            clear hlen'
            cases hst : step s' with
            | error f =>
              have hone := HT.out.one s' wr HS1.out
              rw [hst] at hone
              have HR : Hid (blocksM step (s0.xs.length + 1) s0 = .error f) := Lib.hid (by rw [HB3.out, HRO.out, roundsM, hst])
              clear hst HRO HB3
              go_wp2_with fail
              refine hone.mono ?_
              rintro e w3 ⟨rfl, hf0, her⟩
              have hf'' : ((f : Int) != 0) = true := by simp; omega
              have HE := Lib.hid her
              clear hone her
              go_wp2
              try rw [Exit.noGoto_ret]
              go_ret
              exact stepP_err HR.out hf0 HE.out
            | ok t =>
              have hone := HT.out.one s' wr HS1.out
              rw [hst] at hone
              have hl2 := HLN.out t hst
              have HRO2 : Hid (roundsM step N { s with xs := ys } = roundsM step g2 t) := Lib.hid (by rw [HRO.out, roundsM, hst])
              clear hst HRO
              go_wp2_with fail
              refine hone.mono ?_
              rintro e w3 ⟨rfl, hst3⟩
              have HE := Lib.hid hst3
              clear hone hst3
              go_wp2
              try rw [i_wrap HN.out hkN]
              go_roundg g2
              case measure => omega
              case rel => exact ⟨t, k + 1, rfl, by omega, rfl, HRO2, by omega, HE.out⟩
          · have hg0 : gk = 0 := by omega
            subst hg0
            have HB4 : Hid (blocksM step (s0.xs.length + 1) s0 = if 0 ≤ sz ∧ sz ≠ (len : Int) - s'.xs.length then .error 4 else blocksM step g' s') := Lib.hid (by rw [HB3.out, HRO.out, roundsM]; simp only; rw [HLEN.out])
            have htk := HT.out.tk s' wr HS1.out
            obtain ⟨c0, c1, c2, _⟩ := htk.cells
            have hleft := left_rd q s'.xs 0 wr htk.rdr
            have HER := Lib.hid (HT.out.er s' wr wr HS1.out (Fr.refl _ _))
            have HMS : Hid (s'.xs.length < g') := Lib.hid (by have := HYS.out; have := HLEN.out; omega)
            obtain ⟨m, hm⟩ : ∃ m : Nat, s'.xs.length = m := ⟨_, rfl⟩
            rw [hm] at hleft HB4 hxs
            have HML := Lib.hid hm
            clear hm htk HB3 HRO HYS
            by_cases hz0 : 0 ≤ sz
            · by_cases hzz : sz = (len : Int) - m
              · have hd : (sz != ((len : Int) - (m : Int))) = false := by simpa using hzz
                have HB5 : Hid (blocksM step (s0.xs.length + 1) s0 = blocksM step g' s') := Lib.hid (by rw [HB4.out, if_neg (by omega)])
                clear HB4 hzz
                go_wp2_with fail
                refine hleft.mono ?_
                rintro e w3 ⟨rfl, rfl⟩
                clear hleft c0 c1 c2
                go_wp2
                go_roundg g'
                case measure => omega
                case rel => exact ⟨s', rfl, HB5, HMS.out, HS1.out⟩
              · have hd : (sz != ((len : Int) - (m : Int))) = true := by simpa using hzz
                have HB5 : Hid (blocksM step (s0.xs.length + 1) s0 = .error 4) := Lib.hid (by rw [HB4.out, if_pos ⟨hz0, hzz⟩])
                clear HB4 hzz
                go_wp2_with fail
                refine hleft.mono ?_
                rintro e w3 ⟨rfl, rfl⟩
                clear hleft c0 c1 c2
                go_wp2
                try rw [Exit.noGoto_ret]
                go_ret
                exact stepP_err (f := 4) HB5.out (by omega) HER.out
            · have hd : decide (0 ≤ sz) = false := decide_eq_false hz0
              have HB5 : Hid (blocksM step (s0.xs.length + 1) s0 = blocksM step g' s') := Lib.hid (by rw [HB4.out, if_neg (by omega)])
              clear HB4 hleft
              go_wp2
              go_roundg g'
              case measure => omega
              case rel => exact ⟨s', rfl, HB5, HMS.out, HS1.out⟩
end Go.Proofs.YtlkbcdbjmkfkkaaDoor
