/-
  The parser's 'value', and 'json.Parse'.
-/
import Derived.Test.YtcamaloekanelaaDoorLen
namespace Go.Proofs.YtcamaloekanelaaDoor
open Go.RowKit

/-- What 'nest' is to answer at a bracket. -/
def NestIs (w : World) (p : Nat) (s : ByteArray) (kind fin : Int) (d : Nat) (x : UInt8) (r : Bs) (M : Res) : Prop :=
  ∀ w1, Step w p s (x :: r) w1 → Calls Tryd.prog 57 #[.pointer (some ⟨p, 0, none⟩), .int .i64 kind, .int .u8 fin, .int .i64 d] w1 (NestPost w1 p s M)

theorem Step.res {w w' : World} {p : Nat} {s : ByteArray} {ys : Bs} {o : Obj} (h : Step (w.alloc o) p s ys w') (hp : p < w.heap.size) : w'.heap[w.heap.size]? = some o :=
  h.fr.at (heap_alloc_new w o) (by omega)

theorem res_cells {w' : World} {b : Nat} (h : w'.heap[b]? = some (.cells zcells 26 (0, 0))) : w'.cell? ⟨b, 0, none⟩ = some (.int .i64 0) ∧ w'.cell? ⟨b, 1, none⟩ = some (.string ⟨#[]⟩) ∧ w'.cell? ⟨b, 2, none⟩ = some (.slice none 0 0) ∧ w'.cell? ⟨b, 3, none⟩ = some (.slice none 0 0) ∧
    w'.frozen? ⟨b, 0, none⟩ = false ∧ w'.frozen? ⟨b, 1, none⟩ = false ∧ w'.frozen? ⟨b, 2, none⟩ = false ∧ w'.frozen? ⟨b, 3, none⟩ = false :=
  ⟨by rw [cell_of_row _ _ _ _ _ _ h]; rfl, by rw [cell_of_row _ _ _ _ _ _ h]; rfl, by rw [cell_of_row _ _ _ _ _ _ h]; rfl, by rw [cell_of_row _ _ _ _ _ _ h]; rfl,
   frozen_of_row w' b 0 _ 26 h, frozen_of_row w' b 1 _ 26 h, frozen_of_row w' b 2 _ 26 h, frozen_of_row w' b 3 _ 26 h⟩
set_option maxHeartbeats 2000000 in
set_option maxRecDepth 100000 in
theorem value_arr (p : Nat) (s : ByteArray) (xs : Bs) (d : Nat) (x : UInt8) (r : Bs) (M : Res) (hw : white xs = x :: r) (hx : x.toNat = 91) (w : World) (h : Par w p s xs)
    (hN : NestIs w p s 6 93 d x r M) : Calls Tryd.prog 35 #[.pointer (some ⟨p, 0, none⟩), .int .i64 d] w (NestPost w p s M) := by
  have hplt := h.lt
  have hsg := sign_any p s xs (w.alloc (.cells zcells 26)) ((Step.refl h).alloc _).1
  rw [hw] at hsg
  have HN := Lib.hid hN
  clear hN hw
  have bx : ((x.toNat : Int) == 91) = true := by simp only [beq_iff_eq]; omega
  clear hx
  cases M with
  | error er =>
    go_enter Tryd.func35, Tryd.ntmps35
    go_wp2_with fail
    refine hsg.mono ?_
    rintro e w1 ⟨rfl, hst1⟩
    have hst := ((Step.refl h).alloc (.cells zcells 26)).of hst1
    go_wp2_with fail
    refine (HN.out w1 hst).mono ?_
    rintro e w2 ⟨rfl, ys, hst2⟩
    have hres := hst2.fr.at (hst1.res hplt) (show w.heap.size ≠ p by omega)
    obtain ⟨q0, q1, q2, q3, y0, y1, y2, y3⟩ := res_cells hres
    have hst3 := hst.of hst2
    clear hsg HN
    go_wp2
    refine bodyPost_ret (v := .tuple #[zero26, .int .i64 er]) (by simp [results, Tryd.results35, go_sem, q0, q1, q2, q3]) rfl ?_
    exact ⟨rfl, ys, hst3.set4 (Nat.le_refl _) hplt⟩
  | ok vr =>
    obtain ⟨v, t⟩ := vr
    go_enter Tryd.func35, Tryd.ntmps35
    go_wp2_with fail
    refine hsg.mono ?_
    rintro e w1 ⟨rfl, hst1⟩
    have hst := ((Step.refl h).alloc (.cells zcells 26)).of hst1
    go_wp2_with fail
    refine (HN.out w1 hst).mono ?_
    rintro e w2 ⟨v0, v1, v2, v3, rfl, hj, hst2⟩
    have hres1 := hst1.res hplt
    have hres := hst2.fr.at hres1 (show w.heap.size ≠ p by omega)
    have hsz := blk_lt hres1
    obtain ⟨q0, q1, q2, q3, y0, y1, y2, y3⟩ := res_cells hres
    have hst3 := hst.of hst2
    obtain ⟨kk, tt, A, A', n1, cap1, n2, cap2, rfl, rfl, rfl, rfl⟩ := hj.forms
    clear hsg HN
    go_wp2
    refine bodyPost_ret (v := .tuple #[.agg #[.int .i64 kk, .string tt, .slice A n1 cap1, .slice A' n2 cap2], .int .i64 0]) (by simp [results, Tryd.results35, go_sem, q0, q1, q2, q3]) rfl ?_
    exact ⟨_, _, _, _, rfl, (hj.set4 (fun g hg => by omega)).mono (fun g _ hg => by omega), hst3.set4 (Nat.le_refl _) hplt⟩
set_option maxHeartbeats 2000000 in
set_option maxRecDepth 100000 in
theorem value_obj (p : Nat) (s : ByteArray) (xs : Bs) (d : Nat) (x : UInt8) (r : Bs) (M : Res) (hw : white xs = x :: r) (hx : x.toNat = 123) (w : World) (h : Par w p s xs)
    (hN : NestIs w p s 7 125 d x r M) : Calls Tryd.prog 35 #[.pointer (some ⟨p, 0, none⟩), .int .i64 d] w (NestPost w p s M) := by
  have hplt := h.lt
  have hsg := sign_any p s xs (w.alloc (.cells zcells 26)) ((Step.refl h).alloc _).1
  rw [hw] at hsg
  have HN := Lib.hid hN
  clear hN hw
  have b91 : ((x.toNat : Int) == 91) = false := by simp only [beq_eq_false_iff_ne, ne_eq]; omega
  have bx : ((x.toNat : Int) == 123) = true := by simp only [beq_iff_eq]; omega
  clear hx
  cases M with
  | error er =>
    go_enter Tryd.func35, Tryd.ntmps35
    go_wp2_with fail
    refine hsg.mono ?_
    rintro e w1 ⟨rfl, hst1⟩
    have hst := ((Step.refl h).alloc (.cells zcells 26)).of hst1
    go_wp2_with fail
    refine (HN.out w1 hst).mono ?_
    rintro e w2 ⟨rfl, ys, hst2⟩
    have hres := hst2.fr.at (hst1.res hplt) (show w.heap.size ≠ p by omega)
    obtain ⟨q0, q1, q2, q3, y0, y1, y2, y3⟩ := res_cells hres
    have hst3 := hst.of hst2
    clear hsg HN
    go_wp2
    refine bodyPost_ret (v := .tuple #[zero26, .int .i64 er]) (by simp [results, Tryd.results35, go_sem, q0, q1, q2, q3]) rfl ?_
    exact ⟨rfl, ys, hst3.set4 (Nat.le_refl _) hplt⟩
  | ok vr =>
    obtain ⟨v, t⟩ := vr
    go_enter Tryd.func35, Tryd.ntmps35
    go_wp2_with fail
    refine hsg.mono ?_
    rintro e w1 ⟨rfl, hst1⟩
    have hst := ((Step.refl h).alloc (.cells zcells 26)).of hst1
    go_wp2_with fail
    refine (HN.out w1 hst).mono ?_
    rintro e w2 ⟨v0, v1, v2, v3, rfl, hj, hst2⟩
    have hres1 := hst1.res hplt
    have hres := hst2.fr.at hres1 (show w.heap.size ≠ p by omega)
    have hsz := blk_lt hres1
    obtain ⟨q0, q1, q2, q3, y0, y1, y2, y3⟩ := res_cells hres
    have hst3 := hst.of hst2
    obtain ⟨kk, tt, A, A', n1, cap1, n2, cap2, rfl, rfl, rfl, rfl⟩ := hj.forms
    clear hsg HN
    go_wp2
    refine bodyPost_ret (v := .tuple #[.agg #[.int .i64 kk, .string tt, .slice A n1 cap1, .slice A' n2 cap2], .int .i64 0]) (by simp [results, Tryd.results35, go_sem, q0, q1, q2, q3]) rfl ?_
    exact ⟨_, _, _, _, rfl, (hj.set4 (fun g hg => by omega)).mono (fun g _ hg => by omega), hst3.set4 (Nat.le_refl _) hplt⟩

set_option maxHeartbeats 2000000 in
set_option maxRecDepth 100000 in
/-- 'value' at a string. -/
theorem value_str (p : Nat) (s : ByteArray) (xs : Bs) (d : Nat) (x : UInt8) (r : Bs) (hw : white xs = x :: r) (hx : x.toNat = 34) (w : World) (h : Par w p s xs) (hG : Gl w) (hp4 : 4 ≤ p) :
    Calls Tryd.prog 35 #[.pointer (some ⟨p, 0, none⟩), .int .i64 d] w (NestPost w p s (match qstr r with | none => .error 4 | some (t, r') => .ok (.mk 5 (str t) [] [], r'))) := by
  have hplt := h.lt
  have hsg := sign_any p s xs (w.alloc (.cells zcells 26)) ((Step.refl h).alloc _).1
  rw [hw] at hsg
  have hq : ∀ w1, Step w p s (x :: r) w1 → Calls Tryd.prog 58 #[.pointer (some ⟨p, 0, none⟩)] w1 (QuoPost w1 p s (qstr r)) := fun w1 hst => quoted_any p s x r w1 hst.1 (hG.step hp4 hst) hp4
  have b91 : ((x.toNat : Int) == 91) = false := by simp only [beq_eq_false_iff_ne, ne_eq]; omega
  have b123 : ((x.toNat : Int) == 123) = false := by simp only [beq_eq_false_iff_ne, ne_eq]; omega
  have bx : ((x.toNat : Int) == 34) = true := by simp only [beq_iff_eq]; omega
  clear hx hw
  generalize qstr r = o at *
  have HQ := Lib.hid hq
  clear hq
  cases o with
  | none =>
    go_enter Tryd.func35, Tryd.ntmps35
    go_wp2_with fail
    refine hsg.mono ?_
    rintro e w1 ⟨rfl, hst1⟩
    have hst := ((Step.refl h).alloc (.cells zcells 26)).of hst1
    go_wp2_with fail
    refine (HQ.out w1 hst).mono ?_
    rintro e w2 ⟨rfl, ys, hst2⟩
    have hres := hst2.fr.at (hst1.res hplt) (show w.heap.size ≠ p by omega)
    obtain ⟨q0, q1, q2, q3, y0, y1, y2, y3⟩ := res_cells hres
    have hst3 := hst.of hst2
    clear hsg HQ
    go_wp2
    refine bodyPost_ret (v := .tuple #[zero26, .int .i64 4]) (by simp [results, Tryd.results35, go_sem, q0, q1, q2, q3]) rfl ?_
    exact ⟨rfl, ys, hst3.set4 (Nat.le_refl _) hplt⟩
  | some tr =>
    obtain ⟨t, r'⟩ := tr
    have hq2 : ∀ w1, Step w p s (x :: r) w1 → Calls Tryd.prog 58 #[.pointer (some ⟨p, 0, none⟩)] w1 fun e w' => e = .returned (.tuple #[.string (str t), .int .i64 0]) ∧ Step w1 p s r' w' := HQ.out
    simp only
    generalize str t = T at *
    clear HQ
    have HQ := Lib.hid hq2
    clear hq2
    go_enter Tryd.func35, Tryd.ntmps35
    go_wp2_with fail
    refine hsg.mono ?_
    rintro e w1 ⟨rfl, hst1⟩
    have hst := ((Step.refl h).alloc (.cells zcells 26)).of hst1
    go_wp2_with fail
    refine (HQ.out w1 hst).mono ?_
    rintro e w2 ⟨rfl, hst2⟩
    have hres := hst2.fr.at (hst1.res hplt) (show w.heap.size ≠ p by omega)
    obtain ⟨q0, q1, q2, q3, y0, y1, y2, y3⟩ := res_cells hres
    have hst3 := hst.of hst2
    clear hsg HQ
    go_wp2
    refine bodyPost_ret (v := .tuple #[leaf 5 T, .int .i64 0]) (by simp [results, Tryd.results35, go_sem, q0, q1, q2, q3]) rfl ?_
    exact ⟨_, _, _, _, rfl, JIn.leaf _ _ 5 T, hst3.set4 (Nat.le_refl _) hplt⟩
set_option maxHeartbeats 2000000 in
set_option maxRecDepth 100000 in
/-- 'value' at anything else. -/
theorem value_plain (p : Nat) (s : ByteArray) (xs : Bs) (d : Nat) (ys : Bs) (hw : white xs = ys) (hx : ((ys.head?.getD 0).toNat : Int) ≠ 91 ∧ ((ys.head?.getD 0).toNat : Int) ≠ 123 ∧ ((ys.head?.getD 0).toNat : Int) ≠ 34) (w : World) (h : Par w p s xs) (hG : Gl w) (hp4 : 4 ≤ p) :
    Calls Tryd.prog 35 #[.pointer (some ⟨p, 0, none⟩), .int .i64 d] w (ValPost w p s (plainM ys)) := by
  have hplt := h.lt
  have hsg := sign_any p s xs (w.alloc (.cells zcells 26)) ((Step.refl h).alloc _).1
  rw [hw] at hsg
  have hnum := fun t w1 hs => numeral_any t w1 hs
  have b91 : (((ys.head?.getD 0).toNat : Int) == 91) = false := by simp only [beq_eq_false_iff_ne, ne_eq]; omega
  have b123 : (((ys.head?.getD 0).toNat : Int) == 123) = false := by simp only [beq_eq_false_iff_ne, ne_eq]; omega
  have bx : (((ys.head?.getD 0).toNat : Int) == 34) = false := by simp only [beq_eq_false_iff_ne, ne_eq]; omega
  clear hx hw
  go_enter Tryd.func35, Tryd.ntmps35
  go_wp2_with fail
  refine hsg.mono ?_
  rintro e w1 ⟨rfl, hst1⟩
  have hst := ((Step.refl h).alloc (.cells zcells 26)).of hst1
  have hres := hst1.res hplt
  obtain ⟨k, c0, c1, f0, f1, ha, hs, _⟩ := hst.1.parts
  have hk := ha.le
  have hrest := ha.rest
  have hncall : ∀ n, Calls Tryd.prog 59 #[.string (s.extract k s.size)] (w1.drewN n) fun e w' => e = .returned (.int .i64 (numN ys)) ∧ w' = w1.drewN n := fun n => by
    have := numeral_any (s.extract k s.size) (w1.drewN n) (by rw [size_len, hrest]; have := ha.len; omega)
    rw [hrest] at this
    exact this.mono fun e w' ⟨a, b⟩ => ⟨a, b.symm⟩
  have hpn := plain_num (xs := ys)
  have hpw := plain_word (xs := ys)
  have hns := num_some (xs := ys)
  have HC := Lib.hid hncall
  generalize numN ys = n at *
  clear hncall hrest hsg hnum ha
  go_wp2
  go_quiet ((go_at_call 59; exact quiet_same (HC.out) _))
  generalize hW : w1.drewN nq = w2
  have hst2 : Step w p s ys w2 := by rw [← hW]; exact hst.drewN _
  have hres2 : w2.heap[w.heap.size]? = some (.cells zcells 26 (0, 0)) := by rw [← hW]; exact hres
  have hG2 := hG.step hp4 hst2
  have HPN := Lib.hid hpn
  have HPW := Lib.hid hpw
  have HNS := Lib.hid hns
  clear hW hst hst1 hres c0 c1 f0 f1 hk HC hpn hpw hns
  by_cases hn : 0 < n
  · have hle := (HNS.out hn).1
    have hni : (0 : Int) < (n : Int) := by omega
    have hnl : n ≤ 30000 := by
      obtain ⟨k, _, _, _, _, ha, hs, _⟩ := hst2.1.parts
      have := ha.len
      omega
    have hcall := number_any p s ys n hle w2 hst2.1
    rcases HPN.out hn with hp | ⟨hp, dd, rr, hdr, hdd⟩
    · have HP := Lib.hid hp
      clear hp HPN HPW HNS
      generalize str (numT (ys.take n)) = T at *
      go_wp2_with fail
      refine hcall.mono ?_
      rintro e w3 ⟨rfl, hst3⟩
      have hres3 := hst3.fr.at hres2 (show w.heap.size ≠ p by omega)
      obtain ⟨q0, q1, q2, q3, y0, y1, y2, y3⟩ := res_cells hres3
      have hst4 := hst2.of hst3
      clear hcall
      go_wp2
      refine bodyPost_ret (v := .tuple #[leaf 4 T, .int .i64 0]) (by simp [results, Tryd.results35, go_sem, q0, q1, q2, q3]) rfl ?_
      rw [HP.out]
      exact ⟨_, _, _, _, rfl, JIn.leaf _ _ 4 T, hst4.set4 (Nat.le_refl _) hplt⟩
    · have HP := Lib.hid hp
      rw [hdr] at hcall
      clear hp HPN HPW HNS hdr
      generalize str (numT (ys.take n)) = T at *
      go_wp2_with fail
      refine hcall.mono ?_
      rintro e w3 ⟨rfl, hst3⟩
      have hres3 := hst3.fr.at hres2 (show w.heap.size ≠ p by omega)
      obtain ⟨q0, q1, q2, q3, y0, y1, y2, y3⟩ := res_cells hres3
      have hst4 := hst2.of hst3
      have HD := Lib.hid hdd
      clear hcall hdd
      go_wp2
      refine bodyPost_ret (v := .tuple #[leaf 4 T, .int .i64 0]) (by simp [results, Tryd.results35, go_sem, q0, q1, q2, q3]) rfl ?_
      rw [HP.out]
      exact .inr ⟨rfl, T, dd, rr, rfl, HD.out, hst4.set4 (Nat.le_refl _) hplt⟩
  · obtain rfl : n = 0 := by omega
    have hword := word_any p s ys w2 hst2.1 hG2
    have hw := HPW.out rfl
    unfold WordPost at hword
    clear HPN HPW HNS hn
    have hfin : ∀ (kk : Nat) (m : Nat) w3, Step w2 p s (ys.drop m) w3 → w3.heap[w.heap.size]? = some (.cells zcells 26 (0, 0)) := fun kk m w3 hst3 => hst3.fr.at hres2 (show w.heap.size ≠ p by omega)
    by_cases h1 : wordNull.isPrefixOf ys = true
    · simp only [if_pos h1] at hword hw
      have HP := Lib.hid hw
      clear hw h1 hfin
      go_wp2_with fail
      refine hword.mono ?_
      rintro e w3 ⟨rfl, hst3⟩
      have hres3 := hst3.fr.at hres2 (show w.heap.size ≠ p by omega)
      obtain ⟨q0, q1, q2, q3, y0, y1, y2, y3⟩ := res_cells hres3
      have hst4 := hst2.of hst3
      clear hword
      go_wp2
      refine bodyPost_ret (v := .tuple #[leaf 1 ⟨#[]⟩, .int .i64 0]) (by simp [results, Tryd.results35, go_sem, q0, q1, q2, q3]) rfl ?_
      rw [HP.out]
      exact ⟨_, _, _, _, rfl, JIn.leaf _ _ 1 _, hst4.set4 (Nat.le_refl _) hplt⟩
    · simp only [if_neg h1] at hword hw
      by_cases h2 : wordFalse.isPrefixOf ys = true
      · simp only [if_pos h2] at hword hw
        have HP := Lib.hid hw
        clear hw h1 h2 hfin
        go_wp2_with fail
        refine hword.mono ?_
        rintro e w3 ⟨rfl, hst3⟩
        have hres3 := hst3.fr.at hres2 (show w.heap.size ≠ p by omega)
        obtain ⟨q0, q1, q2, q3, y0, y1, y2, y3⟩ := res_cells hres3
        have hst4 := hst2.of hst3
        clear hword
        go_wp2
        refine bodyPost_ret (v := .tuple #[leaf 2 ⟨#[]⟩, .int .i64 0]) (by simp [results, Tryd.results35, go_sem, q0, q1, q2, q3]) rfl ?_
        rw [HP.out]
        exact ⟨_, _, _, _, rfl, JIn.leaf _ _ 2 _, hst4.set4 (Nat.le_refl _) hplt⟩
      · simp only [if_neg h2] at hword hw
        by_cases h3 : wordTrue.isPrefixOf ys = true
        · simp only [if_pos h3] at hword hw
          have HP := Lib.hid hw
          clear hw h1 h2 h3 hfin
          go_wp2_with fail
          refine hword.mono ?_
          rintro e w3 ⟨rfl, hst3⟩
          have hres3 := hst3.fr.at hres2 (show w.heap.size ≠ p by omega)
          obtain ⟨q0, q1, q2, q3, y0, y1, y2, y3⟩ := res_cells hres3
          have hst4 := hst2.of hst3
          clear hword
          go_wp2
          refine bodyPost_ret (v := .tuple #[leaf 3 ⟨#[]⟩, .int .i64 0]) (by simp [results, Tryd.results35, go_sem, q0, q1, q2, q3]) rfl ?_
          rw [HP.out]
          exact ⟨_, _, _, _, rfl, JIn.leaf _ _ 3 _, hst4.set4 (Nat.le_refl _) hplt⟩
        · simp only [if_neg h3] at hword hw
          have HP := Lib.hid hw
          clear hw h1 h2 h3 hfin
          go_wp2_with fail
          refine hword.mono ?_
          rintro e w3 ⟨rfl, hst3⟩
          have hres3 := hst3.fr.at hres2 (show w.heap.size ≠ p by omega)
          obtain ⟨q0, q1, q2, q3, y0, y1, y2, y3⟩ := res_cells hres3
          have hst4 := hst2.of hst3
          clear hword
          go_wp2
          refine bodyPost_ret (v := .tuple #[zero26, .int .i64 4]) (by simp [results, Tryd.results35, go_sem, q0, q1, q2, q3]) rfl ?_
          rw [HP.out]
          exact .inl ⟨rfl, .inl rfl, _, hst4.set4 (Nat.le_refl _) hplt⟩

-- which faults there are
theorem loopM_er {sub : Bs → Res} (hs : ∀ ys er, sub ys = .error er → er = 4 ∨ er = 5 ∨ er = 7) {obj : Bool} : ∀ (f : Nat) (ks : List ByteArray) (l : List J) (xs : Bs) (er : Nat), loopM sub obj f ks l xs = .error er → er = 4 ∨ er = 5 ∨ er = 7
  | 0, _, _, _, _, h => by cases h; omega
  | f + 1, ks, l, xs, er, h => by
    cases hh : headM obj ks xs with
    | error e =>
      rw [loopM_head hh] at h
      cases h
      cases obj with
      | false => rw [headM_arr] at hh; cases hh
      | true =>
        cases hk : keyM ks xs with
        | error e => rw [headM_err hk] at hh; cases hh; have := keyM_err hk; omega
        | ok kr => obtain ⟨k, r⟩ := kr; rw [headM_ok hk] at hh; cases hh
    | ok ky =>
      obtain ⟨ks', ys⟩ := ky
      cases hv : sub ys with
      | error e => rw [loopM_err hh hv] at h; cases h; exact hs _ _ hv
      | ok vz =>
        obtain ⟨u, z⟩ := vz
        cases hw : white z with
        | nil => rw [loopM_nil hh hv hw] at h; cases h; omega
        | cons c q =>
          rw [loopM_cons hh hv hw] at h
          split at h
          · exact loopM_er hs f _ _ _ _ h
          · split at h
            · cases h
            · cases h; omega
theorem manyM_er {sub : Bs → Res} (hs : ∀ ys er, sub ys = .error er → er = 4 ∨ er = 5 ∨ er = 7) {obj : Bool} {xs : Bs} {er : Nat} (h : manyM sub obj xs = .error er) : er = 4 ∨ er = 5 ∨ er = 7 := by
  by_cases he : ∃ c t, white xs = c :: t ∧ c.toNat = finOf obj
  · obtain ⟨c, t, hw, hc⟩ := he
    rw [manyM_fin hw hc] at h; cases h
  · rw [manyM_loop (fun c t hw hc => he ⟨c, t, hw, hc⟩)] at h
    exact loopM_er hs _ _ _ _ _ h
theorem valM_er {sub : Option (Bs → Res)} (hs : ∀ f, sub = some f → ∀ ys er, f ys = .error er → er = 4 ∨ er = 5 ∨ er = 7) (xs : Bs) (er : Nat) (h : valM sub xs = .error er) : er = 4 ∨ er = 5 ∨ er = 7 := by
  unfold valM at h
  cases hw : white xs with
  | nil => rw [hw] at h; cases h; omega
  | cons c r =>
    rw [hw] at h
    simp only at h
    split at h
    · cases sub with
      | none => cases h; omega
      | some f => exact manyM_er (hs f rfl) h
    · split at h
      · cases sub with
        | none => cases h; omega
        | some f => exact manyM_er (hs f rfl) h
      · split at h
        · cases hq : qstr r with
          | none => rw [hq] at h; cases h; omega
          | some tr => obtain ⟨t, r'⟩ := tr; rw [hq] at h; cases h
        · unfold plainM at h
          repeat' split at h
          all_goals first | (cases h; omega) | cases h
theorem lev_er : ∀ n ys er, lev n ys = .error er → er = 4 ∨ er = 5 ∨ er = 7
  | 0 => valM_er (fun f h => by cases h)
  | n + 1 => valM_er (fun f h => by cases h; exact lev_er n)
theorem NestPost.val {w : World} {p : Nat} {s : ByteArray} {M : Res} {e : Ending} {w' : World} (h : NestPost w p s M e w') (hM : ∀ er, M = .error er → er = 4 ∨ er = 5 ∨ er = 7) : ValPost w p s M e w' := by
  cases M with
  | ok vr => exact h
  | error er => exact .inl ⟨h.1, hM er rfl, h.2⟩

/-- 'value', with so many levels left. -/
theorem value_any (p : Nat) (s : ByteArray) (hp4 : 4 ≤ p) : ∀ (n d : Nat), d + n = 64 → ∀ (xs : Bs) (w : World), Par w p s xs → Gl w → Calls Tryd.prog 35 #[.pointer (some ⟨p, 0, none⟩), .int .i64 d] w (ValPost w p s (lev n xs)) := by
  intro n
  induction n with
  | zero =>
    intro d hd xs w h hG
    show Calls _ _ _ _ (ValPost w p s (valM none xs))
    have her := fun er => valM_er (sub := none) (fun f h => by cases h) xs er
    unfold valM at her ⊢
    cases hw : white xs with
    | nil => exact value_plain p s xs d [] hw (by decide) w h hG hp4
    | cons c r =>
      rw [hw] at her
      simp only at her ⊢
      by_cases h1 : c.toNat = 91
      · simp only [if_pos h1] at her ⊢
        exact (value_arr p s xs d c r (.error 5) hw h1 w h (fun w1 hst => nest_limit p s _ _ _ _ (by omega) w1 hst.1)).mono fun e w' hp => hp.val her
      · simp only [if_neg h1] at her ⊢
        by_cases h2 : c.toNat = 123
        · simp only [if_pos h2] at her ⊢
          exact (value_obj p s xs d c r (.error 5) hw h2 w h (fun w1 hst => nest_limit p s _ _ _ _ (by omega) w1 hst.1)).mono fun e w' hp => hp.val her
        · simp only [if_neg h2] at her ⊢
          by_cases h3 : c.toNat = 34
          · simp only [if_pos h3] at her ⊢
            exact (value_str p s xs d c r hw h3 w h hG hp4).mono fun e w' hp => hp.val her
          · simp only [if_neg h3]
            exact value_plain p s xs d (c :: r) hw (by simp; omega) w h hG hp4
  | succ n ih =>
    intro d hd xs w h hG
    show Calls _ _ _ _ (ValPost w p s (valM (some (lev n)) xs))
    have her := fun er => lev_er (n + 1) xs er
    change ∀ er, valM (some (lev n)) xs = .error er → _ at her
    have hsub : ∀ w1 ys, Par w1 p s ys → Gl w1 → Calls Tryd.prog 35 #[.pointer (some ⟨p, 0, none⟩), .int .i64 ((d : Int) + 1)] w1 (ValPost w1 p s (lev n ys)) := fun w1 ys a b => by
      have := ih (d + 1) (by omega) ys w1 a b
      simpa using this
    unfold valM at her ⊢
    cases hw : white xs with
    | nil => exact value_plain p s xs d [] hw (by decide) w h hG hp4
    | cons c r =>
      rw [hw] at her
      simp only at her ⊢
      by_cases h1 : c.toNat = 91
      · simp only [if_pos h1] at her ⊢
        exact (value_arr p s xs d c r _ hw h1 w h (fun w1 hst => nest_arr p s c r d (by omega) (lev n) w1 hst.1 (hG.step hp4 hst) hp4 hsub (lev_len n))).mono fun e w' hp => hp.val her
      · simp only [if_neg h1] at her ⊢
        by_cases h2 : c.toNat = 123
        · simp only [if_pos h2] at her ⊢
          exact (value_obj p s xs d c r _ hw h2 w h (fun w1 hst => nest_obj p s c r d (by omega) (lev n) w1 hst.1 (hG.step hp4 hst) hp4 hsub (lev_len n))).mono fun e w' hp => hp.val her
        · simp only [if_neg h2] at her ⊢
          by_cases h3 : c.toNat = 34
          · simp only [if_pos h3] at her ⊢
            exact (value_str p s xs d c r hw h3 w h hG hp4).mono fun e w' hp => hp.val her
          · simp only [if_neg h3]
            exact value_plain p s xs d (c :: r) hw (by simp; omega) w h hG hp4
end Go.Proofs.YtcamaloekanelaaDoor
