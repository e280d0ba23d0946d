/-
  'utf8.Valid' of any slice of bytes.
-/
import Derived.Test.YtcmillbjpplfjaaGreatDoorVw
import Derived.Lib.ValidAsc
import Derived.Shelf.Unicode.DecodeAny
import Derived.Laws.BitsAllLaws
import Derived.Deep.LoopGhost
import Derived.Deep.DeepMust
import Derived.Deep.DeepBigQuietO
import Derived.Below
import Derived.Deep.CutBlock
import Derived.Deep.DeepCutAuto
namespace Go.Proofs.YtcmillbjpplfjaaGreatDoor
open Go.RowKit

theorem get_ext (t : ByteArray) (k j : Nat) : (t.extract k t.size).get! j = t.get! (k + j) := by
  rw [← Lib.getD_get!', ← Lib.getD_get!', Lib.ext_list]
  simp [List.getD_eq_getElem?_getD, List.getElem?_drop]
theorem BytesAt.skip {w : World} {g o : Nat} {t : ByteArray} (h : BytesAt w g o t) (k : Nat) : BytesAt w g (o + k) (t.extract k t.size) := fun j hj => by
  rw [get_ext t k j]
  rw [Lib.ext_size] at hj
  have := h (k + j) (by omega)
  rwa [← Nat.add_assoc] at this
theorem BytesAt.below {w w' : World} {g o : Nat} {t : ByteArray} (h : BytesAt w g o t) (hg : g < w.heap.size) (hb : Below w.heap.size w w') : BytesAt w' g o t := fun j hj => by
  rw [hb.cell (p := ⟨g, o + j, none⟩) hg]; exact h j hj
def SlB (w : World) (A : Option Addr) (t : ByteArray) : Prop := 0 < t.size → ∃ g o, A = some ⟨g, o, none⟩ ∧ g < w.heap.size ∧ BytesAt w g o t
set_option maxRecDepth 100000 in
theorem and7v : ∀ X : Fin 256, bits .and .u8 ((X.val : Nat) : Int) 7 = ((X.val % 8 : Nat) : Int) := by decide
theorem below_dn {B : Nat} {a w : World} (h : Below B a w) : ∀ q, Below B a (w.drewN q)
  | 0 => h
  | q + 1 => (below_dn h q).drew
/-- The word of eight bytes, and whether they are below 128. -/
theorem word_at (t : ByteArray) (g o n : Nat) (w : World) (h8 : 8 ≤ n) (hn : n = t.size) (hg : g < w.heap.size) (hb : BytesAt w g o t) :
    ∃ A : Nat, A < 18446744073709551616 ∧ (A &&& 9259542123273814144 = 0 → Lib.Asc t 8) ∧ ∀ c W, Below w.heap.size w W → Calls Tryz.prog 67 #[.slice (some ⟨g, o, none⟩) n c] W fun e w' => e = .returned (.int .u64 (A : Nat)) ∧ ∃ q, w' = W.drewN q :=
  ⟨_, Lib.word_lt t, (Lib.word_asc t (by omega)).1, fun c W hW => word8_any t g o n c W (by omega) hn (hb.below hg hW)⟩
set_option maxHeartbeats 16000000 in
set_option maxRecDepth 1000000 in
theorem valid_any (s : ByteArray) (A : Option Addr) (c : Nat) (w : World) (hs : s.size ≤ c) (hc : c ≤ maxLen) (hA : SlB w A s) (hT : Lib.Utf8Tabs 0 1 w) :
    Calls Tryz.prog 38 #[.slice A s.size c] w fun e w' => e = .returned (.bool (Lib.validD s.data.toList)) ∧ Below w.heap.size w w' := by
  unfold maxLen at hc
  obtain ⟨ANS, hANS⟩ : ∃ ANS, Lib.validD s.data.toList = ANS := ⟨_, rfl⟩
  rw [hANS]
  go_enter Tryz.func38, Tryz.ntmps38
  go_wp2
  go_loopg [0] (s.size + 1) (fun gk s0 wx => Below w.heap.size w wx ∧ ∃ (A' : Option Addr) (n : Nat) (t : ByteArray), s0 = .slice A' n n ∧ n = t.size ∧ SlB w A' t ∧ Lib.validD t.data.toList = ANS ∧ n < gk ∧ n ≤ 9223372036854775807)
  case atStart => exact ⟨Below.refl _ _, A, s.size, s, rfl, rfl, hA, hANS, by omega, by omega⟩
  case round =>
    obtain ⟨hbw, A', n, t, rfl, hn, hAt, hv, hg, hts⟩ := hrel
    clear hANS
    have hTr := Utf8Tabs_below hT hbw
    by_cases h0 : 0 < n
    · obtain ⟨g', rfl⟩ : ∃ g', gk = g' + 1 := ⟨gk - 1, by omega⟩
      obtain ⟨g, o, rfl, hgl, hby⟩ := hAt (by omega)
      have hbr := hby.below hgl hbw
      have h0z : (0 : Int) < (n : Int) := by omega
      have c0 := hbr 0 (by omega)
      rw [Nat.add_zero] at c0
      obtain ⟨x0, hx0⟩ : ∃ x0, t.get! 0 = x0 := ⟨_, rfl⟩
      rw [hx0] at c0
      have hx0lt : x0.toNat < 256 := x0.toNat_lt
      by_cases hasc : x0.toNat < 128
      · have hascz : (x0.toNat : Int) < 128 := by omega
        have a1 : Lib.Asc t 1 := Lib.asc_one t (by omega) (by rw [hx0]; exact hasc)
        obtain ⟨t1, ht1⟩ : ∃ t1, t.extract 1 t.size = t1 := ⟨_, rfl⟩
        have z1 : t1.size + 1 = t.size := by rw [← ht1, Lib.ext_size]; omega
        have v1 : Lib.validD t1.data.toList = ANS := by rw [← ht1, Lib.valid_skip t 1 a1]; exact hv
        have b1 : BytesAt w g (o + 1) t1 := by rw [← ht1]; exact hby.skip 1
        obtain ⟨n1, hn1⟩ : ∃ n1, n = n1 + 1 := ⟨n - 1, by omega⟩
        subst hn1
        have HN1 := Lib.hid (show n1 = t1.size by omega)
        clear hn a1 ht1 z1 hv hby hbr hx0 hAt hTr
        by_cases hz1 : n1 = 0
        · subst hz1
          go_wp2
          go_roundg g'
          case measure => omega
          case rel => exact ⟨hbw, _, 0, t1, rfl, HN1.out, fun h => by have := HN1.out; omega, v1, by omega, by omega⟩
        · have hz1n : n1 ≠ 0 := hz1
          have hz1p : 0 < n1 := by omega
          have SL1 : SlB w (some ⟨g, o + 1, none⟩) t1 := fun _ => ⟨g, o + 1, rfl, hgl, b1⟩
          by_cases c8 : 8 < n1
          · have c8z : (8 : Int) < (n1 : Int) := by omega
            obtain ⟨o1, ho1⟩ : ∃ o1, o + 1 = o1 := ⟨_, rfl⟩
            rw [ho1] at SL1 b1
            obtain ⟨A1, lA1, kA1, cW1⟩ := word_at t1 g o1 n1 w (by omega) HN1.out hgl b1
            have hand1 : bits .and .u64 (A1 : Int) 9259542123273814144 = ((A1 &&& 9259542123273814144 : Nat) : Int) := u64_and_nat A1 9259542123273814144 lA1 (by omega)
            obtain ⟨Z1, hZ1⟩ : ∃ Z1, A1 &&& 9259542123273814144 = Z1 := ⟨_, rfl⟩
            rw [hZ1] at hand1 kA1
            have cR1 := cW1 n1 wr hbw
            by_cases hq1 : Z1 = 0
            · have hq1b : ((Z1 : Int) == 0) = true := by simp [hq1]
              have a8 : Lib.Asc t1 8 := kA1 hq1
              obtain ⟨t2, ht2⟩ : ∃ t2, t1.extract 8 t1.size = t2 := ⟨_, rfl⟩
              have v2 : Lib.validD t2.data.toList = ANS := by rw [← ht2, Lib.valid_skip t1 8 a8]; exact v1
              have b2 : BytesAt w g (o1 + 8) t2 := by rw [← ht2]; exact b1.skip 8
              have z2 : t2.size + 8 = t1.size := by have := HN1.out; rw [← ht2, Lib.ext_size]; omega
              obtain ⟨n2, hn2⟩ : ∃ n2, n1 = n2 + 8 := ⟨n1 - 8, by omega⟩
              subst hn2
              have HN2 := Lib.hid (show n2 = t2.size by have := HN1.out; omega)
              have hz2n : n2 ≠ 0 := by omega
              have SL2 : SlB w (some ⟨g, o1 + 8, none⟩) t2 := fun _ => ⟨g, o1 + 8, rfl, hgl, b2⟩
              clear kA1 a8 v1 ht2 z2 HN1 SL1 b1 cW1
              go_upto_region 7 with (go_at_call 67; go_must (refine cR1.mono ?_; rintro e W1 ⟨rfl, q1, rfl⟩))
              have hb1 : Below w.heap.size w (wr.drewN q1) := below_dn hbw q1
              generalize wr.drewN q1 = wq at hb1 ⊢
              clear cR1 hbw
              obtain ⟨o2, ho2⟩ : ∃ o2, o1 + 8 = o2 := ⟨_, rfl⟩
              rw [ho2] at SL2 b2
              by_cases c16 : 16 < n2
              · have c16z : (16 : Int) < (n2 : Int) := by omega
                have s8z : (8 : Int) ≤ (n2 : Int) := by omega
                obtain ⟨n3, hn3⟩ : ∃ n3, n2 = n3 + 16 := ⟨n2 - 16, by omega⟩
                obtain ⟨A2, lA2, kA2, cW2⟩ := word_at t2 g o2 n2 w (by omega) HN2.out hgl b2
                obtain ⟨A3, lA3, kA3, cW3⟩ := word_at (t2.extract 8 t2.size) g (o2 + 8) (n2 - 8) w (by omega) (by rw [Lib.ext_size, ← HN2.out]) hgl (b2.skip 8)
                have hor2 : bits .or .u64 (A2 : Int) (A3 : Int) = ((A2 ||| A3 : Nat) : Int) := u64_or_nat A2 A3 lA2 lA3
                have lor2 : A2 ||| A3 < 18446744073709551616 := Nat.or_lt_two_pow (n := 64) lA2 lA3
                have hand2 : bits .and .u64 ((A2 ||| A3 : Nat) : Int) 9259542123273814144 = (((A2 ||| A3) &&& 9259542123273814144 : Nat) : Int) := u64_and_nat _ 9259542123273814144 lor2 (by omega)
                have k2 : (A2 ||| A3) &&& 9259542123273814144 = 0 → Lib.Asc t2 16 := fun h0' => by
                  obtain ⟨e1, e2⟩ := (Lib.or_mask A2 A3 _).1 h0'
                  exact Lib.asc_add t2 8 8 (kA2 e1) (kA3 e2)
                obtain ⟨O2, hO2⟩ : ∃ O2, A2 ||| A3 = O2 := ⟨_, rfl⟩
                rw [hO2] at hor2 hand2 k2
                obtain ⟨Z2, hZ2⟩ : ∃ Z2, O2 &&& 9259542123273814144 = Z2 := ⟨_, rfl⟩
                rw [hZ2] at hand2 k2
                have m8 : n2 - 8 = n3 + 8 := by omega
                rw [m8] at cW3
                have m8n : n3 + 8 ≠ 0 := by omega
                subst hn3
                have c16y : (16 : Int) < (n3 : Int) + 16 := by omega
                have s8y : (8 : Int) ≤ (n3 : Int) + 16 := by omega
                have ca2 : ∀ k, Calls Tryz.prog 67 #[.slice (some ⟨g, o2, none⟩) (n3 + 16) (n3 + 16)] (wq.drewN k) fun e w' => e = .returned (.int .u64 (A2 : Nat)) ∧ ∃ q, w' = (wq.drewN k).drewN q := fun k => cW2 _ _ (below_dn hb1 k)
                have ca3 : ∀ k, Calls Tryz.prog 67 #[.slice (some ⟨g, o2 + 8, none⟩) (n3 + 8) (n3 + 8)] (wq.drewN k) fun e w' => e = .returned (.int .u64 (A3 : Nat)) ∧ ∃ q, w' = (wq.drewN k).drewN q := fun k => cW3 _ _ (below_dn hb1 k)
                obtain ⟨o3, ho3⟩ : ∃ o3, o2 + 8 = o3 := ⟨_, rfl⟩
                rw [ho3] at ca3
                clear kA2 kA3 lor2 hO2 hZ2 cW2 cW3 m8
                by_cases hq2 : Z2 = 0
                · have hq2b : ((Z2 : Int) == 0) = true := by simp [hq2]
                  have a16 := k2 hq2
                  obtain ⟨t3, ht3⟩ : ∃ t3, t2.extract 16 t2.size = t3 := ⟨_, rfl⟩
                  have v3 : Lib.validD t3.data.toList = ANS := by rw [← ht3, Lib.valid_skip t2 16 a16]; exact v2
                  have b3 : BytesAt w g (o2 + 16) t3 := by rw [← ht3]; exact b2.skip 16
                  have HN3 := Lib.hid (show n3 = t3.size by have := HN2.out; rw [← ht3, Lib.ext_size]; omega)
                  have hz3n : n3 ≠ 0 := by omega
                  have SL3 : SlB w (some ⟨g, o2 + 16, none⟩) t3 := fun _ => ⟨g, o2 + 16, rfl, hgl, b3⟩
                  clear k2 a16 v2 ht3 b3 HN2 SL2 b2
                  go_wp2_with fail
                  go_big_quiet (first | (go_at_call_of 67 o2; refine Calls.quiet_of (ca2 _)) | (go_at_call_of 67 o3; refine Calls.quiet_of (ca3 _)))
                  have hb2 : Below w.heap.size w (wq.drewN nq) := below_dn hb1 nq
                  generalize wq.drewN nq = wq2 at hb2 ⊢
                  clear ca2 ca3 hb1
                  go_wp2
                  go_loopg [0] (n3 + 1) (fun g2 s0 wx => Below w.heap.size w wx ∧ ∃ (A' : Option Addr) (n : Nat) (u : ByteArray), s0 = .slice A' n n ∧ n = u.size ∧ SlB w A' u ∧ Lib.validD u.data.toList = ANS ∧ n < g2 ∧ n ≤ n3)
                  case atStart => exact ⟨hb2, _, n3, t3, rfl, HN3.out, SL3, v3, by omega, Nat.le_refl _⟩
                  case round => as_aux_lemma =>
                    obtain ⟨hbu, A', n, u, rfl, hnu, hAu, vu, hgu, hut⟩ := hrel
                    by_cases c32 : 32 < n
                    · obtain ⟨g3, rfl⟩ : ∃ g3, gk = g3 + 1 := ⟨gk - 1, by omega⟩
                      obtain ⟨gb, p, rfl, hpl, bu⟩ := hAu (by omega)
                      obtain ⟨m, rfl⟩ : ∃ m, n = m + 32 := ⟨n - 32, by omega⟩
                      have c32z : (32 : Int) < ((m + 32 : Nat) : Int) := by omega
                      have s8u : (8 : Int) ≤ ((m + 32 : Nat) : Int) := by omega
                      have s16u : (16 : Int) ≤ ((m + 32 : Nat) : Int) := by omega
                      have s24u : (24 : Int) ≤ ((m + 32 : Nat) : Int) := by omega
                      have hmn : m ≠ 0 := by omega
                      have c32y : (32 : Int) < (m : Int) + 32 := by omega
                      have s8y : (8 : Int) ≤ (m : Int) + 32 := by omega
                      have s16y : (16 : Int) ≤ (m : Int) + 32 := by omega
                      have s24y : (24 : Int) ≤ (m : Int) + 32 := by omega
                      obtain ⟨B0, lB0, kB0, cB0⟩ := word_at u gb p (m + 32) w (by omega) hnu hpl bu
                      obtain ⟨B1, lB1, kB1, cB1⟩ := word_at (u.extract 8 u.size) gb (p + 8) (m + 24) w (by omega) (by rw [Lib.ext_size]; omega) hpl (bu.skip 8)
                      obtain ⟨B2, lB2, kB2, cB2⟩ := word_at (u.extract 16 u.size) gb (p + 16) (m + 16) w (by omega) (by rw [Lib.ext_size]; omega) hpl (bu.skip 16)
                      obtain ⟨B3, lB3, kB3, cB3⟩ := word_at (u.extract 24 u.size) gb (p + 24) (m + 8) w (by omega) (by rw [Lib.ext_size]; omega) hpl (bu.skip 24)
                      have ho1 : bits .or .u64 (B0 : Int) (B1 : Int) = ((B0 ||| B1 : Nat) : Int) := u64_or_nat B0 B1 lB0 lB1
                      have ho2 : bits .or .u64 (B2 : Int) (B3 : Int) = ((B2 ||| B3 : Nat) : Int) := u64_or_nat B2 B3 lB2 lB3
                      have lo1 : B0 ||| B1 < 18446744073709551616 := Nat.or_lt_two_pow (n := 64) lB0 lB1
                      have lo2 : B2 ||| B3 < 18446744073709551616 := Nat.or_lt_two_pow (n := 64) lB2 lB3
                      have ho3 : bits .or .u64 ((B0 ||| B1 : Nat) : Int) ((B2 ||| B3 : Nat) : Int) = (((B0 ||| B1) ||| (B2 ||| B3) : Nat) : Int) := u64_or_nat _ _ lo1 lo2
                      have lo3 : (B0 ||| B1) ||| (B2 ||| B3) < 18446744073709551616 := Nat.or_lt_two_pow (n := 64) lo1 lo2
                      have hand3 : bits .and .u64 (((B0 ||| B1) ||| (B2 ||| B3) : Nat) : Int) 9259542123273814144 = ((((B0 ||| B1) ||| (B2 ||| B3)) &&& 9259542123273814144 : Nat) : Int) := u64_and_nat _ 9259542123273814144 lo3 (by omega)
                      have k3 : ((B0 ||| B1) ||| (B2 ||| B3)) &&& 9259542123273814144 = 0 → Lib.Asc u 32 := fun h0' => by
                        obtain ⟨e01, e23⟩ := (Lib.or_mask _ _ _).1 h0'
                        obtain ⟨e0, e1⟩ := (Lib.or_mask _ _ _).1 e01
                        obtain ⟨e2, e3⟩ := (Lib.or_mask _ _ _).1 e23
                        exact Lib.asc_add u 24 8 (Lib.asc_add u 16 8 (Lib.asc_add u 8 8 (kB0 e0) (kB1 e1)) (kB2 e2)) (kB3 e3)
                      obtain ⟨P1, hP1⟩ : ∃ P1, B0 ||| B1 = P1 := ⟨_, rfl⟩
                      obtain ⟨P2, hP2⟩ : ∃ P2, B2 ||| B3 = P2 := ⟨_, rfl⟩
                      rw [hP1, hP2] at ho3 hand3 k3
                      rw [hP1] at ho1
                      rw [hP2] at ho2
                      obtain ⟨P3, hP3⟩ : ∃ P3, P1 ||| P2 = P3 := ⟨_, rfl⟩
                      rw [hP3] at ho3 hand3 k3
                      obtain ⟨Z3, hZ3⟩ : ∃ Z3, P3 &&& 9259542123273814144 = Z3 := ⟨_, rfl⟩
                      rw [hZ3] at hand3 k3
                      have cb0 : ∀ k, Calls Tryz.prog 67 #[.slice (some ⟨gb, p, none⟩) (m + 32) (m + 32)] (wr.drewN k) fun e w' => e = .returned (.int .u64 (B0 : Nat)) ∧ ∃ q, w' = (wr.drewN k).drewN q := fun k => cB0 _ _ (below_dn hbu k)
                      have cb1 : ∀ k, Calls Tryz.prog 67 #[.slice (some ⟨gb, p + 8, none⟩) (m + 24) (m + 24)] (wr.drewN k) fun e w' => e = .returned (.int .u64 (B1 : Nat)) ∧ ∃ q, w' = (wr.drewN k).drewN q := fun k => cB1 _ _ (below_dn hbu k)
                      have cb2 : ∀ k, Calls Tryz.prog 67 #[.slice (some ⟨gb, p + 16, none⟩) (m + 16) (m + 16)] (wr.drewN k) fun e w' => e = .returned (.int .u64 (B2 : Nat)) ∧ ∃ q, w' = (wr.drewN k).drewN q := fun k => cB2 _ _ (below_dn hbu k)
                      have cb3 : ∀ k, Calls Tryz.prog 67 #[.slice (some ⟨gb, p + 24, none⟩) (m + 8) (m + 8)] (wr.drewN k) fun e w' => e = .returned (.int .u64 (B3 : Nat)) ∧ ∃ q, w' = (wr.drewN k).drewN q := fun k => cB3 _ _ (below_dn hbu k)
                      have m24 : m + 24 ≠ 0 := by omega
                      have m16 : m + 16 ≠ 0 := by omega
                      have m8' : m + 8 ≠ 0 := by omega
                      obtain ⟨p8, hp8⟩ : ∃ q, p + 8 = q := ⟨_, rfl⟩
                      obtain ⟨p16, hp16⟩ : ∃ q, p + 16 = q := ⟨_, rfl⟩
                      obtain ⟨p24, hp24⟩ : ∃ q, p + 24 = q := ⟨_, rfl⟩
                      rw [hp8] at cb1
                      rw [hp16] at cb2
                      rw [hp24] at cb3
                      have HNU := Lib.hid hnu
                      clear kB0 kB1 kB2 kB3 lo1 lo2 lo3 hP1 hP2 hP3 hZ3 cB0 cB1 cB2 cB3 hnu hAu
                      by_cases hq3 : Z3 = 0
                      · have hq3b : ((Z3 : Int) == 0) = true := by simp [hq3]
                        have a32 := k3 hq3
                        obtain ⟨u2, hu2⟩ : ∃ u2, u.extract 32 u.size = u2 := ⟨_, rfl⟩
                        have vu2 : Lib.validD u2.data.toList = ANS := by rw [← hu2, Lib.valid_skip u 32 a32]; exact vu
                        have bu2 : BytesAt w gb (p + 32) u2 := by rw [← hu2]; exact bu.skip 32
                        have HU2 := Lib.hid (show m = u2.size by have := HNU.out; rw [← hu2, Lib.ext_size]; omega)
                        clear k3 a32 vu hu2 bu HNU
                        go_wp2_with fail
                        go_big_quiet (first | (go_at_call_of 67 p; refine Calls.quiet_of (cb0 _)) | (go_at_call_of 67 p8; refine Calls.quiet_of (cb1 _)) | (go_at_call_of 67 p16; refine Calls.quiet_of (cb2 _)) | (go_at_call_of 67 p24; refine Calls.quiet_of (cb3 _)))
                        go_wp2
                        go_roundg g3
                        case measure => omega
                        case rel => exact ⟨below_dn hbu nq, _, m, u2, rfl, HU2.out, fun _ => ⟨gb, p + 32, rfl, hpl, bu2⟩, vu2, by omega, by omega⟩
                      · have hq3b : ((Z3 : Int) == 0) = false := by simp; omega
                        clear k3
                        go_wp2_with fail
                        go_big_quiet (first | (go_at_call_of 67 p; refine Calls.quiet_of (cb0 _)) | (go_at_call_of 67 p8; refine Calls.quiet_of (cb1 _)) | (go_at_call_of 67 p16; refine Calls.quiet_of (cb2 _)) | (go_at_call_of 67 p24; refine Calls.quiet_of (cb3 _)))
                        go_wp2
                        go_roundg g'
                        case measure => omega
                        case rel => exact ⟨below_dn hbu nq, _, m + 32, u, rfl, HNU.out, fun _ => ⟨gb, p, rfl, hpl, bu⟩, vu, by omega, by omega⟩
                    · have c32z : ¬ ((32 : Int) < (n : Int)) := by omega
                      have c32b : decide ((32 : Int) < (n : Int)) = false := decide_eq_false c32z
                      have HNU := Lib.hid hnu
                      clear hnu
                      go_wp2_with fail
                      go_big_quiet (fail)
                      go_wp2
                      go_roundg g'
                      case measure => omega
                      case rel => exact ⟨below_dn hbu nq, _, n, u, rfl, HNU.out, hAu, vu, by omega, by omega⟩
                · have hq2b : ((Z2 : Int) == 0) = false := by simp; omega
                  clear k2
                  go_wp2_with fail
                  go_big_quiet (first | (go_at_call_of 67 o2; refine Calls.quiet_of (ca2 _)) | (go_at_call_of 67 o3; refine Calls.quiet_of (ca3 _)))
                  go_wp2
                  go_roundg g'
                  case measure => omega
                  case rel => exact ⟨below_dn hb1 nq, _, n3 + 16, t2, rfl, HN2.out, SL2, v2, by omega, by omega⟩
              · have c16z : ¬ ((16 : Int) < (n2 : Int)) := by omega
                have c16b : decide ((16 : Int) < (n2 : Int)) = false := decide_eq_false c16z
                go_wp2_with fail
                go_big_quiet (fail)
                go_wp2
                go_roundg g'
                case measure => omega
                case rel => exact ⟨below_dn hb1 nq, _, n2, t2, rfl, HN2.out, SL2, v2, by omega, by omega⟩
            · have hq1b : ((Z1 : Int) == 0) = false := by simp; omega
              go_wp2_with (go_at_call 67; go_must (refine cR1.mono ?_; rintro e W1 ⟨rfl, q1, rfl⟩))
              go_roundg g'
              case measure => omega
              case rel => exact ⟨below_dn hbw q1, _, n1, t1, rfl, HN1.out, SL1, v1, by omega, by omega⟩
          · have c8z : ¬ ((8 : Int) < (n1 : Int)) := by omega
            go_wp2
            go_roundg g'
            case measure => omega
            case rel => exact ⟨hbw, _, n1, t1, rfl, HN1.out, SL1, v1, by omega, by omega⟩
      · have hge : 128 ≤ x0.toNat := by omega
        have hascz : ¬ ((x0.toNat : Int) < 128) := by omega
        obtain ⟨x1, hx1⟩ : ∃ x1, t.get! 1 = x1 := ⟨_, rfl⟩
        obtain ⟨x2, hx2⟩ : ∃ x2, t.get! 2 = x2 := ⟨_, rfl⟩
        obtain ⟨x3, hx3⟩ : ∃ x3, t.get! 3 = x3 := ⟨_, rfl⟩
        have l1 := x1.toNat_lt; have l2 := x2.toNat_lt; have l3 := x3.toNat_lt
        have hne : t.data.toList ≠ [] := fun h => by have h1 := Lib.size_eq t; rw [h] at h1; have h2 : t.size = 0 := h1; omega
        have hlead := Lib.validD_lead t.data.toList hne (by rw [Lib.getD_get!', hx0]; exact hge)
        rw [Lib.getD_get!', Lib.getD_get!', Lib.getD_get!', Lib.getD_get!', hx0, hx1, hx2, hx3, ← Lib.size_eq, hv, ← hn] at hlead
        have hd1 : 1 < n → ∀ W, Below w.heap.size w W → W.cell? ⟨g, o + 1, none⟩ = some (.int .u8 (x1.toNat : Nat)) := fun h W hW => by rw [← hx1]; exact hby.below hgl hW 1 (by omega)
        have hd2 : 2 < n → ∀ W, Below w.heap.size w W → W.cell? ⟨g, o + 2, none⟩ = some (.int .u8 (x2.toNat : Nat)) := fun h W hW => by rw [← hx2]; exact hby.below hgl hW 2 (by omega)
        have hd3 : 3 < n → ∀ W, Below w.heap.size w W → W.cell? ⟨g, o + 3, none⟩ = some (.int .u8 (x3.toNat : Nat)) := fun h W hW => by rw [← hx3]; exact hby.below hgl hW 3 (by omega)
        have HD1 := Lib.hid hd1
        have HD2 := Lib.hid hd2
        have HD3 := Lib.hid hd3
        have hc0 := hTr.1 x0.toNat hx0lt
        have hXlt : Lib.firstT x0.toNat < 256 := by rcases Lib.firstT_cases x0.toNat with h | h | h | h | h | h | h | h | h <;> omega
        obtain ⟨X, hX⟩ : ∃ X, Lib.firstT x0.toNat = X := ⟨_, rfl⟩
        rw [hX] at hc0 hXlt hlead
        have h7 := and7v ⟨X, hXlt⟩
        simp only at h7
        have ha0 : wr.cell? ⟨1, X / 16 * 2, none⟩ = some (.int .u8 (Lib.accLo (X / 16))) := by rw [Nat.mul_comm]; exact (hTr.2 (X / 16) (by omega)).1
        have ha1 : wr.cell? ⟨1, X / 16 * 2 + 1, none⟩ = some (.int .u8 (Lib.accHi (X / 16))) := by rw [Nat.mul_comm]; exact (hTr.2 (X / 16) (by omega)).2
        obtain ⟨LO, hLO⟩ : ∃ LO, Lib.accLo (X / 16) = LO := ⟨_, rfl⟩
        obtain ⟨HI, hHI⟩ : ∃ HI, Lib.accHi (X / 16) = HI := ⟨_, rfl⟩
        rw [hLO] at ha0 hlead
        rw [hHI] at ha1 hlead
        obtain ⟨SZ, hSZ⟩ : ∃ SZ, X % 8 = SZ := ⟨_, rfl⟩
        rw [hSZ] at hlead
        have HN := Lib.hid hn
        have HBY := Lib.hid hby
        clear hTr hX hv hLO hHI hne hd1 hd2 hd3 hn hby hbr hx0 hx1 hx2 hx3 hAt
        have hbA := hbw.alloc hbw.size (.cells #[.int .u8 LO, .int .u8 HI] 131)
        have hBA := heap_alloc_new wr (.cells #[.int .u8 LO, .int .u8 HI] 131)
        by_cases s2 : SZ = 2
        · subst s2
          have hSZz : (X : Int) % 8 = 2 := by omega
          simp only [Lib.checkN, Nat.reduceEqDiff, if_true, if_false] at hlead
          go_upto_region 18 with fail
          generalize (wr.alloc (.cells #[.int .u8 LO, .int .u8 HI] 131)) = W1 at *
          have y0 : W1.cell? ⟨wr.heap.size, 0, none⟩ = some (.int .u8 LO) := cell_of_row _ _ 0 _ _ _ hBA
          have y1 : W1.cell? ⟨wr.heap.size, 1, none⟩ = some (.int .u8 HI) := cell_of_row _ _ 1 _ _ _ hBA
          clear ha0 ha1 hc0 c0
          go_cut [103] from 85 to 103 (fun c wx => ∃ b : Bool, c = .bool b ∧ (b = true ↔ (n < 2 ∨ x1.toNat < LO ∨ HI < x1.toNat)) ∧ Below w.heap.size w wx)
          case first => as_aux_lemma =>
            by_cases q0 : n < 2
            · have q0z : (n : Int) < 2 := by omega
              go_big_quiet (fail)
              go_wp2
              go_meet
              exact ⟨true, rfl, iff_of_true rfl (by omega), below_dn hbA _⟩
            · have q0z : ¬ ((n : Int) < 2) := by omega
              have hz1 : (1 : Int) < (n : Int) := by omega
              have d1 := HD1.out (by omega) W1 hbA
              by_cases q1 : x1.toNat < LO
              · have q1z : (x1.toNat : Int) < (LO : Int) := by omega
                go_big_quiet (fail)
                go_wp2
                go_meet
                exact ⟨true, rfl, iff_of_true rfl (by omega), below_dn hbA _⟩
              · have q1z : ¬ ((x1.toNat : Int) < (LO : Int)) := by omega
                by_cases q2 : HI < x1.toNat
                · have q2z : (HI : Int) < (x1.toNat : Int) := by omega
                  go_big_quiet (fail)
                  go_wp2
                  go_meet
                  exact ⟨true, rfl, iff_of_true rfl (by omega), below_dn hbA _⟩
                · have q2z : ¬ ((HI : Int) < (x1.toNat : Int)) := by omega
                  go_big_quiet (fail)
                  go_wp2
                  go_meet
                  exact ⟨false, rfl, iff_of_false (by simp) (by omega), below_dn hbA _⟩
          case rest => as_aux_lemma =>
            obtain ⟨bb, rfl, hbi, hbc⟩ := hcut
            cases bb with
            | true =>
              have hb := hbi.1 rfl
              clear hbi
              rw [if_pos hb] at hlead
              go_wp2
              all_goals (go_ret; exact ⟨by first | rfl | rw [hlead], hbc⟩)
            | false =>
              have hb : ¬ (n < 2 ∨ x1.toNat < LO ∨ HI < x1.toNat) := fun h => by have := hbi.2 h; cases this
              clear hbi
              rw [if_neg hb] at hlead
              obtain ⟨m, hm⟩ : ∃ m, n = m + 2 := ⟨n - 2, by omega⟩
              subst hm
              have HM := Lib.hid (show m = (t.extract 2 t.size).size by have := HN.out; rw [Lib.ext_size]; omega)
              have hvk : Lib.validD (t.extract 2 t.size).data.toList = ANS := by rw [Lib.ext_list, hlead]
              have hky : (2 : Int) ≤ (m : Int) + 2 := by omega
              have HLE := Lib.hid (show m < g' ∧ m ≤ 9223372036854775807 by omega)
              clear hb hlead HD1 HD2 HD3 y0 y1
              by_cases hm0 : m = 0
              · subst hm0
                go_wp2
                go_roundg g'
                case measure => omega
                case rel => exact ⟨hbc, _, 0, t.extract 2 t.size, rfl, HM.out, fun h => by have := HM.out; omega, hvk, HLE.out.1, HLE.out.2⟩
              · have hm0n : m ≠ 0 := hm0
                go_wp2
                go_roundg g'
                case measure => omega
                case rel => exact ⟨hbc, _, m, t.extract 2 t.size, rfl, HM.out, fun _ => ⟨g, o + 2, rfl, hgl, HBY.out.skip 2⟩, hvk, HLE.out.1, HLE.out.2⟩
        by_cases s3 : SZ = 3
        · subst s3
          have hSZz : (X : Int) % 8 = 3 := by omega
          simp only [Lib.checkN, Nat.reduceEqDiff, if_true, if_false] at hlead
          go_upto_region 22 with fail
          generalize (wr.alloc (.cells #[.int .u8 LO, .int .u8 HI] 131)) = W1 at *
          have y0 : W1.cell? ⟨wr.heap.size, 0, none⟩ = some (.int .u8 LO) := cell_of_row _ _ 0 _ _ _ hBA
          have y1 : W1.cell? ⟨wr.heap.size, 1, none⟩ = some (.int .u8 HI) := cell_of_row _ _ 1 _ _ _ hBA
          clear ha0 ha1 hc0 c0
          go_cut [138] from 108 to 138 (fun c wx => ∃ b : Bool, c = .bool b ∧ (b = true ↔ (n < 3 ∨ x1.toNat < LO ∨ HI < x1.toNat ∨ x2.toNat < 128 ∨ 191 < x2.toNat)) ∧ Below w.heap.size w wx)
          case first => as_aux_lemma =>
            by_cases q0 : n < 3
            · have q0z : (n : Int) < 3 := by omega
              go_big_quiet (fail)
              go_wp2
              go_meet
              exact ⟨true, rfl, iff_of_true rfl (by omega), below_dn hbA _⟩
            · have q0z : ¬ ((n : Int) < 3) := by omega
              have hz1 : (1 : Int) < (n : Int) := by omega
              have d1 := HD1.out (by omega) W1 hbA
              have hz2 : (2 : Int) < (n : Int) := by omega
              have d2 := HD2.out (by omega) W1 hbA
              by_cases q1 : x1.toNat < LO
              · have q1z : (x1.toNat : Int) < (LO : Int) := by omega
                go_big_quiet (fail)
                go_wp2
                go_meet
                exact ⟨true, rfl, iff_of_true rfl (by omega), below_dn hbA _⟩
              · have q1z : ¬ ((x1.toNat : Int) < (LO : Int)) := by omega
                by_cases q2 : HI < x1.toNat
                · have q2z : (HI : Int) < (x1.toNat : Int) := by omega
                  go_big_quiet (fail)
                  go_wp2
                  go_meet
                  exact ⟨true, rfl, iff_of_true rfl (by omega), below_dn hbA _⟩
                · have q2z : ¬ ((HI : Int) < (x1.toNat : Int)) := by omega
                  by_cases q3 : x2.toNat < 128
                  · have q3z : (x2.toNat : Int) < 128 := by omega
                    go_big_quiet (fail)
                    go_wp2
                    go_meet
                    exact ⟨true, rfl, iff_of_true rfl (by omega), below_dn hbA _⟩
                  · have q3z : ¬ ((x2.toNat : Int) < 128) := by omega
                    by_cases q4 : 191 < x2.toNat
                    · have q4z : (191 : Int) < (x2.toNat : Int) := by omega
                      go_big_quiet (fail)
                      go_wp2
                      go_meet
                      exact ⟨true, rfl, iff_of_true rfl (by omega), below_dn hbA _⟩
                    · have q4z : ¬ ((191 : Int) < (x2.toNat : Int)) := by omega
                      go_big_quiet (fail)
                      go_wp2
                      go_meet
                      exact ⟨false, rfl, iff_of_false (by simp) (by omega), below_dn hbA _⟩
          case rest => as_aux_lemma =>
            obtain ⟨bb, rfl, hbi, hbc⟩ := hcut
            cases bb with
            | true =>
              have hb := hbi.1 rfl
              clear hbi
              rw [if_pos hb] at hlead
              go_wp2
              all_goals (go_ret; exact ⟨by first | rfl | rw [hlead], hbc⟩)
            | false =>
              have hb : ¬ (n < 3 ∨ x1.toNat < LO ∨ HI < x1.toNat ∨ x2.toNat < 128 ∨ 191 < x2.toNat) := fun h => by have := hbi.2 h; cases this
              clear hbi
              rw [if_neg hb] at hlead
              obtain ⟨m, hm⟩ : ∃ m, n = m + 3 := ⟨n - 3, by omega⟩
              subst hm
              have HM := Lib.hid (show m = (t.extract 3 t.size).size by have := HN.out; rw [Lib.ext_size]; omega)
              have hvk : Lib.validD (t.extract 3 t.size).data.toList = ANS := by rw [Lib.ext_list, hlead]
              have hky : (3 : Int) ≤ (m : Int) + 3 := by omega
              have HLE := Lib.hid (show m < g' ∧ m ≤ 9223372036854775807 by omega)
              clear hb hlead HD1 HD2 HD3 y0 y1
              by_cases hm0 : m = 0
              · subst hm0
                go_wp2
                go_roundg g'
                case measure => omega
                case rel => exact ⟨hbc, _, 0, t.extract 3 t.size, rfl, HM.out, fun h => by have := HM.out; omega, hvk, HLE.out.1, HLE.out.2⟩
              · have hm0n : m ≠ 0 := hm0
                go_wp2
                go_roundg g'
                case measure => omega
                case rel => exact ⟨hbc, _, m, t.extract 3 t.size, rfl, HM.out, fun _ => ⟨g, o + 3, rfl, hgl, HBY.out.skip 3⟩, hvk, HLE.out.1, HLE.out.2⟩
        by_cases s4 : SZ = 4
        · subst s4
          have hSZz : (X : Int) % 8 = 4 := by omega
          simp only [Lib.checkN, Nat.reduceEqDiff, if_true, if_false] at hlead
          go_upto_region 26 with fail
          generalize (wr.alloc (.cells #[.int .u8 LO, .int .u8 HI] 131)) = W1 at *
          have y0 : W1.cell? ⟨wr.heap.size, 0, none⟩ = some (.int .u8 LO) := cell_of_row _ _ 0 _ _ _ hBA
          have y1 : W1.cell? ⟨wr.heap.size, 1, none⟩ = some (.int .u8 HI) := cell_of_row _ _ 1 _ _ _ hBA
          clear ha0 ha1 hc0 c0
          go_cut [185] from 143 to 185 (fun c wx => ∃ b : Bool, c = .bool b ∧ (b = true ↔ (n < 4 ∨ x1.toNat < LO ∨ HI < x1.toNat ∨ x2.toNat < 128 ∨ 191 < x2.toNat ∨ x3.toNat < 128 ∨ 191 < x3.toNat)) ∧ Below w.heap.size w wx)
          case first => as_aux_lemma =>
            by_cases q0 : n < 4
            · have q0z : (n : Int) < 4 := by omega
              go_big_quiet (fail)
              go_wp2
              go_meet
              exact ⟨true, rfl, iff_of_true rfl (by omega), below_dn hbA _⟩
            · have q0z : ¬ ((n : Int) < 4) := by omega
              have hz1 : (1 : Int) < (n : Int) := by omega
              have d1 := HD1.out (by omega) W1 hbA
              have hz2 : (2 : Int) < (n : Int) := by omega
              have d2 := HD2.out (by omega) W1 hbA
              have hz3 : (3 : Int) < (n : Int) := by omega
              have d3 := HD3.out (by omega) W1 hbA
              by_cases q1 : x1.toNat < LO
              · have q1z : (x1.toNat : Int) < (LO : Int) := by omega
                go_big_quiet (fail)
                go_wp2
                go_meet
                exact ⟨true, rfl, iff_of_true rfl (by omega), below_dn hbA _⟩
              · have q1z : ¬ ((x1.toNat : Int) < (LO : Int)) := by omega
                by_cases q2 : HI < x1.toNat
                · have q2z : (HI : Int) < (x1.toNat : Int) := by omega
                  go_big_quiet (fail)
                  go_wp2
                  go_meet
                  exact ⟨true, rfl, iff_of_true rfl (by omega), below_dn hbA _⟩
                · have q2z : ¬ ((HI : Int) < (x1.toNat : Int)) := by omega
                  by_cases q3 : x2.toNat < 128
                  · have q3z : (x2.toNat : Int) < 128 := by omega
                    go_big_quiet (fail)
                    go_wp2
                    go_meet
                    exact ⟨true, rfl, iff_of_true rfl (by omega), below_dn hbA _⟩
                  · have q3z : ¬ ((x2.toNat : Int) < 128) := by omega
                    by_cases q4 : 191 < x2.toNat
                    · have q4z : (191 : Int) < (x2.toNat : Int) := by omega
                      go_big_quiet (fail)
                      go_wp2
                      go_meet
                      exact ⟨true, rfl, iff_of_true rfl (by omega), below_dn hbA _⟩
                    · have q4z : ¬ ((191 : Int) < (x2.toNat : Int)) := by omega
                      by_cases q5 : x3.toNat < 128
                      · have q5z : (x3.toNat : Int) < 128 := by omega
                        go_big_quiet (fail)
                        go_wp2
                        go_meet
                        exact ⟨true, rfl, iff_of_true rfl (by omega), below_dn hbA _⟩
                      · have q5z : ¬ ((x3.toNat : Int) < 128) := by omega
                        by_cases q6 : 191 < x3.toNat
                        · have q6z : (191 : Int) < (x3.toNat : Int) := by omega
                          go_big_quiet (fail)
                          go_wp2
                          go_meet
                          exact ⟨true, rfl, iff_of_true rfl (by omega), below_dn hbA _⟩
                        · have q6z : ¬ ((191 : Int) < (x3.toNat : Int)) := by omega
                          go_big_quiet (fail)
                          go_wp2
                          go_meet
                          exact ⟨false, rfl, iff_of_false (by simp) (by omega), below_dn hbA _⟩
          case rest => as_aux_lemma =>
            obtain ⟨bb, rfl, hbi, hbc⟩ := hcut
            cases bb with
            | true =>
              have hb := hbi.1 rfl
              clear hbi
              rw [if_pos hb] at hlead
              go_wp2
              all_goals (go_ret; exact ⟨by first | rfl | rw [hlead], hbc⟩)
            | false =>
              have hb : ¬ (n < 4 ∨ x1.toNat < LO ∨ HI < x1.toNat ∨ x2.toNat < 128 ∨ 191 < x2.toNat ∨ x3.toNat < 128 ∨ 191 < x3.toNat) := fun h => by have := hbi.2 h; cases this
              clear hbi
              rw [if_neg hb] at hlead
              obtain ⟨m, hm⟩ : ∃ m, n = m + 4 := ⟨n - 4, by omega⟩
              subst hm
              have HM := Lib.hid (show m = (t.extract 4 t.size).size by have := HN.out; rw [Lib.ext_size]; omega)
              have hvk : Lib.validD (t.extract 4 t.size).data.toList = ANS := by rw [Lib.ext_list, hlead]
              have hky : (4 : Int) ≤ (m : Int) + 4 := by omega
              have HLE := Lib.hid (show m < g' ∧ m ≤ 9223372036854775807 by omega)
              clear hb hlead HD1 HD2 HD3 y0 y1
              by_cases hm0 : m = 0
              · subst hm0
                go_wp2
                go_roundg g'
                case measure => omega
                case rel => exact ⟨hbc, _, 0, t.extract 4 t.size, rfl, HM.out, fun h => by have := HM.out; omega, hvk, HLE.out.1, HLE.out.2⟩
              · have hm0n : m ≠ 0 := hm0
                go_wp2
                go_roundg g'
                case measure => omega
                case rel => exact ⟨hbc, _, m, t.extract 4 t.size, rfl, HM.out, fun _ => ⟨g, o + 4, rfl, hgl, HBY.out.skip 4⟩, hvk, HLE.out.1, HLE.out.2⟩
        have e2 : ¬ ((X : Int) % 8 = 2) := by omega
        have e3 : ¬ ((X : Int) % 8 = 3) := by omega
        have e4 : ¬ ((X : Int) % 8 = 4) := by omega
        have e2b : (((X : Int) % 8) == 2) = false := by simp; omega
        have e3b : (((X : Int) % 8) == 3) = false := by simp; omega
        have e4b : (((X : Int) % 8) == 4) = false := by simp; omega
        simp only [Lib.checkN, s2, s3, s4, if_false] at hlead
        go_wp2
        all_goals (go_ret; exact ⟨by first | rfl | rw [hlead], hbA⟩)
    · have h0z : ¬ ((0 : Int) < (n : Int)) := by omega
      have ht0 : t.data.toList = [] := List.eq_nil_of_length_eq_zero (by rw [← Lib.size_eq]; omega)
      rw [ht0, Lib.validD_nil] at hv
      subst hv
      have HN := Lib.hid hn
      clear hn
      go_wp2
      go_ret
      exact ⟨rfl, hbw⟩
end Go.Proofs.YtcmillbjpplfjaaGreatDoor
