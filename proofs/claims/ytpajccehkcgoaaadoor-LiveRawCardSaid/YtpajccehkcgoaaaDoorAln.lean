/-
  'fitsAlone': what one node asks of one value.
-/
import Derived.Test.YtpajccehkcgoaaaDoorBar
import Derived.Test.YtpajccehkcgoaaaDoorInb
namespace Go.Proofs.YtpajccehkcgoaaaDoor
open Go.RowKit

def U.kd : U → Int | .mk k _ _ _ _ => k
def aloneV (vb : List Int → Bool) (ub : List ByteArray → Bool) (nd : Nd) (u : U) : Bool :=
  (nd.kind == u.kd && bareV u.kd u.num u.b.length u.l.length u.ks.length) && boundsV nd u.num u.b.length u.l.length u.ks.length (vb u.b) (ub u.ks)
theorem alone_leaves (vb : List Int → Bool) (ub : List ByteArray → Bool) (S : List Nd) : Leaves (aloneV vb ub) S := by
  intro nd u _ h i hi
  simp only [aloneV, Bool.and_eq_true] at h
  obtain ⟨_, hb⟩ := h
  unfold innerM
  by_cases h9 : nd.kind = 9
  · simp only [boundsV, h9] at hb
    simp at hb
    rw [if_pos h9]
    have : i < nd.fs.length := by omega
    rw [List.getElem?_eq_getElem this]
    simp
  · rw [if_neg h9]
    by_cases h13 : nd.kind = 13
    · simp only [boundsV, h13] at hb
      simp at hb
      obtain ⟨⟨h1, h2⟩, h3⟩ := hb
      rw [if_pos h13, if_pos h1]
      have : u.num.toNat < nd.br.length := by omega
      rw [List.getElem?_eq_getElem this]
      simp
    · rw [if_neg h13]
      simp
set_option maxRecDepth 100000 in
set_option maxHeartbeats 4000000 in
theorem alone_any (vb : List Int → Bool) (ub : List ByteArray → Bool) (nd : Nd) (c : Nat → Value) (w : World) (ok ok' : Nat → Prop) (hn : NdIn w ok nd c) (u : U) (d0 d1 d2 d3 d4 : Value) (hu : UIn w ok' u d0 d1 d2 d3 d4)
    (hV : nd.kind = 8 → ∀ W, Below w.heap.size w W → Calls Tryd.prog 22 #[d2] W fun e w' => e = .returned (.bool (vb u.b)) ∧ Below W.heap.size W w')
    (hU : nd.kind = 12 → ∀ W, Below w.heap.size w W → Calls Tryd.prog 82 #[d4] W fun e w' => e = .returned (.bool (ub u.ks)) ∧ Below W.heap.size W w') :
    Calls Tryd.prog 49 #[ndv c, .agg #[d0, d1, d2, d3, d4]] w fun e w' => e = .returned (.bool (aloneV vb ub nd u)) ∧ Below w.heap.size w w' := by
  cases hu with
  | mk k n b l ks B A A' capb cap cap' cc h1 h2 h3 h4 hcapb hcap hcap' hB hL hK hE =>
    have hb2 : ∀ (a e : Obj), Below w.heap.size w ((w.alloc a).alloc e) := fun a e => ((Below.refl _ w).alloc (Nat.le_refl _) _).alloc (by simp) _
    have HB2 := Lib.hid hb2
    have q0 := hn.kind
    have HBAR := Lib.hid (bare_any k n B A A' b.length capb l.length cap ks.length cap')
    have HINB := Lib.hid (fun W (hW : Below w.heap.size w W) => inb_any nd c W ok (hn.fr (ok' := fun _ => True) (below_fr0 hW) (fun _ _ => trivial)) k n B A A' b.length capb l.length cap ks.length cap' (vb b) (ub ks) (fun h W' hW' => hV h W' (hW.trans (hW'.mono hW.size))) (fun h W' hW' => hU h W' (hW.trans (hW'.mono hW.size))))
    clear hV hU hn hB hL hK hE h3 h4 hb2
    simp only [aloneV, U.kd, U.num, U.b, U.l, U.ks]
    simp only [ndv, q0] at HINB ⊢
    generalize boundsV nd n b.length l.length ks.length (vb b) (ub ks) = bv at *
    generalize nd.kind = kd at *
    generalize b.length = nb at *
    generalize l.length = nl at *
    generalize ks.length = nk at *
    generalize bareV k n nb nl nk = bb at *
    by_cases hk : kd = k
    · subst hk
      obtain ⟨W0, hW0⟩ : ∃ W0, (w.alloc (.cells #[.int .i64 kd, c 1, c 2, c 3, c 4, c 5, c 6, c 7, c 8, c 9] 30)).alloc (.cells #[.int .i64 kd, .int .i64 n, .slice B nb capb, .slice A nl cap, .slice A' nk cap'] 38) = W0 := ⟨_, rfl⟩
      have hb0 : Below w.heap.size w W0 := by rw [← hW0]; exact HB2.out _ _
      have a0 : W0.heap[w.heap.size]? = some (.cells #[.int .i64 kd, c 1, c 2, c 3, c 4, c 5, c 6, c 7, c 8, c 9] 30 (0, 0)) := by rw [← hW0]; exact old_at _ (new_at rfl _)
      have b0 : W0.heap[w.heap.size + 1]? = some (.cells #[.int .i64 kd, .int .i64 n, .slice B nb capb, .slice A nl cap, .slice A' nk cap'] 38 (0, 0)) := by rw [← hW0]; exact new_at (by simp) _
      cases bb with
      | false =>
        go_enter Tryd.func49, Tryd.ntmps49
        go_upto_region 1 with fail
        clear hW0
        obtain ⟨p0, p1, p2, p3, p4⟩ := cells_5 b0
        have q0' : W0.cell? ⟨w.heap.size, 0, none⟩ = some (.int .i64 kd) := cell_of_row _ _ 0 _ _ _ a0
        go_wp2_with fail
        refine (HBAR.out _).mono ?_
        rintro e w1 ⟨rfl, hb1⟩
        have hbw := hb0.trans (hb1.mono hb0.size)
        go_wp2
        go_ret
        exact ⟨by simp, hbw⟩
      | true =>
        go_enter Tryd.func49, Tryd.ntmps49
        go_upto_region 1 with fail
        clear hW0
        obtain ⟨p0, p1, p2, p3, p4⟩ := cells_5 b0
        have q0' : W0.cell? ⟨w.heap.size, 0, none⟩ = some (.int .i64 kd) := cell_of_row _ _ 0 _ _ _ a0
        go_wp2_with fail
        refine (HBAR.out _).mono ?_
        rintro e w1 ⟨rfl, hb1⟩
        have hbw := hb0.trans (hb1.mono hb0.size)
        have a1 := (below_fr0 hb1).at a0 trivial
        have b1 := (below_fr0 hb1).at b0 trivial
        obtain ⟨r0, r1, r2, r3, r4⟩ := cells_5 b1
        have s0 : w1.cell? ⟨w.heap.size, 0, none⟩ = some (.int .i64 kd) := cell_of_row _ _ 0 _ _ _ a1
        have s1 : w1.cell? ⟨w.heap.size, 1, none⟩ = some (c 1) := cell_of_row _ _ 1 _ _ _ a1
        have s2 : w1.cell? ⟨w.heap.size, 2, none⟩ = some (c 2) := cell_of_row _ _ 2 _ _ _ a1
        have s3 : w1.cell? ⟨w.heap.size, 3, none⟩ = some (c 3) := cell_of_row _ _ 3 _ _ _ a1
        have s4 : w1.cell? ⟨w.heap.size, 4, none⟩ = some (c 4) := cell_of_row _ _ 4 _ _ _ a1
        have s5 : w1.cell? ⟨w.heap.size, 5, none⟩ = some (c 5) := cell_of_row _ _ 5 _ _ _ a1
        have s6 : w1.cell? ⟨w.heap.size, 6, none⟩ = some (c 6) := cell_of_row _ _ 6 _ _ _ a1
        have s7 : w1.cell? ⟨w.heap.size, 7, none⟩ = some (c 7) := cell_of_row _ _ 7 _ _ _ a1
        have s8 : w1.cell? ⟨w.heap.size, 8, none⟩ = some (c 8) := cell_of_row _ _ 8 _ _ _ a1
        have s9 : w1.cell? ⟨w.heap.size, 9, none⟩ = some (c 9) := cell_of_row _ _ 9 _ _ _ a1
        have hin := HINB.out w1 hbw
        go_wp2_with fail
        refine hin.mono ?_
        rintro e w2 ⟨rfl, hb2⟩
        go_wp2
        go_ret
        exact ⟨by simp, hbw.trans (hb2.mono hbw.size)⟩
    · have hkf : (kd == k) = false := by simpa using hk
      go_enter Tryd.func49, Tryd.ntmps49
      go_wp2
      go_ret
      exact ⟨by simp [hkf], HB2.out _ _⟩
end Go.Proofs.YtpajccehkcgoaaaDoor
