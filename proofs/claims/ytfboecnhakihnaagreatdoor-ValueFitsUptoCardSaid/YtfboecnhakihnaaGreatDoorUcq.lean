/-
  'copied' of every value, walked.
-/
import Derived.Test.YtfboecnhakihnaaGreatDoorUxc
namespace Go.Proofs.YtfboecnhakihnaaGreatDoor
open Go.RowKit Go.Shelf

set_option maxHeartbeats 8000000 in
set_option maxRecDepth 100000 in
theorem copied_any (z : U) (w : World) (v0 v1 v2 v3 v4 : Value) (hz : UIn w (fun b => b < w.heap.size) z v0 v1 v2 v3 v4) (N O K : Nat) (hN : uc z = N) (hO : uo z = O) (hK : uk z = K) (hNb : N ≤ 100000) (hOb : O ≤ 1000000) (hKb : K ≤ 100000) :
    Calls Tryz.prog 46 #[.agg #[v0, v1, v2, v3, v4], .agg #[.int .i64 N, .int .i64 O, .int .i64 K]] w (CopyP w z) := by
  obtain ⟨kk, nn, B, n0, c0, A0, n1, c1, A1, n2, c2, rfl, rfl, rfl, rfl, rfl⟩ := uin_agg hz
  have hN1 : 1 ≤ N := by cases z; rw [uc] at hN; omega
  have HZ := Lib.hid hz
  have HN := Lib.hid hN
  have HO := Lib.hid hO
  have HK := Lib.hid hK
  clear hz hN hO hK
  have hb0 : Below w.heap.size w (((w.alloc (.cells #[.int .i64 kk, .int .i64 nn, .slice B n0 c0, .slice A0 n1 c1, .slice A1 n2 c2] 29)).alloc (.cells #[.int .i64 N, .int .i64 O, .int .i64 K] 96)).alloc (.cells #[.int .i64 0, .int .i64 0, .slice none 0 0, .slice none 0 0, .slice none 0 0] 29)) := (((Below.refl _ w).alloc (Nat.le_refl _) _).alloc (by simp) _).alloc (by simp; omega) _
  have hvb : (((w.alloc (.cells #[.int .i64 kk, .int .i64 nn, .slice B n0 c0, .slice A0 n1 c1, .slice A1 n2 c2] 29)).alloc (.cells #[.int .i64 N, .int .i64 O, .int .i64 K] 96)).alloc (.cells #[.int .i64 0, .int .i64 0, .slice none 0 0, .slice none 0 0, .slice none 0 0] 29)).heap[w.heap.size]? = some (.cells #[.int .i64 kk, .int .i64 nn, .slice B n0 c0, .slice A0 n1 c1, .slice A1 n2 c2] 29 (0, 0)) := old_at _ (old_at _ (new_at rfl _))
  have hmr : Msr (((w.alloc (.cells #[.int .i64 kk, .int .i64 nn, .slice B n0 c0, .slice A0 n1 c1, .slice A1 n2 c2] 29)).alloc (.cells #[.int .i64 N, .int .i64 O, .int .i64 K] 96)).alloc (.cells #[.int .i64 0, .int .i64 0, .slice none 0 0, .slice none 0 0, .slice none 0 0] 29)) (w.heap.size + 1) N O K := old_at _ (new_at (by simp) _)
  have hrs : (((w.alloc (.cells #[.int .i64 kk, .int .i64 nn, .slice B n0 c0, .slice A0 n1 c1, .slice A1 n2 c2] 29)).alloc (.cells #[.int .i64 N, .int .i64 O, .int .i64 K] 96)).alloc (.cells #[.int .i64 0, .int .i64 0, .slice none 0 0, .slice none 0 0, .slice none 0 0] 29)).heap[w.heap.size + 2]? = some (.cells #[.int .i64 0, .int .i64 0, .slice none 0 0, .slice none 0 0, .slice none 0 0] 29 (0, 0)) := new_at (by simp) _
  have hs0 : (((w.alloc (.cells #[.int .i64 kk, .int .i64 nn, .slice B n0 c0, .slice A0 n1 c1, .slice A1 n2 c2] 29)).alloc (.cells #[.int .i64 N, .int .i64 O, .int .i64 K] 96)).alloc (.cells #[.int .i64 0, .int .i64 0, .slice none 0 0, .slice none 0 0, .slice none 0 0] 29)).heap.size = w.heap.size + 3 := by simp
  go_enter Tryz.func46, Tryz.ntmps46
  go_wp2
  generalize (((w.alloc (.cells #[.int .i64 kk, .int .i64 nn, .slice B n0 c0, .slice A0 n1 c1, .slice A1 n2 c2] 29)).alloc (.cells #[.int .i64 N, .int .i64 O, .int .i64 K] 96)).alloc (.cells #[.int .i64 0, .int .i64 0, .slice none 0 0, .slice none 0 0, .slice none 0 0] 29)) = W0 at *
  obtain ⟨q0, q1, q2, y0, y1, y2⟩ := msr_cells hmr
  have HS0 := Lib.hid hs0
  have HB0 := Lib.hid hb0
  have HVB := Lib.hid hvb
  have HRS := Lib.hid hrs
  clear hs0 hb0 hvb hrs hmr
  refine wp_region_any (by kernel_rfl) ?_
  change wpAny _ _ _ _ _ _ _ (World.drew _)
  refine any_rel0 (R := (fun f L a wx => ∃ b0 b1 b2 b3 b4 b5 b6 b7 b8 b9 b10 b11 : Bool, ∃ lb ob kb : Nat, L = #[b0, b1, b2, b3, b4, b5, b6, b7, b8, b9, b10, b11] ∧ f = bcnt b0 + bcnt b1 + bcnt b2 + bcnt b3 + bcnt b4 + bcnt b5 + bcnt b6 + bcnt b7 + bcnt b8 + bcnt b9 + bcnt b10 + bcnt b11 ∧ (b1 = true → b0 = true) ∧ (b2 = true → b1 = true) ∧ (b4 = true → b3 = true) ∧ (b5 = true → b4 = true) ∧ (b7 = true → b6 = true) ∧ (b8 = true → b7 = true) ∧ (b9 = true → b2 = true) ∧ (b10 = true → b5 = true) ∧ (b11 = true → b8 = true) ∧ a = { tmps := #[Value.agg #[.int .i64 kk, .int .i64 nn, .slice B n0 c0, .slice A0 n1 c1, .slice A1 n2 c2], Value.agg #[.int .i64 N, .int .i64 O, .int .i64 K], Value.pointer (some ⟨w.heap.size, 0, none⟩), Value.pointer (some ⟨w.heap.size + 1, 0, none⟩), Value.pointer (some ⟨w.heap.size + 1 + 1, 0, none⟩), bsel b9 (.slice (some ⟨lb, 0, none⟩) 0 N), bsel b10 (.slice (some ⟨ob, 0, none⟩) 0 O), bsel b11 (.slice (some ⟨kb, 0, none⟩) 0 K), undef, undef, bsel b0 (.pointer (some ⟨w.heap.size + 1, 0, none⟩)), bsel b1 (.int .i64 N), bsel b2 (.slice (some ⟨lb, 0, none⟩) 0 N), bsel b3 (.pointer (some ⟨w.heap.size + 1, 1, none⟩)), bsel b4 (.int .i64 O), bsel b5 (.slice (some ⟨ob, 0, none⟩) 0 O), bsel b6 (.pointer (some ⟨w.heap.size + 1, 2, none⟩)), bsel b7 (.int .i64 K), bsel b8 (.slice (some ⟨kb, 0, none⟩) 0 K), undef, undef, undef, undef, undef, undef, undef, undef, undef, undef, undef, undef, undef, undef, undef, undef, undef, undef, undef, undef, undef, undef, undef, undef, undef, undef, undef, undef, undef, undef, undef, undef, undef, undef, undef, undef, undef, undef, undef, undef, undef, undef, undef, undef, undef, undef, undef, undef, undef, undef, undef, undef], defers := [] } ∧ Fr W0 wx (fun _ => True) ∧ (b2 = true → wx.heap[lb]? = some (.cells (madeCells #[.int .i64 0, .int .i64 0, .slice none 0 0, .slice none 0 0, .slice none 0 0] (N * 5)) 29 (0, 0)) ∧ W0.heap.size ≤ lb) ∧ (b5 = true → wx.heap[ob]? = some (.cells (madeCells #[.int .u8 0] O) 5 (0, 0)) ∧ W0.heap.size ≤ ob) ∧ (b8 = true → wx.heap[kb]? = some (.cells (madeCells #[.string ⟨#[]⟩] K) 9 (0, 0)) ∧ W0.heap.size ≤ kb) ∧ (b2 = true → b5 = true → lb ≠ ob) ∧ (b2 = true → b8 = true → lb ≠ kb) ∧ (b5 = true → b8 = true → ob ≠ kb))) ?_ _ _ _ _ ?start
  case start => exact ⟨false, false, false, false, false, false, false, false, false, false, false, false, 0, 0, 0, rfl, rfl, by simp, by simp, by simp, by simp, by simp, by simp, by simp, by simp, by simp, rfl, (Fr.refl W0 _).drewN 1, by simp, by simp, by simp, by simp, by simp, by simp⟩
  · rintro f L a w7 ⟨b0, b1, b2, b3, b4, b5, b6, b7, b8, b9, b10, b11, lb, ob, kb, rfl, rfl, i1, i2, i4, i5, i7, i8, i9, i10, i11, rfl, hF, h2, h5, h8, d1, d2, d3⟩
    refine ⟨fun h0 => ?_, fun i hi => ?_⟩
    · have hno := List.eq_nil_iff_forall_not_mem.1 h0
      obtain rfl : b0 = true := by cases b0 with | true => rfl | false => exact absurd (mem_ready.2 ⟨rfl, _, rfl, fun e he _ => by simp at he⟩) (hno 0)
      obtain rfl : b1 = true := by cases b1 with | true => rfl | false => exact absurd (mem_ready.2 ⟨rfl, _, rfl, fun e he _ => by simp at he; rcases he with rfl; rfl⟩) (hno 1)
      obtain rfl : b2 = true := by cases b2 with | true => rfl | false => exact absurd (mem_ready.2 ⟨rfl, _, rfl, fun e he _ => by simp at he; rcases he with rfl; rfl⟩) (hno 2)
      obtain rfl : b3 = true := by cases b3 with | true => rfl | false => exact absurd (mem_ready.2 ⟨rfl, _, rfl, fun e he _ => by simp at he⟩) (hno 3)
      obtain rfl : b4 = true := by cases b4 with | true => rfl | false => exact absurd (mem_ready.2 ⟨rfl, _, rfl, fun e he _ => by simp at he; rcases he with rfl; rfl⟩) (hno 4)
      obtain rfl : b5 = true := by cases b5 with | true => rfl | false => exact absurd (mem_ready.2 ⟨rfl, _, rfl, fun e he _ => by simp at he; rcases he with rfl; rfl⟩) (hno 5)
      obtain rfl : b6 = true := by cases b6 with | true => rfl | false => exact absurd (mem_ready.2 ⟨rfl, _, rfl, fun e he _ => by simp at he⟩) (hno 6)
      obtain rfl : b7 = true := by cases b7 with | true => rfl | false => exact absurd (mem_ready.2 ⟨rfl, _, rfl, fun e he _ => by simp at he; rcases he with rfl; rfl⟩) (hno 7)
      obtain rfl : b8 = true := by cases b8 with | true => rfl | false => exact absurd (mem_ready.2 ⟨rfl, _, rfl, fun e he _ => by simp at he; rcases he with rfl; rfl⟩) (hno 8)
      obtain rfl : b9 = true := by cases b9 with | true => rfl | false => exact absurd (mem_ready.2 ⟨rfl, _, rfl, fun e he _ => by simp at he; rcases he with rfl | rfl | rfl | rfl | rfl | rfl | rfl | rfl | rfl | rfl <;> rfl⟩) (hno 9)
      obtain rfl : b10 = true := by cases b10 with | true => rfl | false => exact absurd (mem_ready.2 ⟨rfl, _, rfl, fun e he _ => by simp at he; rcases he with rfl | rfl | rfl | rfl | rfl | rfl | rfl | rfl | rfl | rfl | rfl | rfl <;> rfl⟩) (hno 10)
      obtain rfl : b11 = true := by cases b11 with | true => rfl | false => exact absurd (mem_ready.2 ⟨rfl, _, rfl, fun e he _ => by simp at he; rcases he with rfl | rfl | rfl | rfl | rfl | rfl | rfl | rfl | rfl | rfl | rfl | rfl | rfl <;> rfl⟩) (hno 11)
      simp only [bsel, if_true]
      obtain ⟨h2a, h2b⟩ := h2 rfl
      obtain ⟨h5a, h5b⟩ := h5 rfl
      obtain ⟨h8a, h8b⟩ := h8 rfl
      have D1 := d1 rfl rfl
      have D2 := d2 rfl rfl
      have D3 := d3 rfl rfl
      clear d1 d2 d3
      have hb7 : Below w.heap.size w w7 := HB0.out.trans ⟨hF.os, hF.tape, hF.output, hF.size, fun i hi => hF.block i (Nat.lt_of_lt_of_le hi HB0.out.size) trivial⟩
      have hv7 := hF.at HVB.out trivial
      have hr7 := hF.at HRS.out trivial
      have oL := own_made (base := w.heap.size + 3) (n := N) (sz := 5) h2a (by have := HS0.out; omega) (by rw [size_madeCells]) (by unfold maxLen; omega)
      have oB := own_made (base := w.heap.size + 3) (n := O) (sz := 1) h5a (by have := HS0.out; omega) (by rw [size_madeCells]; omega) (by unfold maxLen; omega)
      have oS := own_made (base := w.heap.size + 3) (n := K) (sz := 1) h8a (by have := HS0.out; omega) (by rw [size_madeCells]; omega) (by unfold maxLen; omega)
      have hlb : w.heap.size + 3 ≤ lb := by have := HS0.out; omega
      have hob : w.heap.size + 3 ≤ ob := by have := HS0.out; omega
      have hkb : w.heap.size + 3 ≤ kb := by have := HS0.out; omega
      clear h2a h2b h5a h5b h8a h8b h2 h5 h8 hno h0 hF HB0 HVB HRS q0 q1 q2 y0 y1 y2 i1 i2 i4 i5 i7 i8 i9 i10 i11 HS0
      obtain ⟨x0, x1, x2, x3, x4⟩ := cells_5 hv7
      have hrow := heap_alloc_new w7 (.cells #[.int .i64 kk, .int .i64 nn, .slice B n0 c0, .slice A0 n1 c1, .slice A1 n2 c2] 29 (0, 0))
      have hfa : Fr w7 (w7.alloc (.cells #[.int .i64 kk, .int .i64 nn, .slice B n0 c0, .slice A0 n1 c1, .slice A1 n2 c2] 29)) (fun _ => True) := (Fr.refl w7 _).alloc _
      have hc5 : ∀ (j : Nat) (u : Value), [Value.int .i64 kk, .int .i64 nn, .slice B n0 c0, .slice A0 n1 c1, .slice A1 n2 c2][j]? = some u → (w7.alloc (.cells #[.int .i64 kk, .int .i64 nn, .slice B n0 c0, .slice A0 n1 c1, .slice A1 n2 c2] 29)).cell? ((⟨w7.heap.size, 0, none⟩ : Addr).add j) = some u := fun j u hu => by
        rw [addr_add, Nat.zero_add, cell_of_row _ _ j _ _ _ hrow]
        simpa using hu
      have oLa := oL.alloc (.cells #[.int .i64 kk, .int .i64 nn, .slice B n0 c0, .slice A0 n1 c1, .slice A1 n2 c2] 29)
      obtain ⟨i0, hi, hz0, hz1, hz2⟩ := info_parts Tryz.info29
      go_wp2_with (at_builtin; refine wpList_append_fits _ rfl _ _ 26 rfl (w.heap.size + 3) 29 i0 5 Tryz.underlying26 hi hz1 lb 0 N [] rfl oLa ⟨w7.heap.size, 0, none⟩ 1 1 [.int .i64 kk, .int .i64 nn, .slice B n0 c0, .slice A0 n1 c1, .slice A1 n2 c2] rfl rfl hc5 (by simp [Value.oneCell']) (by omega) ?_; intro w1 hown1 hg1)
      have hfr1 : Fr (w7.alloc (.cells #[.int .i64 kk, .int .i64 nn, .slice B n0 c0, .slice A0 n1 c1, .slice A1 n2 c2] 29)) w1 (fun b => b ≠ lb) := Fr.of hg1 (fun b _ hb e => hb (by cases e; rfl))
      have hf71 : Fr w7 w1 (fun b => b ≠ lb) := (hfa.mono (fun _ _ _ => trivial)).trans hfr1
      have hrel0 : KRel w lb ob kb N O K z N (.slice (some ⟨lb, 0, none⟩) 1 N) (.slice (some ⟨ob, 0, none⟩) 0 O) (.slice (some ⟨kb, 0, none⟩) 0 K) (.int .i64 0) w1 := by
        refine ⟨0, [z], [], [], [.int .i64 kk, .int .i64 nn, .slice B n0 c0, .slice A0 n1 c1, .slice A1 n2 c2], fun _ j => if j = 0 then .int .i64 kk else if j = 1 then .int .i64 nn else if j = 2 then .slice B n0 c0 else if j = 3 then .slice A0 n1 c1 else .slice A1 n2 c2, by omega, rfl, rfl, rfl, rfl, hown1, ownsRow_fr oB hf71 (fun g e => by cases e; exact fun h => D1 h.symm), ownsRow_fr oS hf71 (fun g e => by cases e; exact fun h => D2 h.symm), fun i j hi hj => ?_, rfl, by simp, ?_, ?_, ?_, fun p y hy => ?_, fun p y hy _ => ?_, fun p y hy h => by omega, hf71.at hr7 (by omega), ?_⟩
        · have hi0 : i = 0 := by simpa using hi
          subst hi0
          match j, hj with
          | 0, _ => rfl
          | 1, _ => rfl
          | 2, _ => rfl
          | 3, _ => rfl
          | 4, _ => rfl
        · rw [List.drop_zero, ucL, ucL, HN.out]; omega
        · rw [List.drop_zero, uoL, uoL, HO.out, List.length_nil]; omega
        · rw [List.drop_zero, ukL, ukL, HK.out, List.length_nil]; omega
        · have hp0 : p = 0 := by have := (List.getElem?_eq_some_iff.1 hy).1; simpa using this
          subst hp0
          cases hy
          exact ⟨_, _, _, _, _, HZ.out⟩
        · have hp0 : p = 0 := by have := (List.getElem?_eq_some_iff.1 hy).1; simpa using this
          subst hp0
          cases hy
          exact HZ.out
        · exact below_fr_ne hb7 hf71 (by omega) hb7.size
      have HR0 := Lib.hid hrel0
      clear hrel0 hfr1 hf71 hown1 hg1 oL oLa oB oS hfa hrow hc5 hb7 hr7 hv7 x0 x1 x2 x3 x4
      go_loopg [5, 6, 7, 8] N (fun g v5 v6 v7 v8 wr => KRel w lb ob kb N O K z g v5 v6 v7 v8 wr)
      case atStart => exact HR0.out
      case round =>
        clear HR0
        obtain ⟨q, Q, OS, KS, xs, c, hq, rfl, rfl, rfl, rfl, ho1, ho3, ho2, hx, hQ0, hqQ, hsN, hsO, hsK, hokz, hpend, hdone, hbx, hbw⟩ := hrel
        by_cases hqlt : q < Q.length
        · obtain ⟨y, hy⟩ : ∃ y, Q[q]? = some y := ⟨_, List.getElem?_eq_getElem hqlt⟩
          have hdr : Q.drop q = y :: Q.drop (q + 1) := by rw [List.drop_eq_getElem_cons hqlt, (List.getElem?_eq_some_iff.1 hy).2]
          have hyz := hpend q y hy (Nat.le_refl _)
          obtain ⟨By, A, A', capb, cap, cap', cc, e0, e1, e2, e3, e4, w1', w2', w3', w4', hl0, hl1, hl2, hBB, hL, hKK, hE⟩ := hyz.full
          rw [hdr, ucL, uc_l] at hsN
          rw [hdr, uoL, uo_l] at hsO
          rw [hdr, ukL, uk_l] at hsK
          have hzl := ucL_len y.l
          have hdl := ucL_len (Q.drop (q + 1))
          rw [List.length_drop] at hdl
          have hqN : q < N := by omega
          have hbf := below_fr hbw
          have x3 := own_cell ho1 (hx q 3 hqlt (by omega))
          rw [e3, show 5 * q + 3 = q * 5 + 3 by omega] at x3
          have hone : ∀ u ∈ newsL y.l.length cc, u.oneCell' = true := fun u hu => by
            obtain ⟨j, hj⟩ := List.getElem?_of_mem hu
            obtain ⟨h1, rfl⟩ := newsL_inv hj
            obtain ⟨k9, t9, B8, n8, c8, A9, n9, c9, B9, m9, s9, r0, r1, r2, r3, r4⟩ := uin_agg (hE (j / 5) _ (List.getElem?_eq_getElem h1))
            have hj5 : j % 5 = 0 ∨ j % 5 = 1 ∨ j % 5 = 2 ∨ j % 5 = 3 ∨ j % 5 = 4 := by omega
            rcases hj5 with h | h | h | h | h
            · rw [h, r0]; rfl
            · rw [h, r1]; rfl
            · rw [h, r2]; rfl
            · rw [h, r3]; rfl
            · rw [h, r4]; rfl
          have hc1 := ext_z_any (w.heap.size + 3) lb Q.length N xs A y.l.length cap (newsL y.l.length cc) wr ho1 (newsL_len _ _) (fun hp => by
            obtain ⟨g, off, rfl, hg, hcell⟩ := hL hp
            refine ⟨g, off, rfl, fun j u hu => ?_⟩
            obtain ⟨h1, rfl⟩ := newsL_inv hu
            have := hbf.cell (hcell (j / 5) (j % 5) h1 (by omega)) hg
            rwa [show off + (5 * (j / 5) + j % 5) = off + j by omega] at this) hone (by omega) (by omega)
          have hc3 : ∀ (W : World), W.ownsRow (w.heap.size + 3) 5 1 (.slice (some ⟨ob, 0, none⟩) OS.length O) OS.length (OS.map (Value.int .u8)) → Fr w W (fun b => b < w.heap.size) → Calls Tryz.prog 78 #[.slice (some ⟨ob, 0, none⟩) OS.length O, .slice By y.b.length capb] W (ExtP W (w.heap.size + 3) 5 1 ob OS.length y.b.length O (OS.map (Value.int .u8) ++ y.b.map (Value.int .u8))) := fun W hW hfW =>
            ext_b_any (w.heap.size + 3) ob OS.length O _ By y.b.length capb (y.b.map (Value.int .u8)) W hW (by simp) (fun hp => by
              obtain ⟨g, off, rfl, hg, hcell⟩ := hBB hp
              refine ⟨g, off, rfl, fun j u hu => ?_⟩
              rw [List.getElem?_map] at hu
              obtain ⟨s, hs, rfl⟩ := Option.map_eq_some_iff.1 hu
              exact hfW.cell (hcell j s hs) hg) (fun u hu => by obtain ⟨s, _, rfl⟩ := List.mem_map.1 hu; rfl) (by omega) (by omega)
          have hc2 : ∀ (W : World), W.ownsRow (w.heap.size + 3) 9 1 (.slice (some ⟨kb, 0, none⟩) KS.length K) KS.length (KS.map Value.string) → Fr w W (fun b => b < w.heap.size) → Calls Tryz.prog 79 #[.slice (some ⟨kb, 0, none⟩) KS.length K, .slice A' y.ks.length cap'] W (ExtP W (w.heap.size + 3) 9 1 kb KS.length y.ks.length K (KS.map Value.string ++ y.ks.map Value.string)) := fun W hW hfW =>
            ext_s_any (w.heap.size + 3) kb KS.length K _ A' y.ks.length cap' (y.ks.map Value.string) W hW (by simp) (fun hp => by
              obtain ⟨g, off, rfl, hg, hcell⟩ := hKK hp
              refine ⟨g, off, rfl, fun j u hu => ?_⟩
              rw [List.getElem?_map] at hu
              obtain ⟨s, hs, rfl⟩ := Option.map_eq_some_iff.1 hu
              exact hfW.cell (hcell j s hs) hg) (fun u hu => by obtain ⟨s, _, rfl⟩ := List.mem_map.1 hu; rfl) (by omega) (by omega)
          obtain ⟨R1, hR1⟩ : ∃ R1, R1 = extL 5 y.l.length lb Q.length := ⟨_, rfl⟩
          obtain ⟨R2, hR2⟩ : ∃ R2, R2 = extL 1 y.b.length ob OS.length := ⟨_, rfl⟩
          obtain ⟨R3, hR3⟩ : ∃ R3, R3 = extL 1 y.ks.length kb KS.length := ⟨_, rfl⟩
          have hR1f : ∃ (A : Option Addr) (n c : Nat), R1 = .slice A n c := by obtain ⟨A, cap, h, _⟩ := extL_form 5 y.l.length lb Q.length hl1; exact ⟨A, _, cap, by rw [hR1, h]⟩
          have hR2f : ∃ (A : Option Addr) (n c : Nat), R2 = .slice A n c := by obtain ⟨A, cap, h, _⟩ := extL_form 1 y.b.length ob OS.length hl0; exact ⟨A, _, cap, by rw [hR2, h]⟩
          have hR3f : ∃ (A : Option Addr) (n c : Nat), R3 = .slice A n c := by obtain ⟨A, cap, h, _⟩ := extL_form 1 y.ks.length kb KS.length hl2; exact ⟨A, _, cap, by rw [hR3, h]⟩
          -- what holds at the round's end
          have hfin : ∀ (w1 w2 w3 : World), w1.ownsRow (w.heap.size + 3) 29 5 (.slice (some ⟨lb, 0, none⟩) (Q.length + y.l.length) N) (Q.length + y.l.length) (xs ++ newsL y.l.length cc) → wr.grownBy w1 (some lb) →
              w2.ownsRow (w.heap.size + 3) 5 1 (.slice (some ⟨ob, 0, none⟩) (OS.length + y.b.length) O) (OS.length + y.b.length) (OS.map (Value.int .u8) ++ y.b.map (Value.int .u8)) → (w1.setCell ⟨lb, q * 5 + 3, none⟩ R1).grownBy w2 (some ob) →
              w3.ownsRow (w.heap.size + 3) 9 1 (.slice (some ⟨kb, 0, none⟩) (KS.length + y.ks.length) K) (KS.length + y.ks.length) (KS.map Value.string ++ y.ks.map Value.string) → (w2.setCell ⟨lb, q * 5 + 2, none⟩ R2).grownBy w3 (some kb) →
              KRel w lb ob kb N O K z (N - (q + 1)) (.slice (some ⟨lb, 0, none⟩) (Q.length + y.l.length) N) (.slice (some ⟨ob, 0, none⟩) (OS.length + y.b.length) O) (.slice (some ⟨kb, 0, none⟩) (KS.length + y.ks.length) K) (.int .i64 ((q + 1 : Nat) : Int)) (w3.setCell ⟨lb, q * 5 + 4, none⟩ R3) := by
            intro w1 w2 w3 h1 hg1 h2 hg2 h3 hg3
            have hf1 : Fr wr w1 (fun b => b ≠ lb) := Fr.of hg1 (fun b _ hb e => hb (by cases e; rfl))
            have hf1s : Fr w1 (w1.setCell ⟨lb, q * 5 + 3, none⟩ R1) (fun b => b ≠ lb) := Fr.of (gset w1 _ _ R1) (fun b _ hb e => hb (by cases e; rfl))
            have hf2 : Fr (w1.setCell ⟨lb, q * 5 + 3, none⟩ R1) w2 (fun b => b ≠ ob) := Fr.of hg2 (fun b _ hb e => hb (by cases e; rfl))
            have hf2s : Fr w2 (w2.setCell ⟨lb, q * 5 + 2, none⟩ R2) (fun b => b ≠ lb) := Fr.of (gset w2 _ _ R2) (fun b _ hb e => hb (by cases e; rfl))
            have hf3 : Fr (w2.setCell ⟨lb, q * 5 + 2, none⟩ R2) w3 (fun b => b ≠ kb) := Fr.of hg3 (fun b _ hb e => hb (by cases e; rfl))
            have hf3s : Fr w3 (w3.setCell ⟨lb, q * 5 + 4, none⟩ R3) (fun b => b ≠ lb) := Fr.of (gset w3 _ _ R3) (fun b _ hb e => hb (by cases e; rfl))
            have h1a := own_set h1 (q * 5 + 3) R1
            have h1b := ownsRow_fr h1a hf2 (fun g e => by cases e; exact D1)
            have h1c := own_set h1b (q * 5 + 2) R2
            have h1d := ownsRow_fr h1c hf3 (fun g e => by cases e; exact D2)
            have h1e := own_set h1d (q * 5 + 4) R3
            have h2b := ownsRow_fr (ownsRow_fr (ownsRow_fr h2 hf2s (fun g e => by cases e; exact fun h => D1 h.symm)) hf3 (fun g e => by cases e; exact D3)) hf3s (fun g e => by cases e; exact fun h => D1 h.symm)
            have h3b := ownsRow_fr h3 hf3s (fun g e => by cases e; exact fun h => D2 h.symm)
            have hxl : xs.length = Q.length * 5 := ho1.1
            have hall : Fr wr (w3.setCell ⟨lb, q * 5 + 4, none⟩ R3) (fun b => b < w.heap.size + 3) := (hf1.mono (fun b _ hb => by omega)).trans ((hf1s.mono (fun b _ hb => by omega)).trans ((hf2.mono (fun b _ hb => by omega)).trans ((hf2s.mono (fun b _ hb => by omega)).trans ((hf3.mono (fun b _ hb => by omega)).trans (hf3s.mono (fun b _ hb => by omega))))))
            refine ⟨q + 1, Q ++ y.l, OS ++ y.b, KS ++ y.ks, (((xs ++ newsL y.l.length cc).set (q * 5 + 3) R1).set (q * 5 + 2) R2).set (q * 5 + 4) R3, fun i j => if i = q then (if j = 3 then R1 else if j = 2 then R2 else if j = 4 then R3 else c i j) else if i < Q.length then c i j else cc (i - Q.length) j, by omega, by rw [List.length_append], by rw [List.length_append], by rw [List.length_append], rfl, by rw [List.length_append]; exact h1e, by rw [List.length_append, List.map_append]; exact h2b, by rw [List.length_append, List.map_append]; exact h3b, fun i j hi hj => ?_, ?_, by rw [List.length_append]; omega, ?_, ?_, ?_, fun p x hp => ?_, fun p x hp hpq => ?_, fun p x hp hpq => ?_, hall.at hbx (by omega), ?_⟩
            · show _ = some (if i = q then (if j = 3 then R1 else if j = 2 then R2 else if j = 4 then R3 else c i j) else if i < Q.length then c i j else cc (i - Q.length) j)
              rw [List.length_append] at hi
              have hbase : (xs ++ newsL y.l.length cc)[5 * i + j]? = some (if i < Q.length then c i j else cc (i - Q.length) j) := by
                by_cases hiq : i < Q.length
                · rw [if_pos hiq, List.getElem?_append_left (by omega)]
                  exact hx i j hiq hj
                · rw [if_neg hiq, List.getElem?_append_right (by omega), show 5 * i + j - xs.length = 5 * (i - Q.length) + j by omega]
                  exact newsL_get (by omega) hj
              have hlen : 5 * i + j < (xs ++ newsL y.l.length cc).length := (List.getElem?_eq_some_iff.1 hbase).1
              by_cases hiq : i = q
              · subst hiq
                rw [if_pos rfl]
                by_cases h4 : j = 4
                · subst h4
                  rw [if_neg (by decide), if_neg (by decide), if_pos rfl, show 5 * i + 4 = i * 5 + 4 by omega, List.getElem?_set_self (by rw [List.length_set, List.length_set]; omega)]
                · rw [List.getElem?_set_ne (by omega)]
                  by_cases h2 : j = 2
                  · subst h2
                    rw [if_neg (by decide), if_pos rfl, show 5 * i + 2 = i * 5 + 2 by omega, List.getElem?_set_self (by rw [List.length_set]; omega)]
                  · rw [List.getElem?_set_ne (by omega)]
                    by_cases h3 : j = 3
                    · subst h3
                      rw [if_pos rfl, show 5 * i + 3 = i * 5 + 3 by omega, List.getElem?_set_self (by omega)]
                    · rw [if_neg h3, if_neg h2, if_neg h4, List.getElem?_set_ne (by omega), hbase, if_pos hqlt]
              · rw [if_neg hiq, List.getElem?_set_ne (by omega), List.getElem?_set_ne (by omega), List.getElem?_set_ne (by omega), hbase]
            · rw [List.getElem?_append_left (by omega)]; exact hQ0
            · rw [List.drop_append_of_le_length (by omega), ucL_app]; omega
            · rw [List.drop_append_of_le_length (by omega), uoL_app, List.length_append]; omega
            · rw [List.drop_append_of_le_length (by omega), ukL_app, List.length_append]; omega
            · by_cases hpl : p < Q.length
              · rw [List.getElem?_append_left hpl] at hp; exact hokz p x hp
              · rw [List.getElem?_append_right (by omega)] at hp
                exact ⟨_, _, _, _, _, hE _ x hp⟩
            · have hpq' : p ≠ q := by omega
              by_cases hpl : p < Q.length
              · rw [List.getElem?_append_left hpl] at hp
                have := hpend p x hp (by omega)
                simp only [if_neg hpq', if_pos hpl]
                exact this
              · rw [List.getElem?_append_right (by omega)] at hp
                simp only [if_neg hpq', if_neg hpl]
                exact hE _ x hp
            · have hpl : p < Q.length := by omega
              rw [List.getElem?_append_left hpl] at hp
              by_cases hpq' : p = q
              · subst hpq'
                rw [hy] at hp
                cases hp
                refine ⟨Q.length, OS.length, KS.length, ?_, ?_, ?_, ?_, ?_, fun p' x' hx' => ?_, fun p' s' hs' => ?_, fun p' s' hs' => ?_⟩
                · simp only [if_pos]
                  exact e0
                · simp only [if_pos]
                  exact e1
                · simp only [if_pos]
                  exact hR2
                · simp only [if_pos]
                  exact hR1
                · simp only [if_pos]
                  exact hR3
                · rw [List.getElem?_append_right (by omega), show Q.length + p' - Q.length = p' by omega]; exact hx'
                · rw [List.getElem?_append_right (by omega), show OS.length + p' - OS.length = p' by omega]; exact hs'
                · rw [List.getElem?_append_right (by omega), show KS.length + p' - KS.length = p' by omega]; exact hs'
              · have hd := (hdone p x hp (by omega)).more (Q' := y.l) (OS' := y.b) (KS' := y.ks)
                simp only [if_neg hpq', if_pos hpl]
                exact hd
            · exact hbw.trans ⟨hall.os, hall.tape, hall.output, hall.size, fun i hi => hall.block i (by have := hbw.size; omega) (by omega)⟩
          have hxl : xs.length = Q.length * 5 := ho1.1
          have a2 : (xs ++ newsL y.l.length cc)[q * 5 + 2]? = some (.slice By y.b.length capb) := by rw [List.getElem?_append_left (by omega), show q * 5 + 2 = 5 * q + 2 by omega, hx q 2 hqlt (by omega), e2]
          have a4 : (xs ++ newsL y.l.length cc)[q * 5 + 4]? = some (.slice A' y.ks.length cap') := by rw [List.getElem?_append_left (by omega), show q * 5 + 4 = 5 * q + 4 by omega, hx q 4 hqlt (by omega), e4]
          have hmid : ∀ w1 : World, w1.ownsRow (w.heap.size + 3) 29 5 (.slice (some ⟨lb, 0, none⟩) (Q.length + y.l.length) N) (Q.length + y.l.length) (xs ++ newsL y.l.length cc) → wr.grownBy w1 (some lb) →
              w1.cell? ⟨lb, q * 5 + 3, none⟩ ≠ none ∧ w1.frozen? ⟨lb, q * 5 + 3, none⟩ = false ∧ (w1.setCell ⟨lb, q * 5 + 3, none⟩ R1).cell? ⟨lb, q * 5 + 2, none⟩ = some (.slice By y.b.length capb) ∧
              (w1.setCell ⟨lb, q * 5 + 3, none⟩ R1).ownsRow (w.heap.size + 3) 5 1 (.slice (some ⟨ob, 0, none⟩) OS.length O) OS.length (OS.map (Value.int .u8)) ∧ Fr w (w1.setCell ⟨lb, q * 5 + 3, none⟩ R1) (fun b => b < w.heap.size) ∧
              ∀ w2, w2.ownsRow (w.heap.size + 3) 5 1 (.slice (some ⟨ob, 0, none⟩) (OS.length + y.b.length) O) (OS.length + y.b.length) (OS.map (Value.int .u8) ++ y.b.map (Value.int .u8)) → (w1.setCell ⟨lb, q * 5 + 3, none⟩ R1).grownBy w2 (some ob) → w2.cell? ⟨lb, q * 5 + 2, none⟩ = some (.slice By y.b.length capb) ∧ w2.frozen? ⟨lb, q * 5 + 2, none⟩ = false ∧ (w2.setCell ⟨lb, q * 5 + 2, none⟩ R2).cell? ⟨lb, q * 5 + 4, none⟩ = some (.slice A' y.ks.length cap') ∧
                (w2.setCell ⟨lb, q * 5 + 2, none⟩ R2).ownsRow (w.heap.size + 3) 9 1 (.slice (some ⟨kb, 0, none⟩) KS.length K) KS.length (KS.map Value.string) ∧ Fr w (w2.setCell ⟨lb, q * 5 + 2, none⟩ R2) (fun b => b < w.heap.size) ∧
                ∀ w3, (w2.setCell ⟨lb, q * 5 + 2, none⟩ R2).grownBy w3 (some kb) → w3.cell? ⟨lb, q * 5 + 4, none⟩ = some (.slice A' y.ks.length cap') ∧ w3.frozen? ⟨lb, q * 5 + 4, none⟩ = false := by
            intro w1 h1 hg1
            have hf1 : Fr wr w1 (fun b => b ≠ lb) := Fr.of hg1 (fun b _ hb e => hb (by cases e; rfl))
            have hf1s : Fr w1 (w1.setCell ⟨lb, q * 5 + 3, none⟩ R1) (fun b => b ≠ lb) := Fr.of (gset w1 _ _ R1) (fun b _ hb e => hb (by cases e; rfl))
            have a3 : (xs ++ newsL y.l.length cc)[q * 5 + 3]? = some (.slice A y.l.length cap) := by rw [List.getElem?_append_left (by omega), show q * 5 + 3 = 5 * q + 3 by omega, hx q 3 hqlt (by omega), e3]
            have h1a := own_set h1 (q * 5 + 3) R1
            have a2' : ((xs ++ newsL y.l.length cc).set (q * 5 + 3) R1)[q * 5 + 2]? = some (.slice By y.b.length capb) := by rw [List.getElem?_set_ne (by omega)]; exact a2
            have a4' : ((xs ++ newsL y.l.length cc).set (q * 5 + 3) R1)[q * 5 + 4]? = some (.slice A' y.ks.length cap') := by rw [List.getElem?_set_ne (by omega)]; exact a4
            have hfw : Fr w (w1.setCell ⟨lb, q * 5 + 3, none⟩ R1) (fun b => b < w.heap.size) := hbf.trans ((hf1.mono (fun b _ hb => by omega)).trans (hf1s.mono (fun b _ hb => by omega)))
            refine ⟨by rw [own_cell h1 a3]; simp, own_frozen h1 _, own_cell h1a a2', ownsRow_fr (ownsRow_fr ho3 hf1 (fun g e => by cases e; exact fun h => D1 h.symm)) hf1s (fun g e => by cases e; exact fun h => D1 h.symm), hfw, fun w2 _ hg2 => ?_⟩
            have hf2 : Fr (w1.setCell ⟨lb, q * 5 + 3, none⟩ R1) w2 (fun b => b ≠ ob) := Fr.of hg2 (fun b _ hb e => hb (by cases e; rfl))
            have hf2s : Fr w2 (w2.setCell ⟨lb, q * 5 + 2, none⟩ R2) (fun b => b ≠ lb) := Fr.of (gset w2 _ _ R2) (fun b _ hb e => hb (by cases e; rfl))
            have h1b := ownsRow_fr h1a hf2 (fun g e => by cases e; exact D1)
            have h1c := own_set h1b (q * 5 + 2) R2
            have a4'' : (((xs ++ newsL y.l.length cc).set (q * 5 + 3) R1).set (q * 5 + 2) R2)[q * 5 + 4]? = some (.slice A' y.ks.length cap') := by rw [List.getElem?_set_ne (by omega)]; exact a4'
            have hs1 := ownsRow_fr (ownsRow_fr ho2 hf1 (fun g e => by cases e; exact fun h => D2 h.symm)) hf1s (fun g e => by cases e; exact fun h => D2 h.symm)
            refine ⟨own_cell h1b a2', own_frozen h1b _, own_cell h1c a4'', ownsRow_fr (ownsRow_fr hs1 hf2 (fun g e => by cases e; exact fun h => D3 h.symm)) hf2s (fun g e => by cases e; exact fun h => D2 h.symm), hfw.trans ((hf2.mono (fun b _ hb => by omega)).trans (hf2s.mono (fun b _ hb => by omega))), fun w3 hg3 => ?_⟩
            have hf3 : Fr (w2.setCell ⟨lb, q * 5 + 2, none⟩ R2) w3 (fun b => b ≠ kb) := Fr.of hg3 (fun b _ hb e => hb (by cases e; rfl))
            have h1d := ownsRow_fr h1c hf3 (fun g e => by cases e; exact D2)
            exact ⟨own_cell h1d a4'', own_frozen h1d _⟩
          have HF := Lib.hid hfin
          have HM := Lib.hid hmid
          have HC2 := Lib.hid hc2
          have HC3 := Lib.hid hc3
          unfold ExtP at hc1
          rw [← hR1] at hc1
          have HR2 := Lib.hid hR2
          have HR3 := Lib.hid hR3
          have hqi : (q : Int) < (Q.length : Int) := by omega
          have hQn : Q.length ≤ 100000 := by omega
          have hq0 : (0 : Int) ≤ (q : Int) := by omega
          clear hfin hmid hc2 hc3 hR1 hR2 hR3 hx hQ0 hsN hsO hsK hokz hpend hdone hbx hbw ho1 ho2 ho3 hdr hyz hBB hL hKK hE hone hzl hdl hbf e0 e1 e2 e3 e4 w1' w2' w3' w4' hy hl0 hl1 hl2 hxl a2 a4
          obtain ⟨RA1, Rn1, Rc1, rfl⟩ := hR1f
          obtain ⟨RA2, Rn2, Rc2, rfl⟩ := hR2f
          obtain ⟨RA3, Rn3, Rc3, rfl⟩ := hR3f
          generalize y.l.length = nl at *
          generalize y.ks.length = nk at *
          generalize y.b.length = nb at *
          generalize hQl : Q.length = nQ at *
          generalize KS.length = nK at *
          generalize OS.length = nO at *
          clear hQl
          go_wp2_with fail
          refine hc1.mono ?_
          rintro e w1 ⟨rfl, h1, hg1⟩
          obtain ⟨b2, b2f, b3, hs1, hfw, hnext⟩ := HM.out w1 h1 hg1
          obtain ⟨bv, b2⟩ := Option.ne_none_iff_exists'.1 b2
          have HNX := Lib.hid hnext
          have hcc := HC3.out _ hs1 hfw
          unfold ExtP at hcc
          rw [← HR2.out] at hcc
          clear hnext hc1 x3 hs1 hfw
          go_wp2_with fail
          refine hcc.mono ?_
          rintro e w2 ⟨rfl, h2, hg2⟩
          obtain ⟨b4, b4f, b5, hs2, hfw2, hnext2⟩ := HNX.out w2 h2 hg2
          have HNX2 := Lib.hid hnext2
          have hcc2 := HC2.out _ hs2 hfw2
          unfold ExtP at hcc2
          rw [← HR3.out] at hcc2
          clear hnext2 hcc b2 b2f b3 hs2 hfw2
          go_wp2_with fail
          refine hcc2.mono ?_
          rintro e w3 ⟨rfl, h3, hg3⟩
          obtain ⟨b6, b6f⟩ := HNX2.out w3 hg3
          have hend := HF.out w1 w2 w3 h1 hg1 h2 hg2 h3 hg3
          have HEND := Lib.hid hend
          clear hend h1 h2 hg1 hg2 h3 hg3 b4 b4f b5 hcc2
          go_wp2
          go_roundg (N - (q + 1))
          case measure => omega
          case rel => have h := HEND.out; simpa using h
        · have hqn : q = Q.length := by omega
          subst hqn
          have hall := fun p y (h : Q[p]? = some y) => hdone p y h (List.getElem?_eq_some_iff.1 h).1
          have hfinal := uin_laid (W := wr) (B := w.heap.size + 3) hlb hob hkb rfl rfl rfl ho1 ho3 ho2 hx hokz hall (SizeOf.sizeOf z + 1) z (by omega) 0 hQ0
          have hpos : 0 < Q.length := (List.getElem?_eq_some_iff.1 hQ0).1
          have x0 := own_cell ho1 (hx 0 0 hpos (by omega))
          have x1 := own_cell ho1 (hx 0 1 hpos (by omega))
          have x2 := own_cell ho1 (hx 0 2 hpos (by omega))
          have x3 := own_cell ho1 (hx 0 3 hpos (by omega))
          have x4 := own_cell ho1 (hx 0 4 hpos (by omega))
          simp only [Nat.mul_zero, Nat.zero_add] at x0 x1 x2 x3 x4
          obtain ⟨r0, r1, r2, r3, r4⟩ := cells_5 hbx
          obtain ⟨f0, f1, f2, f3, f4⟩ := frozen_5 hbx
          generalize c 0 0 = d0 at *
          generalize c 0 1 = d1 at *
          generalize c 0 2 = d2 at *
          generalize c 0 3 = d3 at *
          generalize c 0 4 = d4 at *
          obtain ⟨k9, t9, B8, n8, c8, A9, n9, c9, B9, m9, s9, rfl, rfl, rfl, rfl, rfl⟩ := uin_agg hfinal
          have hfs := fr_set5 wr (w.heap.size + 2) (.int .i64 k9) (.int .i64 t9) (.slice B8 n8 c8) (.slice A9 n9 c9) (.slice B9 m9 s9)
          have hout := hfinal.fr (ok' := fun b => b ≠ w.heap.size + 2) hfs (fun b hb => by omega)
          have hset : (((((wr.setCell ⟨w.heap.size + 2, 0, none⟩ (.int .i64 k9)).setCell ⟨w.heap.size + 2, 1, none⟩ (.int .i64 t9)).setCell ⟨w.heap.size + 2, 2, none⟩ (.slice B8 n8 c8)).setCell ⟨w.heap.size + 2, 3, none⟩ (.slice A9 n9 c9)).setCell ⟨w.heap.size + 2, 4, none⟩ (.slice B9 m9 s9)).heap[w.heap.size + 2]? = some (.cells #[.int .i64 k9, .int .i64 t9, .slice B8 n8 c8, .slice A9 n9 c9, .slice B9 m9 s9] 29 (0, 0)) :=
            heap_setCell_same _ _ 4 _ _ _ (heap_setCell_same _ _ 3 _ _ _ (heap_setCell_same _ _ 2 _ _ _ (heap_setCell_same _ _ 1 _ _ _ (heap_setCell_same _ _ 0 _ _ _ hbx))))
          have hbel := below_fr_ne hbw hfs (by omega) hbw.size
          have HO2 := Lib.hid (hout.mono (ok' := fun b => w.heap.size ≤ b) (fun b _ hb => by omega))
          have HSET := Lib.hid hset
          have HBEL := Lib.hid hbel
          have hposi : (0 : Int) < (Q.length : Int) := by omega
          have hQn : Q.length ≤ 100000 := by omega
          clear hout hfinal hall hdone hpend hokz hx ho1 ho2 ho3 hQ0 hsN hsO hsK hbx hqlt hfs hset hbel
          generalize Q.length = nQ at *
          go_wp2
          refine bodyPost_ret (v := .agg #[.int .i64 k9, .int .i64 t9, .slice B8 n8 c8, .slice A9 n9 c9, .slice B9 m9 s9]) (results_cell_row rfl _ _ (w.heap.size + 2) 29 _ (0, 0) _ rfl HSET.out Tryz.underlying29 rfl (by kernel_rfl)) rfl ?_
          exact ⟨_, _, _, _, _, rfl, HO2.out, HBEL.out⟩
    obtain ⟨g0, o, ho, ha⟩ := mem_ready.1 hi
    match i, g0, o, ho, ha with
    | 0, g0, o, ho, ha =>
      obtain rfl : b0 = false := g0
      obtain rfl : b1 = false := by cases b1 with | false => rfl | true => exact (i1 rfl).symm
      obtain rfl : b2 = false := by cases b2 with | false => rfl | true => exact (i2 rfl).symm
      obtain rfl : b9 = false := by cases b9 with | false => rfl | true => exact (i9 rfl).symm
      refine ⟨bcnt true + bcnt false + bcnt false + bcnt b3 + bcnt b4 + bcnt b5 + bcnt b6 + bcnt b7 + bcnt b8 + bcnt false + bcnt b10 + bcnt b11, by have e0 : bcnt false = 1 := rfl; have e1 : bcnt true = 0 := rfl; omega, wpOp_step rfl fun K' hK => ?_⟩
      go_simp
      exact hK _ _ ⟨true, false, false, b3, b4, b5, b6, b7, b8, false, b10, b11, lb, ob, kb, rfl, rfl, fun _ => rfl, by simp, i4, i5, i7, i8, by simp, i10, i11, rfl, hF, h2, h5, h8, d1, d2, d3⟩
    | 1, g0, o, ho, ha =>
      obtain rfl : b1 = false := g0
      cases ho
      obtain rfl : b0 = true := ha ⟨0, .data⟩ (by simp) rfl
      obtain rfl : b2 = false := by cases b2 with | false => rfl | true => exact (i2 rfl).symm
      obtain rfl : b9 = false := by cases b9 with | false => rfl | true => exact (i9 rfl).symm
      have hq := hF.cell q0 trivial
      refine ⟨bcnt true + bcnt true + bcnt false + bcnt b3 + bcnt b4 + bcnt b5 + bcnt b6 + bcnt b7 + bcnt b8 + bcnt false + bcnt b10 + bcnt b11, by have e0 : bcnt false = 1 := rfl; have e1 : bcnt true = 0 := rfl; omega, wpOp_step rfl fun K' hK => ?_⟩
      simp only [bsel]
      go_simp
      exact hK _ _ ⟨true, true, false, b3, b4, b5, b6, b7, b8, false, b10, b11, lb, ob, kb, rfl, rfl, fun _ => rfl, fun _ => rfl, i4, i5, i7, i8, by simp, i10, i11, rfl, hF, h2, h5, h8, d1, d2, d3⟩
    | 2, g0, o, ho, ha =>
      obtain rfl : b2 = false := g0
      cases ho
      obtain rfl : b1 = true := ha ⟨1, .data⟩ (by simp) rfl
      obtain rfl : b0 = true := i1 rfl
      obtain rfl : b9 = false := by cases b9 with | false => rfl | true => exact (i9 rfl).symm
      have hmk := madeU w7 N hNb
      refine ⟨bcnt true + bcnt true + bcnt true + bcnt b3 + bcnt b4 + bcnt b5 + bcnt b6 + bcnt b7 + bcnt b8 + bcnt false + bcnt b10 + bcnt b11, by have e0 : bcnt false = 1 := rfl; have e1 : bcnt true = 0 := rfl; omega, wpOp_step rfl fun K' hK => ?_⟩
      simp only [bsel]
      go_simp
      have hFa : Fr w7 (w7.alloc (.cells (madeCells #[.int .i64 0, .int .i64 0, .slice none 0 0, .slice none 0 0, .slice none 0 0] (N * 5)) 29)) (fun _ => True) := (Fr.refl w7 _).alloc _
      exact hK _ _ ⟨true, true, true, b3, b4, b5, b6, b7, b8, false, b10, b11, w7.heap.size, ob, kb, rfl, rfl, fun _ => rfl, fun _ => rfl, i4, i5, i7, i8, fun _ => rfl, i10, i11, rfl, hF.trans hFa, fun _ => ⟨heap_alloc_new w7 _, hF.size⟩, fun h => ⟨hFa.at (h5 h).1 trivial, (h5 h).2⟩, fun h => ⟨hFa.at (h8 h).1 trivial, (h8 h).2⟩, fun _ h => by have := blk_lt (h5 h).1; omega, fun _ h => by have := blk_lt (h8 h).1; omega, d3⟩
    | 3, g0, o, ho, ha =>
      obtain rfl : b3 = false := g0
      obtain rfl : b4 = false := by cases b4 with | false => rfl | true => exact (i4 rfl).symm
      obtain rfl : b5 = false := by cases b5 with | false => rfl | true => exact (i5 rfl).symm
      obtain rfl : b10 = false := by cases b10 with | false => rfl | true => exact (i10 rfl).symm
      refine ⟨bcnt b0 + bcnt b1 + bcnt b2 + bcnt true + bcnt false + bcnt false + bcnt b6 + bcnt b7 + bcnt b8 + bcnt b9 + bcnt false + bcnt b11, by have e0 : bcnt false = 1 := rfl; have e1 : bcnt true = 0 := rfl; omega, wpOp_step rfl fun K' hK => ?_⟩
      go_simp
      exact hK _ _ ⟨b0, b1, b2, true, false, false, b6, b7, b8, b9, false, b11, lb, ob, kb, rfl, rfl, i1, i2, fun _ => rfl, by simp, i7, i8, i9, by simp, i11, rfl, hF, h2, h5, h8, d1, d2, d3⟩
    | 4, g0, o, ho, ha =>
      obtain rfl : b4 = false := g0
      cases ho
      obtain rfl : b3 = true := ha ⟨3, .data⟩ (by simp) rfl
      obtain rfl : b5 = false := by cases b5 with | false => rfl | true => exact (i5 rfl).symm
      obtain rfl : b10 = false := by cases b10 with | false => rfl | true => exact (i10 rfl).symm
      have hq := hF.cell q1 trivial
      refine ⟨bcnt b0 + bcnt b1 + bcnt b2 + bcnt true + bcnt true + bcnt false + bcnt b6 + bcnt b7 + bcnt b8 + bcnt b9 + bcnt false + bcnt b11, by have e0 : bcnt false = 1 := rfl; have e1 : bcnt true = 0 := rfl; omega, wpOp_step rfl fun K' hK => ?_⟩
      simp only [bsel]
      go_simp
      exact hK _ _ ⟨b0, b1, b2, true, true, false, b6, b7, b8, b9, false, b11, lb, ob, kb, rfl, rfl, i1, i2, fun _ => rfl, fun _ => rfl, i7, i8, i9, by simp, i11, rfl, hF, h2, h5, h8, d1, d2, d3⟩
    | 5, g0, o, ho, ha =>
      obtain rfl : b5 = false := g0
      cases ho
      obtain rfl : b4 = true := ha ⟨4, .data⟩ (by simp) rfl
      obtain rfl : b3 = true := i4 rfl
      obtain rfl : b10 = false := by cases b10 with | false => rfl | true => exact (i10 rfl).symm
      have hmk := madeB w7 O hOb
      refine ⟨bcnt b0 + bcnt b1 + bcnt b2 + bcnt true + bcnt true + bcnt true + bcnt b6 + bcnt b7 + bcnt b8 + bcnt b9 + bcnt false + bcnt b11, by have e0 : bcnt false = 1 := rfl; have e1 : bcnt true = 0 := rfl; omega, wpOp_step rfl fun K' hK => ?_⟩
      simp only [bsel]
      go_simp
      have hFa : Fr w7 (w7.alloc (.cells (madeCells #[.int .u8 0] O) 5)) (fun _ => True) := (Fr.refl w7 _).alloc _
      exact hK _ _ ⟨b0, b1, b2, true, true, true, b6, b7, b8, b9, false, b11, lb, w7.heap.size, kb, rfl, rfl, i1, i2, fun _ => rfl, fun _ => rfl, i7, i8, i9, fun _ => rfl, i11, rfl, hF.trans hFa, fun h => ⟨hFa.at (h2 h).1 trivial, (h2 h).2⟩, fun _ => ⟨heap_alloc_new w7 _, hF.size⟩, fun h => ⟨hFa.at (h8 h).1 trivial, (h8 h).2⟩, fun h _ => by have := blk_lt (h2 h).1; omega, d2, fun _ h => by have := blk_lt (h8 h).1; omega⟩
    | 6, g0, o, ho, ha =>
      obtain rfl : b6 = false := g0
      obtain rfl : b7 = false := by cases b7 with | false => rfl | true => exact (i7 rfl).symm
      obtain rfl : b8 = false := by cases b8 with | false => rfl | true => exact (i8 rfl).symm
      obtain rfl : b11 = false := by cases b11 with | false => rfl | true => exact (i11 rfl).symm
      refine ⟨bcnt b0 + bcnt b1 + bcnt b2 + bcnt b3 + bcnt b4 + bcnt b5 + bcnt true + bcnt false + bcnt false + bcnt b9 + bcnt b10 + bcnt false, by have e0 : bcnt false = 1 := rfl; have e1 : bcnt true = 0 := rfl; omega, wpOp_step rfl fun K' hK => ?_⟩
      go_simp
      exact hK _ _ ⟨b0, b1, b2, b3, b4, b5, true, false, false, b9, b10, false, lb, ob, kb, rfl, rfl, i1, i2, i4, i5, fun _ => rfl, by simp, i9, i10, by simp, rfl, hF, h2, h5, h8, d1, d2, d3⟩
    | 7, g0, o, ho, ha =>
      obtain rfl : b7 = false := g0
      cases ho
      obtain rfl : b6 = true := ha ⟨6, .data⟩ (by simp) rfl
      obtain rfl : b8 = false := by cases b8 with | false => rfl | true => exact (i8 rfl).symm
      obtain rfl : b11 = false := by cases b11 with | false => rfl | true => exact (i11 rfl).symm
      have hq := hF.cell q2 trivial
      refine ⟨bcnt b0 + bcnt b1 + bcnt b2 + bcnt b3 + bcnt b4 + bcnt b5 + bcnt true + bcnt true + bcnt false + bcnt b9 + bcnt b10 + bcnt false, by have e0 : bcnt false = 1 := rfl; have e1 : bcnt true = 0 := rfl; omega, wpOp_step rfl fun K' hK => ?_⟩
      simp only [bsel]
      go_simp
      exact hK _ _ ⟨b0, b1, b2, b3, b4, b5, true, true, false, b9, b10, false, lb, ob, kb, rfl, rfl, i1, i2, i4, i5, fun _ => rfl, fun _ => rfl, i9, i10, by simp, rfl, hF, h2, h5, h8, d1, d2, d3⟩
    | 8, g0, o, ho, ha =>
      obtain rfl : b8 = false := g0
      cases ho
      obtain rfl : b7 = true := ha ⟨7, .data⟩ (by simp) rfl
      obtain rfl : b6 = true := i7 rfl
      obtain rfl : b11 = false := by cases b11 with | false => rfl | true => exact (i11 rfl).symm
      have hmk := madeS w7 K hKb
      refine ⟨bcnt b0 + bcnt b1 + bcnt b2 + bcnt b3 + bcnt b4 + bcnt b5 + bcnt true + bcnt true + bcnt true + bcnt b9 + bcnt b10 + bcnt false, by have e0 : bcnt false = 1 := rfl; have e1 : bcnt true = 0 := rfl; omega, wpOp_step rfl fun K' hK => ?_⟩
      simp only [bsel]
      go_simp
      have hFa : Fr w7 (w7.alloc (.cells (madeCells #[.string ⟨#[]⟩] K) 9)) (fun _ => True) := (Fr.refl w7 _).alloc _
      exact hK _ _ ⟨b0, b1, b2, b3, b4, b5, true, true, true, b9, b10, false, lb, ob, w7.heap.size, rfl, rfl, i1, i2, i4, i5, fun _ => rfl, fun _ => rfl, i9, i10, fun _ => rfl, rfl, hF.trans hFa, fun h => ⟨hFa.at (h2 h).1 trivial, (h2 h).2⟩, fun h => ⟨hFa.at (h5 h).1 trivial, (h5 h).2⟩, fun _ => ⟨heap_alloc_new w7 _, hF.size⟩, d1, fun h _ => by have := blk_lt (h2 h).1; omega, fun h _ => by have := blk_lt (h5 h).1; omega⟩
    | 9, g0, o, ho, ha =>
      obtain rfl : b9 = false := g0
      cases ho
      obtain rfl : b2 = true := ha ⟨2, .data⟩ (by simp) rfl
      obtain rfl : b1 = true := i2 rfl
      obtain rfl : b0 = true := i1 rfl
      refine ⟨bcnt true + bcnt true + bcnt true + bcnt b3 + bcnt b4 + bcnt b5 + bcnt b6 + bcnt b7 + bcnt b8 + bcnt true + bcnt b10 + bcnt b11, by have e0 : bcnt false = 1 := rfl; have e1 : bcnt true = 0 := rfl; omega, wpOp_step rfl fun K' hK => ?_⟩
      simp only [bsel]
      go_simp
      exact hK _ _ ⟨true, true, true, b3, b4, b5, b6, b7, b8, true, b10, b11, lb, ob, kb, rfl, rfl, fun _ => rfl, fun _ => rfl, i4, i5, i7, i8, fun _ => rfl, i10, i11, rfl, hF, h2, h5, h8, d1, d2, d3⟩
    | 10, g0, o, ho, ha =>
      obtain rfl : b10 = false := g0
      cases ho
      obtain rfl : b5 = true := ha ⟨5, .data⟩ (by simp) rfl
      obtain rfl : b4 = true := i5 rfl
      obtain rfl : b3 = true := i4 rfl
      refine ⟨bcnt b0 + bcnt b1 + bcnt b2 + bcnt true + bcnt true + bcnt true + bcnt b6 + bcnt b7 + bcnt b8 + bcnt b9 + bcnt true + bcnt b11, by have e0 : bcnt false = 1 := rfl; have e1 : bcnt true = 0 := rfl; omega, wpOp_step rfl fun K' hK => ?_⟩
      simp only [bsel]
      go_simp
      exact hK _ _ ⟨b0, b1, b2, true, true, true, b6, b7, b8, b9, true, b11, lb, ob, kb, rfl, rfl, i1, i2, fun _ => rfl, fun _ => rfl, i7, i8, i9, fun _ => rfl, i11, rfl, hF, h2, h5, h8, d1, d2, d3⟩
    | 11, g0, o, ho, ha =>
      obtain rfl : b11 = false := g0
      cases ho
      obtain rfl : b8 = true := ha ⟨8, .data⟩ (by simp) rfl
      obtain rfl : b7 = true := i8 rfl
      obtain rfl : b6 = true := i7 rfl
      refine ⟨bcnt b0 + bcnt b1 + bcnt b2 + bcnt b3 + bcnt b4 + bcnt b5 + bcnt true + bcnt true + bcnt true + bcnt b9 + bcnt b10 + bcnt true, by have e0 : bcnt false = 1 := rfl; have e1 : bcnt true = 0 := rfl; omega, wpOp_step rfl fun K' hK => ?_⟩
      simp only [bsel]
      go_simp
      exact hK _ _ ⟨b0, b1, b2, b3, b4, b5, true, true, true, b9, b10, true, lb, ob, kb, rfl, rfl, i1, i2, i4, i5, fun _ => rfl, fun _ => rfl, i9, i10, fun _ => rfl, rfl, hF, h2, h5, h8, d1, d2, d3⟩
    | k + 12, g0, o, ho, ha => exact absurd g0 (by simp)
end Go.Proofs.YtfboecnhakihnaaGreatDoor
