/-
  'resolve.sources': where the fields of a record are read from.
-/
import Derived.Test.YtcmillbjpplfjaaGreatDoorRmd
import Derived.Test.YtcmillbjpplfjaaGreatDoorZib
namespace Go.Proofs.YtcmillbjpplfjaaGreatDoor
open Go.RowKit

theorem own_ints {wr : World} {base : Nat} {e : TypeId} {v : Value} {xs : List Int} {n : Nat} (hn : xs.length = n) (hs : ∀ x, x ∈ xs → (Lit.int .i64 x).wf = true) (h : wr.ownsRow base e 1 v n (xs.map (Value.int .i64))) : IntsAt wr (fun b => base ≤ b) xs v := by
  subst hn
  obtain ⟨A, cap, rfl, h1, h2, h3⟩ := own_open1 h
  exact ⟨A, cap, rfl, h1, h2, hs, fun hp => by
    obtain ⟨g, e, hb, hc⟩ := h3 hp
    exact ⟨g, 0, e, hb, fun i x hx => by rw [Nat.zero_add]; exact hc i _ (by rw [List.getElem?_map, hx]; rfl)⟩⟩
theorem one_ints (xs : List Int) : ∀ u ∈ xs.map (Value.int .i64), u.oneCell' = true := by
  intro u hu
  obtain ⟨s, _, rfl⟩ := List.mem_map.1 hu
  rfl
theorem ints_mono {w : World} {ok ok' : Nat → Prop} {xs : List Int} {v : Value} (h : IntsAt w ok xs v) (hk : ∀ b, ok b → ok' b) : IntsAt w ok' xs v := by
  obtain ⟨A, cap, e, h1, h2, h3, h4⟩ := h
  exact ⟨A, cap, e, h1, h2, h3, fun hp => by obtain ⟨g, off, e, hg, hc⟩ := h4 hp; exact ⟨g, off, e, hk g hg, hc⟩⟩
/-- What 'sources' answers. -/
def SrcP (w : World) (xs : List Int) (e : Ending) (w' : World) : Prop := ∃ v, e = .returned v ∧ IntsAt w' (fun b => w.heap.size ≤ b) xs v ∧ Below w.heap.size w w'
theorem info3 : (Tryz.prog.info? 3).map (fun i => (i.zero, i.size, i.bytes)) = some (some (.int .i64 0), 1, 8) := by kernel_rfl
theorem srcM_at {ws fs : List Fd} {k : Nat} {f : Fd} (hf : fs[k]? = some f) : srcM ws (fs.drop k) = if fieldL ws (f.name :: f.al) ≠ -1 then fieldL ws (f.name :: f.al) :: srcM ws (fs.drop (k + 1)) else if f.has = true then -1 :: srcM ws (fs.drop (k + 1)) else [] := by
  have hk := (List.getElem?_eq_some_iff.1 hf).1
  have he := (List.getElem?_eq_some_iff.1 hf).2
  rw [List.drop_eq_getElem_cons hk, he, srcM]
theorem int_cell (w : World) (x : Int) (e : TypeId) : (w.alloc (.cells #[.int .i64 x] e)).cell? ⟨w.heap.size, 0, none⟩ = some (.int .i64 x) := cell_of_row _ _ 0 _ _ _ (new_at rfl _)
theorem one_src (w : World) (x : Int) (e : TypeId) : 0 < 1 → ∃ b off, some (⟨w.heap.size, 0, none⟩ : Addr) = some ⟨b, off, none⟩ ∧ ∀ j u, [Value.int .i64 x][j]? = some u → (w.alloc (.cells #[.int .i64 x] e)).cell? ⟨b, off + j, none⟩ = some u := fun _ =>
  ⟨w.heap.size, 0, rfl, fun j u hu => by
    match j, hu with
    | 0, hu => cases hu; exact int_cell w x e⟩
set_option maxRecDepth 100000 in
set_option maxHeartbeats 4000000 in
theorem sources_any (n m : Nd) (c d : Nat → Value) (w : World) (ok ok' : Nat → Prop) (hn : NdIn w ok n c) (hm : NdIn w ok' m d) (hal : ∀ f, f ∈ m.fs → f.al.length ≤ 100) (hl : m.fs.length ≤ 1000000) (hl2 : n.fs.length ≤ 1000000000) :
    Calls Tryz.prog 87 #[ndv c, ndv d] w (SrcP w (srcM n.fs m.fs)) := by
  obtain ⟨i0, hi, hz0, hz1, hz2⟩ := info_parts info3
  have hb0 := two_below w c d
  have h1 := two_fst w c d
  have h2 := two_snd w c d
  have hfs : RowsAt 5 (FdIn (two w c d) ok') (two w c d) ok' m.fs (d 3) := RowsAt.fr (ok' := fun _ => True) (below_fr0 hb0) (fun _ _ => trivial) (fun _ _ h => h.fr (ok' := fun _ => True) (below_fr0 hb0) (fun _ _ => trivial)) hm.fs
  have hN : ∀ (W : World) (f : Fd) (e : Nat → Value), Fr (two w c d) W (fun _ => True) → FdIn W ok' f e → f.al.length ≤ 100 → Calls Tryz.prog 124 #[ndv c, fdv e] W fun x w' => x = .returned (.int .i64 (fieldL n.fs (f.name :: f.al))) ∧ Below W.heap.size W w' :=
    fun W f e hW hf hl => field_any n f c e W ok ok' (hn.fr (ok' := fun _ => True) ((below_fr0 hb0).trans hW) (fun _ _ => trivial)) hf hl
  have HN := Lib.hid hN
  have p3 := (cells_10 h2).2.2.2.1
  have HL2 := Lib.hid hl2
  rw [ndv] at HN
  obtain ⟨A, cap, ce, e3, hlc, hcm, hcc, hone⟩ := hfs
  have q3 : (two w c d).cell? ⟨w.heap.size + 1, 3, none⟩ = some (.slice A m.fs.length cap) := by rw [← e3]; exact p3
  unfold maxLen at hcm
  have HCC := Lib.hid hcc
  have HONE := Lib.hid hone
  have HAL := Lib.hid hal
  have HB0 := Lib.hid hb0
  have H1 := Lib.hid h1
  clear hn hm hb0 hcc hone hN e3 h1 h2 p3 hal hl2
  obtain ⟨ws, hws⟩ : ∃ ws, n.fs = ws := ⟨_, rfl⟩
  obtain ⟨fs, hfs⟩ : ∃ fs, m.fs = fs := ⟨_, rfl⟩
  rw [hws] at HN HL2 ⊢
  rw [hfs] at HCC HONE HAL q3 hlc hl ⊢
  clear hws hfs
  go_enter Tryz.func87, Tryz.ntmps87
  go_upto_region 1 with fail
  change Code.wp _ _ _ _ (two w _ _)
  generalize two w c d = W0 at *
  have r0 := cells_10 H1.out
  obtain ⟨p0, p1, p2, p3, p4, p5, p6, p7, p8, p9⟩ := r0
  generalize c 0 = c0 at *
  generalize c 1 = c1 at *
  generalize c 2 = c2 at *
  generalize c 3 = c3 at *
  generalize c 4 = c4 at *
  generalize c 5 = c5 at *
  generalize c 6 = c6 at *
  generalize c 7 = c7 at *
  generalize c 8 = c8 at *
  generalize c 9 = c9 at *
  have P := Lib.hid (show ∀ W, Fr W0 W (fun _ => True) → W.cell? ⟨w.heap.size, 0, none⟩ = some c0 ∧ W.cell? ⟨w.heap.size, 1, none⟩ = some c1 ∧ W.cell? ⟨w.heap.size, 2, none⟩ = some c2 ∧ W.cell? ⟨w.heap.size, 3, none⟩ = some c3 ∧ W.cell? ⟨w.heap.size, 4, none⟩ = some c4 ∧ W.cell? ⟨w.heap.size, 5, none⟩ = some c5 ∧ W.cell? ⟨w.heap.size, 6, none⟩ = some c6 ∧ W.cell? ⟨w.heap.size, 7, none⟩ = some c7 ∧ W.cell? ⟨w.heap.size, 8, none⟩ = some c8 ∧ W.cell? ⟨w.heap.size, 9, none⟩ = some c9 from
    fun W h => ⟨h.cell p0 trivial, h.cell p1 trivial, h.cell p2 trivial, h.cell p3 trivial, h.cell p4 trivial, h.cell p5 trivial, h.cell p6 trivial, h.cell p7 trivial, h.cell p8 trivial, h.cell p9 trivial⟩)
  clear p0 p1 p2 p3 p4 p5 p6 p7 p8 p9
  have hB2 : Hid (W0.heap.size = W0.heap.size) := rfl
  obtain ⟨B, hBe⟩ : ∃ B, W0.heap.size = B := ⟨_, rfl⟩
  have HBE := Lib.hid hBe
  clear hBe hB2
  go_step3
  go_wp2
  go_step3
  go_wp2
  go_loopg [5, 12] fs.length (fun g out i wr => ∃ (k : Nat) (L : List Int), k + g = fs.length ∧ i = .int .i64 (k : Int) ∧ Hid (L.length = k) ∧ Hid (srcM ws fs = L ++ srcM ws (fs.drop k)) ∧ wr.ownsRow B 3 1 out k (L.map (Value.int .i64)) ∧ Fr W0 wr (fun _ => True) ∧ Below B W0 wr)
  case atStart => exact ⟨0, [], by omega, rfl, rfl, Lib.hid rfl, World.ownsRow_nil _ _ _ _, Fr.refl _ _, Below.refl _ _⟩
  case round =>
    obtain ⟨k, L, hg, rfl, HLL, HS, hown, hfr, hbw⟩ := hrel
    have HG := Lib.hid hg
    have HO := Lib.hid hown
    have HF := Lib.hid hfr
    have HBW := Lib.hid hbw
    clear hg hown hbw
    by_cases hlt : k < fs.length
    · obtain ⟨f, hfk⟩ : ∃ f, fs[k]? = some f := ⟨_, List.getElem?_eq_getElem hlt⟩
      obtain ⟨g, off, rfl, _, hcc⟩ := HCC.out (by omega)
      have hF := HONE.out k f hfk
      have z0 := hfr.cell (hcc k 0 hlt (by omega)) trivial
      have z1 := hfr.cell (hcc k 1 hlt (by omega)) trivial
      have z2 := hfr.cell (hcc k 2 hlt (by omega)) trivial
      have z3 := hfr.cell (hcc k 3 hlt (by omega)) trivial
      have z4 := hfr.cell (hcc k 4 hlt (by omega)) trivial
      rw [show off + (5 * k + 0) = off + k * 5 by omega] at z0
      rw [show off + (5 * k + 1) = off + k * 5 + 1 by omega] at z1
      rw [show off + (5 * k + 2) = off + k * 5 + 2 by omega] at z2
      rw [show off + (5 * k + 3) = off + k * 5 + 3 by omega] at z3
      rw [show off + (5 * k + 4) = off + k * 5 + 4 by omega] at z4
      have hal := HAL.out f (List.mem_of_getElem? hfk)
      have hcall := fun (W : World) (hW : Fr W0 W (fun _ => True)) => HN.out W f (ce k) hW (hF.fr hW (fun _ _ => trivial)) hal
      obtain ⟨A1, cap1, eal, _⟩ := hF.al
      rw [hF.name] at z0
      rw [eal] at z1
      rw [hF.ty] at z2
      rw [hF.has] at z3
      rw [hF.dflt] at z4
      simp only [fdv, hF.name, eal, hF.ty, hF.has, hF.dflt] at hcall
      have HFK := Lib.hid hfk
      have HC := Lib.hid hcall
      clear hcc hF hal hcall hfk hfr
      go_upto_region 5 with fail
      have hfa : Fr W0 (wr.alloc (.cells #[.string f.name, .slice A1 f.al.length cap1, .int .i64 f.ty, .bool f.has, .string f.dflt] 57)) (fun _ => True) := HF.out.trans (fr_all wr _)
      obtain ⟨p0, p1, p2, p3, p4, p5, p6, p7, p8, p9⟩ := P.out _ hfa
      have x3 : (wr.alloc (.cells #[.string f.name, .slice A1 f.al.length cap1, .int .i64 f.ty, .bool f.has, .string f.dflt] 57)).heap[wr.heap.size]? = some (.cells #[.string f.name, .slice A1 f.al.length cap1, .int .i64 f.ty, .bool f.has, .string f.dflt] 57 (0, 0)) := new_at rfl _
      have hcl := HC.out _ hfa
      obtain ⟨R, hR⟩ : ∃ R, fieldL ws (f.name :: f.al) = R := ⟨_, rfl⟩
      have hbd := fieldL_bd ws (f.name :: f.al)
      rw [hR] at hcl hbd
      have HR := Lib.hid hR
      have HBD := Lib.hid hbd
      clear hR hbd
      go_wp2_with fail
      refine hcl.mono ?_
      rintro e w2 ⟨rfl, hb2⟩
      have hbw2 : Below B W0 w2 := (HBW.out.alloc (by have := HBW.out.size; have := HBE.out; omega) _).trans (hb2.mono (by have := HBW.out.size; have := HBE.out; simp; omega))
      have ho2 := ownsRow_fr (HO.out.alloc (.cells #[.string f.name, .slice A1 f.al.length cap1, .int .i64 f.ty, .bool f.has, .string f.dflt] 57)) (below_fr0 hb2) (fun _ _ => trivial)
      have y3 := cell_of_row _ _ 3 _ _ _ ((below_fr0 hb2).at x3 trivial)
      have HO2 := Lib.hid ho2
      have HBW2 := Lib.hid hbw2
      clear hcl hb2 hbw2 ho2 x3 hfa p0 p1 p2 p3 p4 p5 p6 p7 p8 p9 z0 z1 z2 z3 z4
      by_cases hn1 : R = -1
      · subst hn1
        cases hfh : f.has with
        | true =>
          have HFH := Lib.hid hfh
          rw [show #[Value.string f.name, .slice A1 f.al.length cap1, .int .i64 f.ty, .bool f.has, .string f.dflt][3]? = some (.bool f.has) from rfl, hfh] at y3
          clear hfh
          go_wp2_with (at_builtin; refine wpList_append_src _ rfl _ _ _ rfl B 3 i0 (.int .i64 0) 8 Tryz.underlying48 hi hz0 hz1 hz2 rfl _ k (L.map (Value.int .i64)) rfl (HO2.out.alloc _) (some ⟨w2.heap.size, 0, none⟩) 1 1 [.int .i64 (-1)] rfl rfl (one_src w2 (-1) 3) (by simp [Value.oneCell']) (by unfold maxLen; omega) (by omega) (by have := HBW2.out.size; have := HBE.out; simp; omega) ?_; intro v' w3 hown3 hg3 hv3)
          have hb3 : Below B W0 w3 := (HBW2.out.alloc (by have := HBW2.out.size; have := HBE.out; omega) _).trans (gset_below hg3 (fun r e => own_below HO2.out (Nat.le_refl _) r e) (by have := HBW2.out.size; have := HBE.out; simp; omega))
          have HO3 := Lib.hid hown3
          have HB3 := Lib.hid hb3
          clear hown3 hg3 hv3 hb3
          go_wp2
          go_roundg (fs.length - (k + 1))
          case measure => have := HG.out; omega
          case rel => exact ⟨k + 1, L ++ [-1], by omega, by go_num, by show (L ++ [-1]).length = k + 1; rw [List.length_append, HLL.out]; rfl, Lib.hid (by rw [HS.out, srcM_at HFK.out, if_neg (by rw [HR.out]; simp), if_pos HFH.out, List.append_assoc]; rfl), by have := HO3.out; rwa [List.map_append], below_fr0 (by have := HB3.out; rw [← HBE.out] at this; exact this), HB3.out⟩
        | false =>
          have HFH := Lib.hid hfh
          rw [show #[Value.string f.name, .slice A1 f.al.length cap1, .int .i64 f.ty, .bool f.has, .string f.dflt][3]? = some (.bool f.has) from rfl, hfh] at y3
          clear hfh
          have hS : Hid (srcM ws fs = L) := Lib.hid (by rw [HS.out, srcM_at HFK.out, if_neg (by rw [HR.out]; simp), if_neg (by rw [HFH.out]; simp), List.append_nil])
          have hwf : Hid (∀ x, x ∈ L → (Lit.int .i64 x).wf = true) := Lib.hid (fun x hx => by
            have := srcM_bd ws fs x (by rw [hS.out]; exact hx)
            have h2 := HL2.out
            exact wf_i64 (by omega) (by omega))
          go_wp2
          rw [Exit.noGoto_ret]
          go_ret
          refine ⟨_, rfl, ?_, HB0.out.trans (HBW2.out.mono (by have := HBE.out; have := HB0.out.size; omega))⟩
          rw [hS.out]
          exact ints_mono (own_ints HLL.out hwf.out HO2.out) (fun b hb => by have := HBE.out; have := HB0.out.size; omega)
      · have HN1 := Lib.hid hn1
        go_wp2_with (at_builtin; refine wpList_append_src _ rfl _ _ _ rfl B 3 i0 (.int .i64 0) 8 Tryz.underlying48 hi hz0 hz1 hz2 rfl _ k (L.map (Value.int .i64)) rfl (HO2.out.alloc _) (some ⟨w2.heap.size, 0, none⟩) 1 1 [.int .i64 R] rfl rfl (one_src w2 R 3) (by simp [Value.oneCell']) (by unfold maxLen; omega) (by omega) (by have := HBW2.out.size; have := HBE.out; simp; omega) ?_; intro v' w3 hown3 hg3 hv3)
        have hb3 : Below B W0 w3 := (HBW2.out.alloc (by have := HBW2.out.size; have := HBE.out; omega) _).trans (gset_below hg3 (fun r e => own_below HO2.out (Nat.le_refl _) r e) (by have := HBW2.out.size; have := HBE.out; simp; omega))
        have HO3 := Lib.hid hown3
        have HB3 := Lib.hid hb3
        clear hown3 hg3 hv3 hb3
        go_wp2
        go_roundg (fs.length - (k + 1))
        case measure => have := HG.out; omega
        case rel => exact ⟨k + 1, L ++ [R], by omega, by go_num, by show (L ++ [R]).length = k + 1; rw [List.length_append, HLL.out]; rfl, Lib.hid (by rw [HS.out, srcM_at HFK.out, if_pos (by rw [HR.out]; exact HN1.out), HR.out, List.append_assoc]; rfl), by have := HO3.out; rwa [List.map_append], below_fr0 (by have := HB3.out; rw [← HBE.out] at this; exact this), HB3.out⟩
    · have hk : k = fs.length := by have := HG.out; omega
      have HK := Lib.hid hk
      clear hk hfr
      go_wp2
      rw [Exit.noGoto_ret]
      go_ret
      have hS : Hid (srcM ws fs = L) := Lib.hid (by rw [HS.out, HK.out, List.drop_of_length_le (Nat.le_refl _), srcM, List.append_nil])
      have hwf : Hid (∀ x, x ∈ L → (Lit.int .i64 x).wf = true) := Lib.hid (fun x hx => by
        have := srcM_bd ws fs x (by rw [hS.out]; exact hx)
        have h2 := HL2.out
        exact wf_i64 (by omega) (by omega))
      refine ⟨_, rfl, ?_, HB0.out.trans (HBW.out.mono (by have := HBE.out; have := HB0.out.size; omega))⟩
      rw [hS.out]
      exact ints_mono (own_ints HLL.out hwf.out HO.out) (fun b hb => by have := HBE.out; have := HB0.out.size; omega)
end Go.Proofs.YtcmillbjpplfjaaGreatDoor
