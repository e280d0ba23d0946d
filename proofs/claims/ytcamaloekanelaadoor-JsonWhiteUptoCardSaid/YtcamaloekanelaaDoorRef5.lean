/-
  The reference's reader: 'text', a string behind its first quote.
-/
import Derived.Test.YtcamaloekanelaaDoorRef4
namespace Go.Proofs.YtcamaloekanelaaDoor
open Go.RowKit

/-- What 'text' answers. -/
def TxtPost (w : World) (p : Nat) (s : ByteArray) (o : Option (Bs × Bs)) (e : Ending) (w' : World) : Prop :=
  match o with
  | some (t, r) => e = .returned (.string (str t)) ∧ RStep w p s r 0 w'
  | none => e = .returned (.string ⟨#[]⟩) ∧ ∃ ys, RStep w p s ys 4 w'
/-- What holds in its loop: it goes on; or it has failed. -/
def TRel (w : World) (p : Nat) (s : ByteArray) (R : Option (Bs × Bs)) (g : Nat) (v : Value) (wr : World) : Prop :=
  (∃ (f : Nat) (acc ys : Bs), ys.length = g ∧ ys.length < f ∧ qs f acc ys = R ∧ v = .string (str acc) ∧ acc.length + 4 * ys.length ≤ 120000 ∧ RStep w p s ys 0 wr) ∨
  (R = none ∧ (∃ t, v = .string t) ∧ ∃ ys, RStep w p s ys 4 wr)
theorem Gl.rstep {w w' : World} {p er : Nat} {s : ByteArray} {ys : Bs} (h : Gl w) (hp : 4 ≤ p) (hs : RStep w p s ys er w') : Gl w' := h.kept hs.2 (fun k e => by cases e; exact hp)
theorem str_cat (l : Bs) (t : ByteArray) : str l ++ t = str (l ++ t.data.toList) := by
  apply Go.WideShapes.bytes_inj
  rw [ByteArray.data_append]
  simp [str]
theorem str_size (l : Bs) : (str l).size = l.length := rfl
theorem str_nil : str [] = ⟨#[]⟩ := rfl

set_option maxHeartbeats 400000 in
set_option maxRecDepth 100000 in
/-- Behind a fault it reads no more. -/
theorem text_bad (p : Nat) (s : ByteArray) (xs : Bs) (er : Nat) (he : er ≠ 0) (w : World) (h : RRd w p s xs er) :
    Calls Tryd.prog 63 #[.pointer (some ⟨p, 0, none⟩)] w fun e w' => e = .returned (.string ⟨#[]⟩) ∧ w = w' := by
  obtain ⟨k, c0, c1, c2, f0, f1, f2, hat, hs⟩ := h.parts
  have hk : ((er : Int) == 0) = false := by simp; omega
  clear hat
  go_enter Tryd.func63, Tryd.ntmps63
  go_wp2
  go_loopg [3] 0 (fun g v wr => v = .string ⟨#[]⟩ ∧ w = wr)
  case atStart => exact ⟨rfl, rfl⟩
  case round =>
    obtain ⟨rfl, rfl⟩ := hrel
    go_wp2
    go_ret
    exact ⟨rfl, rfl⟩

set_option maxHeartbeats 2000000 in
set_option maxRecDepth 100000 in
theorem ref_text (p : Nat) (s : ByteArray) (xs : Bs) (w : World) (h : RRd w p s xs 0) (hG : Gl w) (hp4 : 4 ≤ p) :
    Calls Tryd.prog 63 #[.pointer (some ⟨p, 0, none⟩)] w (TxtPost w p s (qstr xs)) := by
  obtain ⟨k, c0, c1, c2, f0, f1, f2, ha, hs⟩ := h.parts
  have hplt := h.lt
  have hrl : xs.length ≤ 30000 := by have := ha.len; omega
  have hrel0 : TRel w p s (qstr xs) xs.length (.string ⟨#[]⟩) w := .inl ⟨xs.length + 1, [], xs, rfl, by omega, rfl, rfl, by simp; omega, RStep.refl h⟩
  generalize qstr xs = R at *
  clear ha
  go_enter Tryd.func63, Tryd.ntmps63
  go_wp2
  go_loopg [3] xs.length (fun g v wr => TRel w p s R g v wr)
  case atStart => exact hrel0
  case round =>
    clear hrel0
    rcases hrel with ⟨f, acc, ys, hg, hf, hR, rfl, hal, hst⟩ | ⟨hR, ⟨t, rfl⟩, ys, hst⟩
    · obtain ⟨k', c0', c1', c2', f0', f1', f2', ha', _⟩ := hst.1.parts
      have HG := Lib.hid hg
      have HR := Lib.hid hR
      clear hg hR
      cases ys with
      | nil =>
        have hk' : decide (s.size ≤ k') = true := by have := ha'.nil; simp; omega
        have hF := fun n => fail4N (wr.drewN n) (hst.1.drewN n)
        have HF := Lib.hid hF
        clear hF ha'
        go_wp2
        go_quiet (fail)
        go_wp2_with fail
        refine (HF.out _).mono ?_
        rintro e w1 ⟨rfl, hst1⟩
        go_wp2
        go_ret
        show TxtPost w p s R _ _
        rw [← HR.out, qs_nil]
        exact ⟨rfl, _, (hst.drewN _).of hst1⟩
      | cons d t =>
        obtain ⟨f', rfl⟩ : ∃ f', f = f' + 1 := ⟨f - 1, by omega⟩
        have hlt' := ha'.lt
        have hget' := ha'.get hlt'
        have hk' : decide (s.size ≤ k') = false := by simp; omega
        by_cases h32 : d.toNat < 32
        · have e32 : (d.toNat : Int) < 32 := by omega
          have hF := fun n => fail4N (wr.drewN n) (hst.1.drewN n)
          have HF := Lib.hid hF
          clear hF ha'
          go_wp2
          go_quiet (fail)
          go_wp2_with fail
          refine (HF.out _).mono ?_
          rintro e w1 ⟨rfl, hst1⟩
          go_wp2
          go_ret
          show TxtPost w p s R _ _
          rw [← HR.out, qs_low h32]
          exact ⟨rfl, _, (hst.drewN _).of hst1⟩
        · have e32 : 32 ≤ (d.toNat : Int) := by omega
          by_cases h34 : d.toNat = 34
          · have e34 : ((d.toNat : Int) == 34) = true := by simp only [beq_iff_eq]; omega
            have hst' := hst.set ha'.tail
            clear ha'
            go_wp2
            go_quiet (fail)
            go_wp2
            go_quiet (fail)
            go_wp2
            go_ret
            show TxtPost w p s R _ _
            rw [← HR.out, qs_quote h34]
            exact ⟨rfl, (hst'.drewN _)⟩
          · have e34 : ((d.toNat : Int) == 34) = false := by simp only [beq_eq_false_iff_ne, ne_eq]; omega
            by_cases h92 : d.toNat = 92
            · have e92 : ((d.toNat : Int) == 92) = true := by simp only [beq_iff_eq]; omega
              have hst' := hst.set ha'.tail
              have hesc : ∀ W, RRd W p s t 0 → _ := fun W hW => ref_escaped p s t W hW
              have HE := Lib.hid hesc
              have hfact : ∀ u r', escM t = some (u, r') → _ := fun u r' => escM_fact
              rw [qs_esc h92] at HR
              have hsz : (str acc).size ≤ 120000 := by rw [str_size]; omega
              clear hesc ha' h34 h92
              cases ho : escM t with
              | none =>
                rw [ho] at HR HE
                have s0 : ¬ (9223372036854775807 < (str acc).size + 0) := by omega
                have s1 : ¬ (9223372036854775807 < (str acc).size) := by omega
                clear hfact ho
                go_wp2
                go_quiet (fail)
                go_wp2
                go_quiet (fail)
                go_wp2_with fail
                generalize hW : (wr.drewN _).setCell _ _ = W1
                have hst2 : RStep w p s t 0 W1 := by rw [← hW]; exact hst'.drewN _
                clear hW
                refine (HE.out _ hst2.1).mono ?_
                rintro e w1 ⟨rfl, ys, hst3⟩
                go_wp2
                go_roundg 0
                case measure => have := HG.out; simp only [List.length_cons] at this; omega
                case rel => exact .inr ⟨HR.out.symm, ⟨_, rfl⟩, ys, hst2.of hst3⟩
              | some ur =>
                obtain ⟨u, r'⟩ := ur
                obtain ⟨hl1, hu0, hu1⟩ := hfact u r' ho
                rw [ho] at HR HE
                have hen := enc_len u
                have s1 : ¬ (9223372036854775807 < (str acc).size + (str (Lib.encodeRune u)).size) := by rw [str_size (Lib.encodeRune u)]; omega
                clear hfact ho
                go_wp2
                go_quiet (fail)
                go_wp2
                go_quiet (fail)
                go_wp2_with fail
                generalize hW : (wr.drewN _).setCell _ _ = W1
                have hst2 : RStep w p s t 0 W1 := by rw [← hW]; exact hst'.drewN _
                clear hW
                refine (HE.out _ hst2.1).mono ?_
                rintro e w1 ⟨rfl, hst3⟩
                go_wp2
                go_roundg r'.length
                case measure => have := HG.out; simp only [List.length_cons] at this; omega
                case rel => exact .inl ⟨f', acc ++ Lib.encodeRune u, r', rfl, by simp only [List.length_cons] at hf; omega, HR.out, by rw [str_cat]; rfl, by simp only [List.length_append, List.length_cons] at hal ⊢; omega, hst2.of hst3⟩
            · have e92 : ((d.toNat : Int) == 92) = false := by simp only [beq_eq_false_iff_ne, ne_eq]; omega
              go_wp2
              go_quiet (fail)
              go_wp2
              go_quiet (fail)
              go_wp2
              generalize hW : wr.drewN _ = w1
              have hst1 : RStep w p s (d :: t) 0 w1 := by rw [← hW]; exact hst.drewN _
              clear hW hst c0' c1' c2' f0' f1' f2' ha' hget' hk' hlt'
              obtain ⟨k1, c0', c1', c2', f0', f1', f2', ha', _⟩ := hst1.1.parts
              have hk1 : k1 ≤ s.size := ha'.le
              have hrest : s.extract k1 s.size = str (d :: t) := ba_ext ha'.rest
              have HRe := Lib.hid hrest
              clear hrest ha'
              obtain ⟨hd1, hd2, hd3⟩ := dec_fact (c := d) (r := t)
              have hdec : ∀ w2, Gl w2 → _ := fun w2 hg => Tryd.utf8_DecodeRuneInString (str (d :: t)) w2 hg.u8
              have hbad := qs_bad (f := f') (acc := acc) (r := t) h34 h92 h32
              have hgo := qs_go (f := f') (acc := acc) (r := t) h34 h92 h32
              change ∀ w2, Gl w2 → Calls Tryd.prog 78 #[.string (str (d :: t))] w2 fun e w' => e = .returned (.tuple #[.int .i32 (Lib.decodeGoB (str (d :: t))).1, .int .i64 (Lib.decodeGoB (str (d :: t))).2]) ∧ Below w2.heap.size w2 w' at hdec
              generalize (Lib.decodeGoB (str (d :: t))).1 = D1 at *
              generalize (Lib.decodeGoB (str (d :: t))).2 = D2 at *
              have hG1 : Gl w1.drew := (hG.rstep hp4 hst1).drewN 1
              have hdecw := hdec _ hG1
              rw [← HRe.out] at hdecw
              have HDec := Lib.hid hdecw
              have HB := Lib.hid hbad
              have HGo := Lib.hid hgo
              clear hdec hbad hgo hdecw
              have hpl : p < w1.heap.size := hst1.1.lt
              go_region_held3 (fun w' => w'.cell? ⟨p, 0, none⟩ = some (.string s) ∧ w'.cell? ⟨p, 1, none⟩ = some (.int .i64 k1)) (first | exact ⟨c0', c1'⟩ | exact ⟨c03, c13⟩) (first
                | (go_at_call 78; refine HDec.out.mono ?_; rintro e w3 ⟨rfl, hb3⟩; have c03 : w3.cell? ⟨p, 0, none⟩ = some (.string s) := (hb3.cell (p := ⟨p, 0, none⟩) hpl).trans c0'; have c13 : w3.cell? ⟨p, 1, none⟩ = some (.int .i64 k1) := (hb3.cell (p := ⟨p, 1, none⟩) hpl).trans c1'))
              have hgr3 : w1.grownBy w3 (some p) := gtrans (gdrewN (grefl w1 _) 1) (new_grown hb3 _)
              have hst3 : RStep w p s (d :: t) 0 w3 := ⟨hst1.1.kept (gtrans (gdrewN (grefl w1 _) 1) (new_grown hb3 none)) (by simp), gtrans hst1.2 hgr3⟩
              clear hgr3 hb3 hst1 HDec hG1 hpl c0' c1' c2' f0' f1' f2' c03 HRe hk1
              obtain ⟨k3, c0', c1', c2', f0', f1', f2', ha', _⟩ := hst3.1.parts
              have hkk : (k1 : Int) = (k3 : Int) := by have := c13.symm.trans c1'; simpa using this
              obtain rfl : k1 = k3 := by omega
              clear hkk c13
              have hk1 : k1 < s.size := ha'.lt
              have hl3 := ha'.len
              by_cases hbd : D1 = 65533 ∧ D2 = 1
              · have b1 : ((D1 : Int) == 65533) = true := by simp only [beq_iff_eq]; omega
                have b2 : (D2 : Int) < 2 := by omega
                have HN := Lib.hid (HB.out hbd)
                have HF := Lib.hid (fail4N w3 hst3.1)
                clear hbd HB HGo ha' hl3
                go_wp2_with fail
                refine HF.out.mono ?_
                rintro e w4 ⟨rfl, hst4⟩
                go_wp2
                go_ret
                show TxtPost w p s R _ _
                rw [← HR.out, HN.out]
                exact ⟨rfl, _, hst3.of hst4⟩
              · have HN := Lib.hid (HGo.out hbd)
                have hb' : ((D1 : Int) == 65533) = false ∨ (((D1 : Int) == 65533) = true ∧ 2 ≤ (D2 : Int)) := by
                  simp only [beq_iff_eq, beq_eq_false_iff_ne, ne_eq]; omega
                clear hbd HB HGo
                have hat3 := ha'.drop D2 hd2
                have hpiece : (s.extract k1 (k1 + D2)).data.toList = (d :: t).take D2 := by
                  rw [ext_list, List.drop_take, ha'.eq, Nat.add_sub_cancel_left]
                have hpsz : (s.extract k1 (k1 + D2)).size = D2 := by rw [size_len, hpiece, List.length_take]; omega
                have hle : k1 + D2 ≤ s.size := hat3.le
                have hst4 := hst3.set hat3
                have hsz : (str acc).size ≤ 120000 := by rw [str_size]; omega
                have s1 : ¬ (9223372036854775807 < (str acc).size + (s.extract k1 (k1 + D2)).size) := by omega
                have HPi := Lib.hid hpiece
                have htl : ((d :: t).take D2).length ≤ D2 := by rw [List.length_take]; omega
                have hdl : ((d :: t).drop D2).length = (d :: t).length - D2 := List.length_drop
                have HTL := Lib.hid htl
                have HDL := Lib.hid hdl
                clear ha' hl3 hpiece hpsz htl hdl hat3
                rcases hb' with b1 | ⟨b1, b2⟩
                all_goals
                  go_wp2
                  have e1 : IntKind.i64.wrap ((k1 : Int) + (D2 : Int)) = (k1 : Int) + (D2 : Int) := IntWalk.i64_in _ (by omega)
                  have e2 : ((k1 : Int) + (D2 : Int)).toNat = k1 + D2 := by omega
                  have e3 : (0 : Int) ≤ (k1 : Int) + (D2 : Int) := by omega
                  have e4 : (k1 : Int) ≤ (k1 : Int) + (D2 : Int) := by omega
                  have e5 : (k1 : Int) + (D2 : Int) ≤ (s.size : Int) := by omega
                  have e6 : k1 ≤ k1 + D2 := by omega
                  go_quiet (fail)
                  clear e1 e2 e3 e4 e5 e6
                  go_wp2
                  go_roundg ((d :: t).drop D2).length
                  case measure => have := HG.out; rw [HDL.out]; simp only [List.length_cons] at this ⊢; omega
                  case rel => exact .inl ⟨f', acc ++ (d :: t).take D2, (d :: t).drop D2, rfl, by rw [HDL.out]; simp only [List.length_cons] at hf ⊢; omega, by rw [← HN.out]; exact HR.out, by rw [str_cat, HPi.out], by rw [HDL.out, List.length_append]; have := HTL.out; simp only [List.length_cons] at hal hd2 ⊢; omega, hst4.drewN _⟩
    · obtain ⟨k', c0', c1', c2', f0', f1', f2', ha', _⟩ := hst.1.parts
      have HR := Lib.hid hR
      clear hR ha'
      go_wp2
      go_ret
      show TxtPost w p s R _ _
      rw [HR.out]
      exact ⟨rfl, _, hst⟩
end Go.Proofs.YtcamaloekanelaaDoor
