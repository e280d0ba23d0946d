/-
  The parser's 'quoted': a string between its quotes.
-/
import Derived.Test.YtfboecnhakihnaaGreatDoorJEsc
import Derived.Lib.QuoteLoop
import Derived.Lib.AppendStr
import Derived.StillTailTactics
import Derived.Laws.IdiomStrings
import Derived.IntWalk
import Derived.Deep.RegionHeld3
namespace Go.Proofs.YtfboecnhakihnaaGreatDoor.js
open Go.RowKit

-- plain facts
theorem hex4_len {xs r : Bs} {v : Nat} (h : hex4 xs = some (v, r)) : r.length + 4 = xs.length := by
  match xs, h with
  | a :: b :: c :: d :: t, h =>
    rw [hexAll4] at h
    cases ho : hexAll 0 [a, b, c, d] with
    | none => rw [ho] at h; cases h
    | some n => rw [ho] at h; cases h; simp
  | [], h | [_], h | [_, _], h | [_, _, _], h => cases h
theorem codedM_fact {xs r : Bs} {u : Int} (h : codedM xs = some (u, r)) : r.length + 4 ≤ xs.length ∧ 0 ≤ u ∧ u ≤ 1114111 := by
  unfold codedM at h
  cases h4 : hex4 xs with
  | none => rw [h4] at h; cases h
  | some vr =>
    obtain ⟨v, t⟩ := vr
    have hl := hex4_len h4
    have hv := hex4_lt h4
    rw [h4] at h
    simp only at h
    split at h
    · cases h; omega
    · split at h
      · cases h
      · match t, h with
        | a :: b :: r', h =>
          simp only at h
          split at h
          · cases h5 : hex4 r' with
            | none => rw [h5] at h; cases h
            | some ur =>
              obtain ⟨u', t'⟩ := ur
              have hl' := hex4_len h5
              have hu' := hex4_lt h5
              rw [h5] at h
              simp only at h
              split at h
              · cases h
                simp only [List.length_cons] at hl
                omega
              · cases h
          · cases h
        | [], h | [_], h => cases h
theorem escC_le {c : UInt8} {b : Nat} (h : escC c = some b) : b ≤ 127 := by
  unfold escC at h
  repeat' split at h
  all_goals first | (cases h; omega) | cases h
theorem escM_fact {xs r : Bs} {u : Int} (h : escM xs = some (u, r)) : r.length + 1 ≤ xs.length ∧ 0 ≤ u ∧ u ≤ 1114111 := by
  cases xs with
  | nil => cases h
  | cons c t =>
    by_cases hc : c.toNat = 117
    · rw [escM_u hc] at h
      have := codedM_fact h
      simp only [List.length_cons]
      omega
    · rw [escM_other hc] at h
      cases he : escC c with
      | none => rw [he] at h; cases h
      | some b =>
        rw [he] at h
        cases h
        have := escC_le he
        simp only [List.length_cons]
        omega
theorem enc_len (u : Int) : (Lib.encodeRune u).length ≤ 4 := by
  unfold Lib.encodeRune Lib.encodeRuneZ
  rw [List.length_map]
  repeat' split
  all_goals simp
theorem dec_fact {c : UInt8} {r : Bs} : 1 ≤ (Lib.decodeGoB (str (c :: r))).2 ∧ (Lib.decodeGoB (str (c :: r))).2 ≤ (c :: r).length ∧ (Lib.decodeGoB (str (c :: r))).1 ≤ 1114111 := by
  have hs : (str (c :: r)).size = (c :: r).length := by rw [size_len]; rfl
  have h0 : (str (c :: r)).size ≠ 0 := by rw [hs]; simp
  unfold Lib.decodeGoB
  rw [if_neg h0]
  exact ⟨Lib.width_pos _ _, by rw [← hs]; exact Lib.width_le _ (by omega), Lib.rune_le _ _⟩
theorem qs_nil (f : Nat) (acc : Bs) : qs f acc [] = none := by cases f <;> rfl
theorem qs_quote {f : Nat} {acc r : Bs} {c : UInt8} (h : c.toNat = 34) : qs (f + 1) acc (c :: r) = some (acc, r) := by rw [qs, if_pos h]
theorem qs_esc {f : Nat} {acc r : Bs} {c : UInt8} (h : c.toNat = 92) : qs (f + 1) acc (c :: r) = match escM r with | none => none | some (u, r') => qs f (acc ++ Lib.encodeRune u) r' := by
  rw [qs, if_neg (by omega), if_pos h]; rfl
theorem qs_low {f : Nat} {acc r : Bs} {c : UInt8} (h : c.toNat < 32) : qs (f + 1) acc (c :: r) = none := by rw [qs, if_neg (by omega), if_neg (by omega), if_pos h]
theorem qs_bad {f : Nat} {acc r : Bs} {c : UInt8} (h1 : c.toNat ≠ 34) (h2 : c.toNat ≠ 92) (h3 : ¬ c.toNat < 32) (h : (Lib.decodeGoB (str (c :: r))).1 = 65533 ∧ (Lib.decodeGoB (str (c :: r))).2 = 1) : qs (f + 1) acc (c :: r) = none := by
  rw [qs, if_neg h1, if_neg h2, if_neg h3, if_pos h]
theorem qs_go {f : Nat} {acc r : Bs} {c : UInt8} (h1 : c.toNat ≠ 34) (h2 : c.toNat ≠ 92) (h3 : ¬ c.toNat < 32) (h : ¬ ((Lib.decodeGoB (str (c :: r))).1 = 65533 ∧ (Lib.decodeGoB (str (c :: r))).2 = 1)) :
    qs (f + 1) acc (c :: r) = qs f (acc ++ (c :: r).take (Lib.decodeGoB (str (c :: r))).2) ((c :: r).drop (Lib.decodeGoB (str (c :: r))).2) := by
  rw [qs, if_neg h1, if_neg h2, if_neg h3, if_neg h]

theorem Tryz.info5 : (Tryz.prog.info? 5).map (fun i => (i.zero, i.size, i.bytes)) = some (some (.int .u8 0), 1, 1) := by kernel_rfl
/-- 'string(out)' of a row of one's own. -/
theorem run_string_own {w : World} {B n : Nat} {v : Value} {l : Bs} (h : w.ownsRow B 5 1 v n (Lib.byteCells l)) : (convert 25 9 v).run Tryz.prog w = .ok (.string (str l)) w := by
  have hl : l.length = n := by have := h.1; rw [Lib.byteCells_length] at this; omega
  rcases h.2 with ⟨rfl, h0⟩ | ⟨g, cap, cur, rfl, _, hg, hnc, hcm, hcs, htake⟩
  · subst h0
    have : l = [] := List.eq_nil_of_length_eq_zero hl
    subst this
    exact run_convert_bytes_nil w 25 5 Tryz.underlying25 Tryz.underlying5 0 0 9 Tryz.underlying9
  · subst hl
    exact run_convert_bytes_back w 25 9 5 ⟨g, 0, none⟩ cap l Tryz.underlying25 Tryz.underlying5 Tryz.underlying9 (fun j hj => h.cells (g := g) rfl j _ (by simp [Lib.byteCells, hj]))
theorem gmore {w a b : World} {p : Nat} {row : Option Nat} (h : w.grownBy a (some p)) (k : a.grownBy b row) (hr : ∀ g, row = some g → w.heap.size ≤ g) : w.grownBy b (some p) :=
  ⟨k.os.trans h.os, k.tape.trans h.tape, k.output.trans h.output, Nat.le_trans h.size k.size, fun i hi hn => (k.block i (by have := h.size; omega) (fun e => by have := hr i e.symm; omega)).trans (h.block i hi hn)⟩

/-- What 'quoted' answers. -/
def QuoPost (w : World) (p : Nat) (s : ByteArray) (o : Option (Bs × Bs)) (e : Ending) (w' : World) : Prop :=
  match o with
  | some (t, r) => e = .returned (.tuple #[.string (str t), .int .i64 0]) ∧ Step w p s r w'
  | none => e = .returned (.tuple #[.string ⟨#[]⟩, .int .i64 4]) ∧ ∃ ys, Step w p s ys w'
/-- What holds in its loop. -/
def QRel (w : World) (p : Nat) (s : ByteArray) (R : Option (Bs × Bs)) (g : Nat) (v : Value) (wr : World) : Prop :=
  ∃ (f : Nat) (acc ys : Bs), ys.length = g ∧ ys.length < f ∧ qs f acc ys = R ∧ wr.ownsRow w.heap.size 5 1 v acc.length (Lib.byteCells acc) ∧ acc.length + 4 * ys.length ≤ 120000 ∧ Step w p s ys wr

set_option maxHeartbeats 2000000 in
set_option maxRecDepth 100000 in
theorem quoted_any (p : Nat) (s : ByteArray) (c : UInt8) (r : Bs) (w : World) (h : Par w p s (c :: r)) (hG : Gl w) (hp4 : 4 ≤ p) :
    Calls Tryz.prog 129 #[.pointer (some ⟨p, 0, none⟩)] w (QuoPost w p s (qstr r)) := by
  obtain ⟨k, c0, c1, f0, f1, ha, hs, _⟩ := h.parts
  have hplt := h.lt
  have hk : k < s.size := ha.lt
  have hst0 := (Step.refl h).set ha.tail
  have hrl : r.length ≤ 30000 := by have := ha.len; simp at this; omega
  have hrel0 : QRel w p s (qstr r) r.length (.slice none 0 0) (w.setCell ⟨p, 1, none⟩ (.int .i64 ((k + 1 : Nat) : Int))) := ⟨r.length + 1, [], r, rfl, by omega, rfl, World.ownsRow_nil _ _ _ _, by simp; omega, hst0⟩
  generalize qstr r = R at *
  have HP : Hid (QuoPost w p s R = QuoPost w p s R) := rfl
  clear ha hst0
  go_enter Tryz.func129, Tryz.ntmps129
  go_wp2
  go_step3
  go_wp2
  go_step3
  go_wp2
  go_loopg [4] r.length (fun g v wr => QRel w p s R g v wr)
  case atStart => simpa using hrel0
  case round =>
    obtain ⟨f, acc, ys, hg, hf, hR, hown, hal, hst⟩ := hrel
    obtain ⟨k', c0', c1', f0', f1', ha', _, _⟩ := hst.1.parts
    have HG := Lib.hid hg
    have HR := Lib.hid hR
    clear hg hR hrel0
    cases ys with
    | nil =>
      have hk' : decide (k' < s.size) = false := by have := ha'.nil; simp; omega
      go_wp2
      go_quiet (fail)
      go_wp2
      rw [Exit.noGoto_ret]
      go_ret2
      show QuoPost w p s R _ _
      rw [← HR.out, qs_nil]
      exact ⟨rfl, _, hst.drewN _⟩
    | cons d t =>
      obtain ⟨f', rfl⟩ : ∃ f', f = f' + 1 := ⟨f - 1, by omega⟩
      have hlt' := ha'.lt
      have hget' := ha'.get hlt'
      have hk' : decide (k' < s.size) = true := by simp; omega
      have hvlt := hown.lt
      by_cases h34 : d.toNat = 34
      · -- the last quote
        have e34 : ((d.toNat : Int) == 34) = true := by simp only [beq_iff_eq]; omega
        have hst' := hst.set ha'.tail
        have hcv : ∀ n, (convert 25 9 u4).run Tryz.prog ((wr.drewN n).setCell ⟨p, 1, none⟩ (.int .i64 ((k' : Int) + 1))) = .ok (.string (str acc)) ((wr.drewN n).setCell ⟨p, 1, none⟩ (.int .i64 ((k' : Int) + 1))) := fun n =>
          run_string_own (hown.kept (gtrans (gdrewN (grefl wr _) n) (gset (wr.drewN n) p 1 _)) (.inr (fun e => by have := (hvlt p e).1; omega)))
        clear ha'
        go_wp2
        go_quiet (fail)
        go_wp2
        go_quiet (fail)
        go_wp2
        rw [Exit.noGoto_ret]
        go_ret2
        show QuoPost w p s R _ _
        rw [← HR.out, qs_quote h34]
        exact ⟨rfl, (hst'.drewN _)⟩
      · have e34 : ((d.toNat : Int) == 34) = false := by simp only [beq_eq_false_iff_ne, ne_eq]; omega
        by_cases h92 : d.toNat = 92
        · -- a backslash
          have e92 : ((d.toNat : Int) == 92) = true := by simp only [beq_iff_eq]; omega
          have hesc : ∀ n, Calls Tryz.prog 145 #[.pointer (some ⟨p, 0, none⟩)] (wr.drewN n) (EscPost (wr.drewN n) p s (escM t)) := fun n => escape_any p s d t h92 _ hst.1 ((hG.step hp4 hst).drewN n) hp4
          have HE := Lib.hid hesc
          have hfact : ∀ u r', escM t = some (u, r') → _ := fun u r' => escM_fact
          have hqs := qs_esc (f := f') (acc := acc) (r := t) h92
          rw [hqs] at HR
          clear hesc hqs ha' h34 h92
          generalize escM t = o at *
          cases o with
          | none =>
            go_wp2
            go_quiet (fail)
            go_wp2
            go_quiet (fail)
            go_wp2_with fail
            refine (HE.out _).mono ?_
            rintro e w1 ⟨u, zs, rfl, hst1⟩
            go_wp2
            rw [Exit.noGoto_ret]
            go_ret2
            show QuoPost w p s R _ _
            rw [← HR.out]
            exact ⟨rfl, zs, (hst.drewN _).of hst1⟩
          | some ur =>
            obtain ⟨u, r'⟩ := ur
            obtain ⟨hl1, hu0, hu1⟩ := hfact u r' rfl
            clear hfact
            go_wp2
            go_quiet (fail)
            go_wp2
            go_quiet (fail)
            go_wp2_with fail
            refine (HE.out _).mono ?_
            rintro e w1 ⟨rfl, hst1⟩
            have hown1 : w1.ownsRow w.heap.size 5 1 u4 acc.length (Lib.byteCells acc) := hown.kept (gtrans (gdrewN (grefl wr (some p)) _) hst1.2) (.inr (fun e => by have := (hvlt p e).1; omega))
            have hsz1 : w.heap.size ≤ w1.heap.size := ((hst.drewN _).of hst1).2.size
            go_wp2_with fail
            refine (Tryz.utf8_AppendRune_plain w.heap.size u4 _ _ u (by omega) (by omega) w1 hown1 (by omega) hsz1).mono ?_
            rintro e w2 ⟨v2, rfl, hown2, o, hg2⟩
            have hgr2 : w1.grownBy w2 u4.ownBlock := gtrans (World.grownBy_alloc w1 o _) hg2
            have hst2 : Step w p s r' w2 := ⟨((hst.drewN _).of hst1).1.kept hgr2 (fun e => by have := (hvlt p e.symm).1; omega), gmore ((hst.drewN _).of hst1).2 hgr2 (fun g e => (hvlt g e).1)⟩
            have hown3 : w2.ownsRow w.heap.size 5 1 v2 (acc ++ Lib.encodeRune u).length (Lib.byteCells (acc ++ Lib.encodeRune u)) := by
              rw [Lib.byteCells_append, Lib.byteCells_encodeRune, List.length_append]
              rw [← Lib.byteCells_encodeRune, Lib.byteCells_length] at hown2
              rw [← Lib.byteCells_encodeRune]
              exact hown2
            clear hown2 hg2 hgr2 hown1 hown hst1
            go_wp2
            go_roundg r'.length
            case measure => have := HG.out; simp at this; omega
            case rel => exact ⟨f', acc ++ Lib.encodeRune u, r', rfl, by simp at hf; omega, HR.out, hown3, by have := enc_len u; simp at hal ⊢; omega, hst2⟩
        · have e92 : ((d.toNat : Int) == 92) = false := by simp only [beq_eq_false_iff_ne, ne_eq]; omega
          by_cases h32 : d.toNat < 32
          · have e32 : (d.toNat : Int) < 32 := by omega
            clear ha'
            go_wp2
            go_quiet (fail)
            go_wp2
            go_quiet (fail)
            go_wp2
            rw [Exit.noGoto_ret]
            go_ret2
            show QuoPost w p s R _ _
            rw [← HR.out, qs_low h32]
            exact ⟨rfl, _, (hst.drewN _)⟩
          · have e32 : 32 ≤ (d.toNat : Int) := by omega
            go_wp2
            go_quiet (fail)
            go_wp2
            go_quiet (fail)
            go_wp2
            generalize hW : wr.drewN (_ + nq) = w1
            have hst1 : Step w p s (d :: t) w1 := by rw [← hW]; exact hst.drewN _
            have hown1 : w1.ownsRow w.heap.size 5 1 u4 acc.length (Lib.byteCells acc) := by rw [← hW]; exact hown
            have hlt1 : ∀ g, u4.ownBlock = some g → w.heap.size ≤ g := fun g e => (hvlt g e).1
            clear hW hst hown hvlt c0' c1' f0' f1' ha' hget' hk' hlt'
            obtain ⟨k1, c0', c1', f0', f1', ha', _, _⟩ := hst1.1.parts
            have hk1 : k1 ≤ s.size := ha'.le
            have hrest := ha'.rest
            have hrest : s.extract k1 s.size = str (d :: t) := by
              have e : (s.extract k1 s.size).data = (str (d :: t)).data := by rw [← Array.toList_inj]; exact hrest
              cases hx : s.extract k1 s.size; rw [hx] at e; cases e; rfl
            have HRe := Lib.hid hrest
            clear hrest ha'
            obtain ⟨hd1, hd2, hd3⟩ := dec_fact (c := d) (r := t)
            have hdec : ∀ w2, Gl w2 → _ := fun w2 hg => Tryz.utf8_DecodeRuneInString (str (d :: t)) w2 hg.u8
            have hbad := qs_bad (f := f') (acc := acc) (r := t) h34 h92 h32
            have hgo := qs_go (f := f') (acc := acc) (r := t) h34 h92 h32
            change ∀ w2, Gl w2 → Calls Tryz.prog 95 #[.string (str (d :: t))] w2 fun e w' => e = .returned (.tuple #[.int .i32 (Lib.decodeGoB (str (d :: t))).1, .int .i64 (Lib.decodeGoB (str (d :: t))).2]) ∧ Below w2.heap.size w2 w' at hdec
            generalize (Lib.decodeGoB (str (d :: t))).1 = D1 at *
            generalize (Lib.decodeGoB (str (d :: t))).2 = D2 at *
            have hG1 : Gl w1.drew := (hG.step hp4 hst1).drewN 1
            have hdecw := hdec _ hG1
            rw [← HRe.out] at hdecw
            have HDec := Lib.hid hdecw
            have HB := Lib.hid hbad
            have HGo := Lib.hid hgo
            clear hdec hbad hgo hdecw
            have hpl : p < w1.heap.size := hst1.1.lt
            go_region_held3 (fun w' => w'.cell? ⟨p, 0, none⟩ = some (.string s) ∧ w'.cell? ⟨p, 1, none⟩ = some (.int .i64 k1)) (first | exact ⟨c0', c1'⟩ | exact ⟨c03, c13⟩) (first
              | (go_at_call 95; refine HDec.out.mono ?_; rintro e w3 ⟨rfl, hb3⟩; have c03 : w3.cell? ⟨p, 0, none⟩ = some (.string s) := (hb3.cell (p := ⟨p, 0, none⟩) hpl).trans c0'; have c13 : w3.cell? ⟨p, 1, none⟩ = some (.int .i64 k1) := (hb3.cell (p := ⟨p, 1, none⟩) hpl).trans c1'))
            have hgr3 : w1.grownBy w3 (some p) := gtrans (gdrewN (grefl w1 _) 1) (new_grown hb3 _)
            have hst3 : Step w p s (d :: t) w3 := hst1.of ⟨hst1.1.below (w' := w3) (B := w1.heap.size) ⟨hb3.os, hb3.tape, hb3.output, hb3.size, hb3.block⟩ hpl, hgr3⟩
            have hown3 : w3.ownsRow w.heap.size 5 1 u4 acc.length (Lib.byteCells acc) := hown1.kept hgr3 (.inr (fun e => by have := hlt1 p e; omega))
            clear hgr3 hb3 hst1 hown1 HDec hG1 hpl c0' c1' f0' f1' c03 HRe hk1
            obtain ⟨k3, c0', c1', f0', f1', ha', _, _⟩ := hst3.1.parts
            have hkk : (k1 : Int) = (k3 : Int) := by have := c13.symm.trans c1'; simpa using this
            obtain rfl : k1 = k3 := by omega
            clear hkk c13
            have hk1 : k1 < s.size := ha'.lt
            have hl3 := ha'.len
            by_cases hbd : D1 = 65533 ∧ D2 = 1
            · have b1 : ((D1 : Int) == 65533) = true := by simp only [beq_iff_eq]; omega
              have b2 : ((D2 : Int) == 1) = true := by simp only [beq_iff_eq]; omega
              have hN := HB.out hbd
              have HN := Lib.hid hN
              clear hN hbd HB HGo
              go_wp2
              rw [Exit.noGoto_ret]
              go_ret2
              show QuoPost w p s R _ _
              rw [← HR.out, HN.out]
              exact ⟨rfl, _, hst3⟩
            · have hN := HGo.out hbd
              have HN := Lib.hid hN
              have hb' : ((D1 : Int) == 65533) = false ∨ (((D1 : Int) == 65533) = true ∧ ((D2 : Int) == 1) = false) := by
                simp only [beq_iff_eq, beq_eq_false_iff_ne, ne_eq]; omega
              clear hN hbd HB HGo
              have hat3 := ha'.drop D2 hd2
              have hpiece : (s.extract k1 (k1 + D2)).data.toList = (d :: t).take D2 := by
                rw [ext_list, List.drop_take, ha'.eq, Nat.add_sub_cancel_left]
              have hpsz : (s.extract k1 (k1 + D2)).size = D2 := by rw [size_len, hpiece, List.length_take]; omega
              have hle : k1 + D2 ≤ s.size := hat3.le
              have hst4 := hst3.set hat3
              clear ha' hl3
              obtain ⟨i0, hi, hz0, hz1, hz2⟩ := info_parts Tryz.info5
              rcases hb' with b1 | ⟨b1, b2⟩
              all_goals
                go_wp2
                have e1 : IntKind.i64.wrap ((k1 : Int) + (D2 : Int)) = (k1 : Int) + (D2 : Int) := IntWalk.i64_in _ (by omega)
                have e2 : ((k1 : Int) + (D2 : Int)).toNat = k1 + D2 := by omega
                have e3 : (0 : Int) ≤ (k1 : Int) + (D2 : Int) := by omega
                have e4 : (k1 : Int) ≤ (k1 : Int) + (D2 : Int) := by omega
                have e5 : (k1 : Int) + (D2 : Int) ≤ (s.size : Int) := by omega
                have e6 : k1 ≤ k1 + D2 := by omega
                go_still_tail 16, (by kernel_rfl)
                clear e1 e2 e3 e4 e5 e6
                refine Lib.wpList_append_own_string _ rfl _ _ 25 9 rfl w.heap.size 5 i0 Tryz.underlying25 Tryz.underlying9 hi hz0 hz1 hz2 u4 acc.length (Lib.byteCells acc) rfl hown3 _ rfl (by rw [hpsz]; unfold maxLen; omega) (by rw [hpsz]; omega) hst3.2.size ?_
                intro v5 w5 hown5 hg5 _
                have hg5' : w3.grownBy w5 u4.ownBlock := ⟨hg5.os, hg5.tape, hg5.output, hg5.size, hg5.block⟩
                have hst5 : Step w p s (d :: t) w5 := ⟨hst3.1.kept hg5' (fun e => by have := hlt1 p e.symm; omega), gmore hst3.2 hg5' hlt1⟩
                have hown6 : w5.ownsRow w.heap.size 5 1 v5 (acc ++ (d :: t).take D2).length (Lib.byteCells (acc ++ (d :: t).take D2)) := by
                  rw [Lib.byteCells_append, List.length_append, ← hpiece, ← size_len]
                  exact hown5
                clear hown5 hg5 hg5' hst3 hown3 c0' c1' f0' f1' hst4 hpsz hpiece hat3 hle hk1
                obtain ⟨k5, c05, c15, f05, f15, ha5, _, _⟩ := hst5.1.parts
                have hat5 := ha5.drop D2 hd2
                have hle5 := hat5.le
                have hst6 := hst5.set hat5
                have htl : ((d :: t).take D2).length ≤ D2 := by rw [List.length_take]; omega
                have hdl : ((d :: t).drop D2).length = (d :: t).length - D2 := List.length_drop
                have HTL := Lib.hid htl
                have HDL := Lib.hid hdl
                clear htl hdl ha5 hat5
                go_wp2
                go_roundg ((d :: t).drop D2).length
                case measure => have := HG.out; rw [HDL.out]; simp only [List.length_cons] at this ⊢; omega
                case rel => exact ⟨f', acc ++ (d :: t).take D2, (d :: t).drop D2, rfl, by rw [HDL.out]; simp only [List.length_cons] at hf ⊢; omega, by rw [← HN.out]; exact HR.out, hown6.kept (gset w5 p 1 _) (.inr (fun e => by have := (hown6.lt p e).1; omega)), by rw [HDL.out, List.length_append]; have := HTL.out; simp only [List.length_cons] at hal hd2 ⊢; omega, hst6⟩
end Go.Proofs.YtfboecnhakihnaaGreatDoor.js
