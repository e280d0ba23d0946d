/-
  The parser's 'key'.
-/
import Derived.Test.YtfboecnhakihnaaGreatDoorJMem
namespace Go.Proofs.YtfboecnhakihnaaGreatDoor.js
open Go.RowKit

theorem Tryz.zero164 (w : World) : (zeroValue 164).run Tryz.prog w = .ok (.agg #[]) w := by kernel_rfl
theorem str_inj {a b : Bs} (h : str a = str b) : a = b := by have := congrArg (fun s : ByteArray => s.data.toList) h; exact this
theorem str_toList (l : Bs) : (str l).data.toList = l := rfl

/-- What 'key' answers. -/
def KeyPost (w : World) (p : Nat) (s : ByteArray) (b n : Nat) (ks : List ByteArray) (M : Except Nat (ByteArray × Bs)) (e : Ending) (w' : World) : Prop :=
  Fr w w' (fun g => g ≠ p ∧ g ≠ b) ∧
  match M with
  | .ok (k, r) => e = .returned (.tuple #[.string k, .int .i64 0]) ∧ Par w' p s r ∧ Seen w' b (n + 1) (ks ++ [k]) ∧ k.size ≤ maxLen
  | .error er => ∃ ys, e = .returned (.tuple #[.string ⟨#[]⟩, .int .i64 er]) ∧ Par w' p s ys

theorem qs_len : ∀ (f : Nat) (acc xs t r : Bs), qs f acc xs = some (t, r) → t.length + 4 * r.length ≤ acc.length + 4 * xs.length ∧ r.length < xs.length
  | 0, _, _, _, _, h => by cases h
  | f + 1, acc, [], t, r, h => by cases h
  | f + 1, acc, c :: x, t, r, h => by
    by_cases h1 : c.toNat = 34
    · rw [qs_quote h1] at h; cases h; simp; omega
    by_cases h2 : c.toNat = 92
    · rw [qs_esc h2] at h
      cases he : escM x with
      | none => rw [he] at h; cases h
      | some ur =>
        obtain ⟨u, r'⟩ := ur
        rw [he] at h
        have := qs_len f _ _ _ _ h
        have hf := escM_fact he
        have hl := enc_len u
        simp only [List.length_append, List.length_cons] at *
        omega
    by_cases h3 : c.toNat < 32
    · rw [qs_low h3] at h; cases h
    by_cases h4 : (Lib.decodeGoB (str (c :: x))).1 = 65533 ∧ (Lib.decodeGoB (str (c :: x))).2 = 1
    · rw [qs_bad h1 h2 h3 h4] at h; cases h
    · rw [qs_go h1 h2 h3 h4] at h
      have := qs_len f _ _ _ _ h
      obtain ⟨d1, d2, _⟩ := dec_fact (c := c) (r := x)
      simp only [List.length_append, List.length_take, List.length_drop] at this
      simp only [List.length_cons] at *
      omega
theorem qstr_len {xs t r : Bs} (h : qstr xs = some (t, r)) : t.length ≤ 4 * xs.length ∧ r.length < xs.length := by
  have := qs_len _ _ _ _ _ h
  simp only [List.length_nil] at this
  omega

set_option maxHeartbeats 2000000 in
set_option maxRecDepth 100000 in
theorem key_any (p : Nat) (s : ByteArray) (xs : Bs) (b n : Nat) (ks : List ByteArray) (w : World) (h : Par w p s xs) (hG : Gl w) (hp4 : 4 ≤ p) (hS : Seen w b n ks) (hbp : p < b) (hn : n ≤ 30000) :
    Calls Tryz.prog 143 #[.pointer (some ⟨p, 0, none⟩), .map (some b)] w (KeyPost w p s b n ks (keyM ks xs)) := by
  have hsg := sign_any p s xs w h
  have hxl : (white xs).length ≤ 30000 := by
    obtain ⟨k, _, _, _, _, ha, hs, _⟩ := h.parts
    have h1 := ha.len
    have h2 := white_le xs
    omega
  unfold keyM
  generalize white xs = ys at *
  cases ys with
  | nil =>
    go_enter Tryz.func143, Tryz.ntmps143
    go_wp2_with fail
    refine hsg.mono ?_
    rintro e w1 ⟨rfl, hst⟩
    go_wp2
    go_ret2
    exact ⟨hst.fr.mono (fun _ _ h => h.1), _, rfl, hst.1⟩
  | cons c r =>
    simp only
    by_cases hc : c.toNat = 34
    · rw [if_pos hc]
      have hq : ∀ w1, Step w p s (c :: r) w1 → _ := fun w1 hst => quoted_any p s c r w1 hst.1 (hG.step hp4 hst) hp4
      have hql : ∀ t r', qstr r = some (t, r') → _ := fun t r' => qstr_len
      have HQ := Lib.hid hq
      clear hq
      have hc1 : ((c.toNat : Int) == 34) = true := by simp only [beq_iff_eq]; omega
      generalize qstr r = o at *
      cases o with
      | none =>
        go_enter Tryz.func143, Tryz.ntmps143
        go_wp2_with fail
        refine hsg.mono ?_
        rintro e w1 ⟨rfl, hst⟩
        go_wp2_with fail
        refine (HQ.out w1 hst).mono ?_
        rintro e w2 ⟨rfl, zs, hst2⟩
        go_wp2
        go_ret2
        exact ⟨(hst.of hst2).fr.mono (fun _ _ h => h.1), _, rfl, hst2.1⟩
      | some tr =>
        obtain ⟨t, r'⟩ := tr
        obtain ⟨hl1, hl2⟩ := hql t r' rfl
        simp only [List.length_cons] at hxl
        have hsz : (str t).size ≤ maxLen := by rw [size_len, str_toList]; unfold maxLen; omega
        have hkey := WideMaps.keyOf_string_mk (P := Tryz.prog) (k := 9) Tryz.underlying9 hsz
        have hS2 : ∀ w1 w2, Step w p s (c :: r) w1 → Step w1 p s r' w2 → Seen w2 b n ks := fun w1 w2 a b' => hS.fr (a.of b').fr (by omega)
        have htk : ∀ w3, Par w3 p s r' → _ := fun w3 hp => take_any p s r' w3 hp
        have hbne : b ≠ p := by omega
        have hq2 : ∀ w1, Step w p s (c :: r) w1 → Calls Tryz.prog 129 #[.pointer (some ⟨p, 0, none⟩)] w1 fun e w' => e = .returned (.tuple #[.string (str t), .int .i64 0]) ∧ Step w1 p s r' w' := HQ.out
        clear hql hl1 hl2 hxl HQ
        simp only
        generalize str t = T at *
        have HQ := Lib.hid hq2
        clear hq2
        have hnm : n < maxLen := by unfold maxLen; omega
        clear hn
        cases hany : ks.any (fun k => decide (k = T)) with
        | true =>
          rw [if_pos rfl]
          have HS2 := Lib.hid hS2
          have HA := Lib.hid hany
          clear hS2 hany htk
          go_enter Tryz.func143, Tryz.ntmps143
          go_wp2_with fail
          refine hsg.mono ?_
          rintro e w1 ⟨rfl, hst⟩
          go_wp2_with fail
          refine (HQ.out w1 hst).mono ?_
          rintro e w2 ⟨rfl, hst2⟩
          obtain ⟨D, hown, hmap, hhas⟩ := HS2.out w1 w2 hst hst2
          have hT : Maps.has D (.string T.data.toList) = true := (hhas T).trans HA.out
          clear hhas
          go_wp2_with (at_lookup; refine wpList_lookup_own_unit _ rfl _ _ 163 rfl 9 164 (Maps.string_keyed Tryz.underlying9) Tryz.underlying163 (Tryz.zero164 _) b n D rfl hown _ _ rfl hkey ?_; rw [hT])
          go_ret2
          exact ⟨((hst.of hst2).alloc _).fr.mono (fun _ _ h => h.1), _, rfl, (hst2.alloc _).1⟩
        | false =>
          rw [if_neg (by simp)]
          have HS2 := Lib.hid hS2
          have HA := Lib.hid hany
          have HT := Lib.hid htk
          clear hS2 hany htk
          have hpost : ∀ w1 w2 w3 (D : DataW Unit), Step w p s (c :: r) w1 → Step w1 p s r' w2 → w3.ownsMap Tryz.prog 9 (unitElem (H := Unit)) b (n + 1) (D.put (.string T.data.toList) (.agg [])) → Maps.IsMap D → (∀ s : ByteArray, Maps.has D (.string s.data.toList) = ks.any (fun k => decide (k = s))) → (w2.alloc (.cells #[] 164)).grownBy w3 (some b) →
              Fr w w3 (fun g => g ≠ p ∧ g ≠ b) ∧ Par w3 p s r' ∧ Seen w3 b (n + 1) (ks ++ [T]) := by
            intro w1 w2 w3 D hst hst2 hown hmap hhas hg
            refine ⟨(((hst.of hst2).alloc _).fr.mono (fun _ _ h => h.1)).trans (Fr.of hg (fun g _ h e => h.2 (by cases e; rfl))), (hst2.alloc _).1.kept hg (fun e => by cases e; omega), _, hown, hmap.put _ _, fun s' => ?_⟩
            rw [List.any_append]
            by_cases e : T = s'
            · subst e
              rw [Maps.has_put_same (k := Lit.string T.data.toList) hmap trivial]
              simp
            · rw [Maps.has_put_other (fun e' => e (by injection e' with e'; exact (ba_ext e'.symm))) _, hhas s']
              simp [e]
          have HPo := Lib.hid hpost
          clear hpost
          have HF : ∀ w3 w4 ys, Fr w w3 (fun g => g ≠ p ∧ g ≠ b) → Step w3 p s ys w4 → Fr w w4 (fun g => g ≠ p ∧ g ≠ b) := fun w3 w4 ys a b' => a.trans (b'.fr.mono (fun _ _ h => h.1))
          have HFr := Lib.hid HF
          clear HF
          generalize white r' = ws at *
          cases ws with
          | nil =>
            go_enter Tryz.func143, Tryz.ntmps143
            go_wp2_with fail
            refine hsg.mono ?_
            rintro e w1 ⟨rfl, hst⟩
            go_wp2_with fail
            refine (HQ.out w1 hst).mono ?_
            rintro e w2 ⟨rfl, hst2⟩
            obtain ⟨D, hown, hmap, hhas⟩ := HS2.out w1 w2 hst hst2
            have hT : Maps.has D (.string T.data.toList) = false := (hhas T).trans HA.out
            have HH := Lib.hid hhas
            clear hhas
            go_wp2_with (first
              | (at_lookup; refine wpList_lookup_own_unit _ rfl _ _ 163 rfl 9 164 (Maps.string_keyed Tryz.underlying9) Tryz.underlying163 (Tryz.zero164 _) b n D rfl hown _ _ rfl hkey ?_; rw [hT])
              | (at_mapUpdate; refine wpList_mapUpdate_own _ rfl _ _ _ 163 rfl 9 164 (Maps.string_keyed Tryz.underlying9) Tryz.underlying163 (unitElem (H := Unit)) b n D rfl (hown.alloc _) hnm _ _ _ rfl rfl hkey _ [] unitElem_mk ?_; intro w3 hown3 hgrow3; obtain ⟨hfr3, hpar3, hseen3⟩ := HPo.out w1 w2 w3 D hst hst2 hown3 hmap HH.out hgrow3)
              | (go_at_call 144; refine (HT.out w3 hpar3).mono ?_; rintro e w4 ⟨rfl, hst4⟩))
            go_ret2
            exact ⟨HFr.out _ _ _ hfr3 hst4, _, rfl, hst4.1⟩
          | cons d q =>
            simp only
            by_cases hd : d.toNat = 58
            · rw [if_pos hd]
              have hd1 : ((d.toNat : Int) == 58) = true := by simp only [beq_iff_eq]; omega
              have hd2 : ((d.toNat : Int) != 58) = false := by simp only [bne, hd1]; rfl
              go_enter Tryz.func143, Tryz.ntmps143
              go_wp2_with fail
              refine hsg.mono ?_
              rintro e w1 ⟨rfl, hst⟩
              go_wp2_with fail
              refine (HQ.out w1 hst).mono ?_
              rintro e w2 ⟨rfl, hst2⟩
              obtain ⟨D, hown, hmap, hhas⟩ := HS2.out w1 w2 hst hst2
              have hT : Maps.has D (.string T.data.toList) = false := (hhas T).trans HA.out
              have HH := Lib.hid hhas
              clear hhas
              go_wp2_with (first
                | (at_lookup; refine wpList_lookup_own_unit _ rfl _ _ 163 rfl 9 164 (Maps.string_keyed Tryz.underlying9) Tryz.underlying163 (Tryz.zero164 _) b n D rfl hown _ _ rfl hkey ?_; rw [hT])
                | (at_mapUpdate; refine wpList_mapUpdate_own _ rfl _ _ _ 163 rfl 9 164 (Maps.string_keyed Tryz.underlying9) Tryz.underlying163 (unitElem (H := Unit)) b n D rfl (hown.alloc _) hnm _ _ _ rfl rfl hkey _ [] unitElem_mk ?_; intro w3 hown3 hgrow3; obtain ⟨hfr3, hpar3, hseen3⟩ := HPo.out w1 w2 w3 D hst hst2 hown3 hmap HH.out hgrow3)
                | (go_at_call 144; refine (HT.out w3 hpar3).mono ?_; rintro e w4 ⟨rfl, hst4⟩))
              go_ret2
              exact ⟨HFr.out _ _ _ hfr3 hst4, rfl, hst4.1, hseen3.fr hst4.fr hbne, hsz⟩
            · rw [if_neg hd]
              have hd1 : ((d.toNat : Int) == 58) = false := by simp only [beq_eq_false_iff_ne, ne_eq]; omega
              have hd2 : ((d.toNat : Int) != 58) = true := by simp only [bne, hd1]; rfl
              go_enter Tryz.func143, Tryz.ntmps143
              go_wp2_with fail
              refine hsg.mono ?_
              rintro e w1 ⟨rfl, hst⟩
              go_wp2_with fail
              refine (HQ.out w1 hst).mono ?_
              rintro e w2 ⟨rfl, hst2⟩
              obtain ⟨D, hown, hmap, hhas⟩ := HS2.out w1 w2 hst hst2
              have hT : Maps.has D (.string T.data.toList) = false := (hhas T).trans HA.out
              have HH := Lib.hid hhas
              clear hhas
              go_wp2_with (first
                | (at_lookup; refine wpList_lookup_own_unit _ rfl _ _ 163 rfl 9 164 (Maps.string_keyed Tryz.underlying9) Tryz.underlying163 (Tryz.zero164 _) b n D rfl hown _ _ rfl hkey ?_; rw [hT])
                | (at_mapUpdate; refine wpList_mapUpdate_own _ rfl _ _ _ 163 rfl 9 164 (Maps.string_keyed Tryz.underlying9) Tryz.underlying163 (unitElem (H := Unit)) b n D rfl (hown.alloc _) hnm _ _ _ rfl rfl hkey _ [] unitElem_mk ?_; intro w3 hown3 hgrow3; obtain ⟨hfr3, hpar3, hseen3⟩ := HPo.out w1 w2 w3 D hst hst2 hown3 hmap HH.out hgrow3)
                | (go_at_call 144; refine (HT.out w3 hpar3).mono ?_; rintro e w4 ⟨rfl, hst4⟩))
              go_ret2
              exact ⟨HFr.out _ _ _ hfr3 hst4, _, rfl, hst4.1⟩
    · rw [if_neg hc]
      have hc1 : ((c.toNat : Int) == 34) = false := by simp only [beq_eq_false_iff_ne, ne_eq]; omega
      go_enter Tryz.func143, Tryz.ntmps143
      go_wp2_with fail
      refine hsg.mono ?_
      rintro e w1 ⟨rfl, hst⟩
      go_wp2
      go_ret2
      exact ⟨hst.fr.mono (fun _ _ h => h.1), _, rfl, hst.1⟩
end Go.Proofs.YtfboecnhakihnaaGreatDoor.js
