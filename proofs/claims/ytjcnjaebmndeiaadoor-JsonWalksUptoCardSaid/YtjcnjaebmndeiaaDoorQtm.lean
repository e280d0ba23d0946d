/-
  Plain Lean: a string as it is printed, read again: any UTF-8 between quotes is that string.
-/
import Derived.Test.YtjcnjaebmndeiaaDoorQuo
import Derived.Lib.ValidLaws
namespace Go.Proofs.YtjcnjaebmndeiaaDoor

def hexS (n : Nat) : UInt8 := if n < 10 then UInt8.ofNat (48 + n) else UInt8.ofNat (87 + n)
/-- A byte of a string, as it is printed. -/
def quoC (c : UInt8) : Bs := if c.toNat = 34 ∨ c.toNat = 92 then [92, c] else if c.toNat < 32 then [92, 117, 48, 48, hexS (c.toNat / 16), hexS (c.toNat % 16)] else [c]
def quoL : Bs → Bs
  | [] => []
  | c :: r => quoC c ++ quoL r
theorem quoL_app : ∀ (a b : Bs), quoL (a ++ b) = quoL a ++ quoL b
  | [], b => rfl
  | c :: r, b => by rw [List.cons_append, quoL, quoL, quoL_app r b, List.append_assoc]
theorem quoL_high : ∀ (m : Bs), (∀ b, b ∈ m → 128 ≤ b.toNat) → quoL m = m
  | [], _ => rfl
  | c :: r, h => by
    have hc := h c (by simp)
    rw [quoL, quoL_high r (fun b hb => h b (by simp [hb])), quoC, if_neg (by omega), if_neg (by omega)]
    rfl
theorem quoC_len (c : UInt8) : 1 ≤ (quoC c).length ∧ (quoC c).length ≤ 6 := by
  unfold quoC; split
  · simp
  · split <;> simp
theorem quoL_len : ∀ (l : Bs), l.length ≤ (quoL l).length ∧ (quoL l).length ≤ 6 * l.length
  | [] => by simp [quoL]
  | c :: r => by have := quoL_len r; have := quoC_len c; rw [quoL]; simp only [List.length_append, List.length_cons]; omega

theorem two_of {t : Bs} (h : 2 ≤ t.length) : ∃ b d r, t = b :: d :: r := by
  match t, h with
  | b :: d :: r, _ => exact ⟨b, d, r, rfl⟩
theorem three_of {t : Bs} (h : 3 ≤ t.length) : ∃ b d e r, t = b :: d :: e :: r := by
  match t, h with
  | b :: d :: e :: r, _ => exact ⟨b, d, e, r, rfl⟩
set_option maxHeartbeats 1000000 in
set_option maxRecDepth 100000 in
/-- A rune beyond ASCII that decodes: its bytes, whatever stands behind them. -/
theorem rune_split (c : UInt8) (t : Bs) (hc : 128 ≤ c.toNat) (hv : ¬ ((Lib.decodeL (c :: t)).1 = 65533 ∧ (Lib.decodeL (c :: t)).2 = 1)) :
    ∃ m r, c :: t = m ++ r ∧ m.length = (Lib.decodeL (c :: t)).2 ∧ 1 ≤ m.length ∧ (∀ b, b ∈ m → 128 ≤ b.toNat) ∧ ∀ r', Lib.decodeL (m ++ r') = Lib.decodeL (c :: t) := by
  rw [Lib.decodeL_N] at hv ⊢
  simp only [List.length_cons, List.getD_cons_zero, List.getD_cons_succ] at hv ⊢
  unfold Lib.decodeN at hv ⊢
  rw [if_neg (by omega)] at hv ⊢
  by_cases h2 : c.toNat / 32 = 6 ∧ (1 < t.length + 1 ∧ (t.getD 0 0).toNat / 64 = 2)
  · rw [if_pos h2] at hv ⊢
    match t, h2, hv with
    | b :: r, h2, hv =>
      simp only [List.getD_cons_zero] at h2 hv ⊢
      by_cases hg : c.toNat % 32 * 64 + b.toNat % 64 ≥ 128
      · rw [if_pos hg]
        refine ⟨[c, b], r, rfl, rfl, by simp, fun x hx => ?_, fun r' => ?_⟩
        · simp only [List.mem_cons, List.not_mem_nil, or_false] at hx
          rcases hx with rfl | rfl <;> omega
        · rw [Lib.decodeL_N]
          simp only [List.cons_append, List.nil_append, List.length_cons, List.getD_cons_zero, List.getD_cons_succ]
          unfold Lib.decodeN
          rw [if_neg (by omega), if_pos ⟨h2.1, by omega, h2.2.2⟩, if_pos hg]
      · rw [if_neg hg] at hv; exact absurd ⟨rfl, rfl⟩ hv
    | [], h2, _ => simp at h2
  · rw [if_neg h2] at hv ⊢
    by_cases h3 : c.toNat / 16 = 14 ∧ (1 < t.length + 1 ∧ (t.getD 0 0).toNat / 64 = 2) ∧ (2 < t.length + 1 ∧ (t.getD 1 0).toNat / 64 = 2)
    · rw [if_pos h3] at hv ⊢
      obtain ⟨b, d, r, rfl⟩ := two_of (show 2 ≤ t.length by omega)
      simp only [List.getD_cons_zero, List.getD_cons_succ] at h2 h3 hv ⊢
      split at hv
      · rename_i hg
        rw [if_pos hg]
        refine ⟨[c, b, d], r, rfl, rfl, by simp, fun x hx => ?_, fun r' => ?_⟩
        · simp only [List.mem_cons, List.not_mem_nil, or_false] at hx
          rcases hx with rfl | rfl | rfl <;> omega
        · rw [Lib.decodeL_N]
          simp only [List.cons_append, List.nil_append, List.length_cons, List.getD_cons_zero, List.getD_cons_succ]
          unfold Lib.decodeN
          rw [if_neg (by omega), if_neg (by omega), if_pos ⟨h3.1, ⟨by omega, h3.2.1.2⟩, by omega, h3.2.2.2⟩, if_pos hg]
      · exact absurd ⟨rfl, rfl⟩ hv
    · rw [if_neg h3] at hv ⊢
      by_cases h4 : c.toNat / 8 = 30 ∧ (1 < t.length + 1 ∧ (t.getD 0 0).toNat / 64 = 2) ∧ (2 < t.length + 1 ∧ (t.getD 1 0).toNat / 64 = 2) ∧ (3 < t.length + 1 ∧ (t.getD 2 0).toNat / 64 = 2)
      · rw [if_pos h4] at hv ⊢
        obtain ⟨b, d, e, r, rfl⟩ := three_of (show 3 ≤ t.length by omega)
        simp only [List.getD_cons_zero, List.getD_cons_succ] at h2 h3 h4 hv ⊢
        split at hv
        · rename_i hg
          rw [if_pos hg]
          refine ⟨[c, b, d, e], r, rfl, rfl, by simp, fun x hx => ?_, fun r' => ?_⟩
          · simp only [List.mem_cons, List.not_mem_nil, or_false] at hx
            rcases hx with rfl | rfl | rfl | rfl <;> omega
          · rw [Lib.decodeL_N]
            simp only [List.cons_append, List.nil_append, List.length_cons, List.getD_cons_zero, List.getD_cons_succ]
            unfold Lib.decodeN
            rw [if_neg (by omega), if_neg (by omega), if_neg (by omega), if_pos ⟨h4.1, ⟨by omega, h4.2.1.2⟩, ⟨by omega, h4.2.2.1.2⟩, by omega, h4.2.2.2.2⟩, if_pos hg]
        · exact absurd ⟨rfl, rfl⟩ hv
      · rw [if_neg h4] at hv
        exact absurd ⟨rfl, rfl⟩ hv

theorem decGoB_cons (c : UInt8) (t : Bs) : Lib.decodeGoB (str (c :: t)) = Lib.decodeL (c :: t) := by
  unfold Lib.decodeGoB Lib.decodeL
  rw [if_neg (by rw [size_len]; show ¬ (c :: t).length = 0; simp)]
  rfl
theorem enc_ascii {c : UInt8} (h : c.toNat ≤ 127) : Lib.encodeRune (c.toNat : Int) = [c] := by
  unfold Lib.encodeRune
  rw [Lib.encodeRuneZ_one (by omega) (by omega)]
  show [((c.toNat : Int).toNat).toUInt8] = [c]
  rw [Int.toNat_natCast]
  congr 1
  exact UInt8.ofNat_toNat
theorem lowHex4 : ∀ n : Fin 32, hex4 (48 :: 48 :: hexS (n.val / 16) :: hexS (n.val % 16) :: []) = some (n.val, []) := by decide
theorem hex4_app {a b c d : UInt8} {v : Nat} (h : hex4 [a, b, c, d] = some (v, [])) (r : Bs) : hex4 (a :: b :: c :: d :: r) = some (v, r) := by
  have e : hex4 (a :: b :: c :: d :: r) = (hex4 [a, b, c, d]).map (fun q => (q.1, r)) := by
    simp only [hex4]
    cases hexD a <;> cases hexD b <;> cases hexD c <;> cases hexD d <;> rfl
  rw [e, h]; rfl
theorem esc_low {c : UInt8} (h : c.toNat < 32) (r : Bs) : escM (117 :: 48 :: 48 :: hexS (c.toNat / 16) :: hexS (c.toNat % 16) :: r) = some ((c.toNat : Int), r) := by
  have h4 := hex4_app (lowHex4 ⟨c.toNat, h⟩) r
  have he : escM (117 :: 48 :: 48 :: hexS (c.toNat / 16) :: hexS (c.toNat % 16) :: r) = codedM (48 :: 48 :: hexS (c.toNat / 16) :: hexS (c.toNat % 16) :: r) := by rw [escM, if_pos (show UInt8.toNat 117 = 117 from rfl)]
  rw [he]
  unfold codedM
  rw [h4]
  simp only
  rw [if_pos (by omega)]
/-- What is printed of UTF-8, up to its last quote, is read as it was. -/
theorem qs_quo (rest : Bs) : ∀ (n : Nat) (l : Bs), l.length ≤ n → Lib.validD l = true → ∀ (f : Nat) (acc : Bs), (quoL l).length < f → qs f acc (quoL l ++ 34 :: rest) = some (acc ++ l, rest) := by
  intro n
  induction n with
  | zero =>
    intro l hl hv f acc hf
    have : l = [] := List.eq_nil_of_length_eq_zero (by omega)
    subst this
    obtain ⟨f', rfl⟩ : ∃ f', f = f' + 1 := ⟨f - 1, by omega⟩
    show qs (f' + 1) acc (34 :: rest) = _
    rw [qs_quote rfl, List.append_nil]
  | succ n ih =>
    intro l hl hv f acc hf
    match l, hl, hv, hf with
    | [], _, _, hf =>
      obtain ⟨f', rfl⟩ : ∃ f', f = f' + 1 := ⟨f - 1, by simp [quoL] at hf; omega⟩
      show qs (f' + 1) acc (34 :: rest) = _
      rw [qs_quote rfl, List.append_nil]
    | c :: t, hl, hv, hf =>
      obtain ⟨f', rfl⟩ : ∃ f', f = f' + 1 := ⟨f - 1, by omega⟩
      simp only [List.length_cons] at hl
      rw [quoL] at hf ⊢
      by_cases h128 : c.toNat < 128
      · rw [Lib.validD_cons c t h128] at hv
        by_cases he : c.toNat = 34 ∨ c.toNat = 92
        · have hq : quoC c = [92, c] := by rw [quoC, if_pos he]
          rw [hq] at hf ⊢
          simp only [List.cons_append, List.nil_append, List.length_cons] at hf ⊢
          rw [qs_esc rfl]
          have hes : escM (c :: (quoL t ++ 34 :: rest)) = some ((c.toNat : Int), quoL t ++ 34 :: rest) := by
            rw [escM_other (by omega)]
            have : escC c = some c.toNat := by
              unfold escC
              rcases he with h | h
              · rw [if_pos h, h]
              · rw [if_neg (by omega), if_pos h, h]
            rw [this]; rfl
          rw [hes]
          simp only
          rw [enc_ascii (by omega), ih t (by omega) hv f' (acc ++ [c]) (by omega), List.append_assoc]
          rfl
        · by_cases hlo : c.toNat < 32
          · have hq : quoC c = [92, 117, 48, 48, hexS (c.toNat / 16), hexS (c.toNat % 16)] := by rw [quoC, if_neg he, if_pos hlo]
            rw [hq] at hf ⊢
            simp only [List.cons_append, List.nil_append, List.length_cons] at hf ⊢
            rw [qs_esc rfl, esc_low hlo]
            simp only
            rw [enc_ascii (by omega), ih t (by omega) hv f' (acc ++ [c]) (by omega), List.append_assoc]
            rfl
          · have hq : quoC c = [c] := by rw [quoC, if_neg he, if_neg hlo]
            rw [hq] at hf ⊢
            simp only [List.cons_append, List.nil_append, List.length_cons] at hf ⊢
            have hd : Lib.decodeGoB (str (c :: (quoL t ++ 34 :: rest))) = (c.toNat, 1) := by rw [decGoB_cons, Lib.decodeL_ascii c _ h128]
            rw [qs_go (by omega) (by omega) hlo (by rw [hd]; simp; omega), hd]
            simp only [List.take_succ_cons, List.take_zero, List.drop_succ_cons, List.drop_zero]
            rw [ih t (by omega) hv f' (acc ++ [c]) (by omega), List.append_assoc]
            rfl
      · rw [Lib.validD_step _ (by simp)] at hv
        split at hv
        · cases hv
        · rename_i hnb
          obtain ⟨m, r, hmr, hml, hm1, hmh, hdec⟩ := rune_split c t (by omega) hnb
          rw [← quoL, hmr, quoL_app, quoL_high m hmh] at hf ⊢
          have hlen : m.length + r.length = t.length + 1 := by have := congrArg List.length hmr; simpa using this.symm
          rw [← hml, hmr, List.drop_left] at hv
          match m, hm1, hmr, hml, hmh, hdec with
          | a :: m', _, hmr, hml, hmh, hdec =>
            have ha : 128 ≤ a.toNat := hmh a (by simp)
            have hd : Lib.decodeGoB (str (a :: (m' ++ quoL r ++ 34 :: rest))) = Lib.decodeL (c :: t) := by
              rw [decGoB_cons, ← hdec (quoL r ++ 34 :: rest)]
              congr 1
              simp
            simp only [List.cons_append] at hf ⊢
            rw [qs_go (by omega) (by omega) (by omega) (by rw [hd]; exact hnb), hd, ← hml]
            have e1 : (a :: (m' ++ quoL r ++ 34 :: rest)).take (a :: m').length = a :: m' := by
              rw [show a :: (m' ++ quoL r ++ 34 :: rest) = (a :: m') ++ (quoL r ++ 34 :: rest) by simp, List.take_left]
            have e2 : (a :: (m' ++ quoL r ++ 34 :: rest)).drop (a :: m').length = quoL r ++ 34 :: rest := by
              rw [show a :: (m' ++ quoL r ++ 34 :: rest) = (a :: m') ++ (quoL r ++ 34 :: rest) by simp, List.drop_left]
            rw [e1, e2, ih r (by simp only [List.length_cons] at hlen; omega) hv f' _ (by simp only [List.length_cons, List.length_append] at hf; omega)]
            simp
theorem qstr_quo (l rest : Bs) (hv : Lib.validD l = true) : qstr (quoL l ++ 34 :: rest) = some (l, rest) := by
  unfold qstr
  rw [qs_quo rest l.length l (Nat.le_refl _) hv _ [] (by simp; omega)]
  rfl
/-- A text that is a printed string is that string. -/
theorem parse_quo (l : Bs) (hv : Lib.validD l = true) (hl : (quoL l).length ≤ 19998) : parseM (34 :: (quoL l ++ [34])) = .ok (.mk 5 (str l) [] []) := by
  unfold parseM
  rw [if_neg (by simp; omega)]
  have h1 : lev 64 (34 :: (quoL l ++ [34])) = .ok (.mk 5 (str l) [] [], []) := by
    show valM (some (lev 63)) _ = _
    unfold valM
    rw [white_cons_no (by decide)]
    simp only
    rw [if_neg (by decide), if_neg (by decide), if_pos (show UInt8.toNat 34 = 34 from rfl), qstr_quo l [] hv]
  rw [h1]
  simp only [white_nil, if_true]
end Go.Proofs.YtjcnjaebmndeiaaDoor
