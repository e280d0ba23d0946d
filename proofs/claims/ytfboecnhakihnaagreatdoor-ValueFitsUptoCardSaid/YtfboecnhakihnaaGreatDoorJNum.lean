/-
  The program's 'numeral': how many bytes of a text are a number.
-/
import Derived.Test.YtfboecnhakihnaaGreatDoorJPar
import Derived.Test.YtfboecnhakihnaaGreatDoorShelf
namespace Go.Proofs.YtfboecnhakihnaaGreatDoor.js
open Go.RowKit

theorem digs_nil : digs [] = 0 := rfl
theorem digs_yes {c : UInt8} {r : Bs} (h : isDig c = true) : digs (c :: r) = digs r + 1 := by simp [digs, h]
theorem digs_no {c : UInt8} {r : Bs} (h : isDig c = false) : digs (c :: r) = 0 := by simp [digs, h]
theorem isDig_yes {c : UInt8} (h : 48 ≤ c.toNat ∧ c.toNat ≤ 57) : isDig c = true := decide_eq_true h
theorem isDig_no {c : UInt8} (h : ¬ (48 ≤ c.toNat ∧ c.toNat ≤ 57)) : isDig c = false := decide_eq_false h
theorem numN_zero {xs : Bs} (h0 : (xs.drop (neg xs)).head? = some 48) : numN xs = neg xs + 1 := by rw [numN, if_pos h0]
theorem numN_end {xs : Bs} (h0 : (xs.drop (neg xs)).head? ≠ some 48) {j : Nat} (hj : digs (xs.drop (neg xs)) = j ∨ (j = 20 ∧ 20 ≤ digs (xs.drop (neg xs)))) :
    ((j = 0 ∨ 19 < j) → numN xs = 0) ∧ (0 < j → j ≤ 19 → numN xs = neg xs + j) := by
  constructor
  · intro h; rw [numN, if_neg h0, if_pos (by omega)]
  · intro h1 h2; rw [numN, if_neg h0, if_neg (by omega)]; omega

/-- 'strings.TrimPrefix(text, "-")': how long it is. -/
theorem trim_any (t : ByteArray) (w : World) : Calls Tryz.prog 101 #[.string t, .string ⟨#[45]⟩] w fun e w' => ∃ u : ByteArray, e = .returned (.string u) ∧ Hid (u.size + neg t.data.toList = t.size) ∧ w = w' := by
  refine (Tryz.strings_TrimPrefix t ⟨#[45]⟩ w).mono ?_
  rintro e w' ⟨rfl, rfl⟩
  refine ⟨_, rfl, ?_, rfl⟩
  show _ = _
  rw [size_len, size_len t]
  generalize t.data.toList = l
  cases l with
  | nil => rfl
  | cons c r =>
    by_cases h : c = 45
    · subst h; rfl
    · have h1 : Lib.trimPrefix (c :: r) [45] = c :: r := by simp [Lib.trimPrefix, Lib.hasPrefix, List.isPrefixOf, Ne.symm h]
      have h2 : neg (c :: r) = 0 := by simp [neg, h]
      rw [h2]
      show (Lib.trimPrefix (c :: r) [45]).toArray.toList.length + 0 = _
      rw [h1]; rfl

theorem neg_le (xs : Bs) : neg xs ≤ 1 ∧ neg xs ≤ xs.length := by
  unfold neg; split
  · cases xs with
    | nil => simp at *
    | cons _ _ => simp
  · simp

theorem ret_int {k : IntKind} {a b : Int} (h : a = b) : Ending.returned (.int k a) = .returned (.int k b) := by rw [h]
theorem toNat48 {c : UInt8} (h : c = 48) : c.toNat = 48 := by rw [h]; rfl
theorem of48 {c : UInt8} (h : c.toNat = 48) : c = 48 := UInt8.toNat.inj h
set_option maxHeartbeats 1000000 in
theorem numeral_any (t : ByteArray) (w : World) (hs : t.size ≤ 30000) :
    Calls Tryz.prog 86 #[.string t] w fun e w' => e = .returned (.int .i64 (numN t.data.toList)) ∧ w = w' := by
  have hat0 := (At.start t).drop (neg t.data.toList) (neg_le _).2
  have hend : ∀ {j : Nat}, (t.data.toList.drop (neg t.data.toList)).head? ≠ some 48 → _ → _ := fun {j} h0 hj => numN_end (xs := t.data.toList) h0 (j := j) hj
  have hzer := numN_zero (xs := t.data.toList)
  have htr := trim_any t w
  have hf1 := (neg_le t.data.toList).1
  generalize neg t.data.toList = f at *
  generalize numN t.data.toList = R at *
  generalize t.data.toList.drop f = ys at *
  have HE : Hid (∀ {j : Nat}, ys.head? ≠ some 48 → (digs ys = j ∨ j = 20 ∧ 20 ≤ digs ys) → (j = 0 ∨ 19 < j → R = 0) ∧ (0 < j → j ≤ 19 → R = f + j)) := hend
  have HZ := Lib.hid hzer
  clear hend hzer
  go_enter Tryz.func86, Tryz.ntmps86
  go_wp2
  go_step3
  go_wp2_with fail
  refine htr.mono ?_
  rintro e w1 ⟨u, rfl, HU, rfl⟩
  clear htr
  have hu : u.size ≤ t.size := by have := HU.out; omega
  go_wp2
  go_step3
  go_wp2
  have e1 : ((t.size : Int) - (u.size : Int)) = (f : Int) := by have := HU.out; omega
  simp only [e1]
  clear e1 hu HU
  go_loopg [4] ys.length (fun g i wr => ∃ (j : Nat) (zs : Bs), zs.length = g ∧ i = .int .i64 ((f + j : Nat) : Int) ∧ At t (f + j) zs ∧ j ≤ 20 ∧ Hid (digs ys = j + digs zs) ∧ Hid (ys.head? = some 48 → j = 0) ∧ Hid (j = 0 → zs = ys) ∧ w = wr)
  case atStart => exact ⟨0, ys, rfl, rfl, by simpa using hat0, by omega, (by show _ = _; omega), fun _ => rfl, fun _ => rfl, rfl⟩
  case round =>
    obtain ⟨j, zs, hg, rfl, ha, hj, HD, H48, HZs, rfl⟩ := hrel
    have HG := Lib.hid hg
    clear hg
    cases zs with
    | nil =>
      have hk : ¬ f + j < t.size := by have := ha.nil; omega
      have h48 : ys.head? ≠ some 48 := by
        intro e
        have := HZs.out (H48.out e)
        rw [← this] at e; cases e
      obtain ⟨hz, hp⟩ := HE.out h48 (j := j) (.inl (by rw [HD.out, digs_nil]; rfl))
      have HF := Lib.hid (And.intro hz hp)
      clear hz hp HE HZ HD H48 HZs h48
      go_wp2
      all_goals
        go_ret
        refine ⟨ret_int ?_, rfl⟩
        obtain ⟨hz, hp⟩ := HF.out
        (try simp only [beq_iff_eq, beq_eq_false_iff_ne, ne_eq] at *)
        omega
    | cons c r =>
      have hlt := ha.lt
      have hget := ha.get hlt
      have hk : f + j < t.size := hlt
      have h1 : ¬ (48 ≤ c.toNat ∧ c.toNat ≤ 57) → ((j = 0 ∨ 19 < j) → R = 0) ∧ (0 < j → j ≤ 19 → R = f + j) := by
        intro hd
        refine HE.out ?_ (.inl (by rw [HD.out, digs_no (isDig_no hd)]; rfl))
        intro e
        have h0 := H48.out e
        rw [← HZs.out h0] at e
        have := toNat48 (Option.some.inj e)
        omega
      have h2 : c.toNat = 48 → j = 0 → R = f + 1 := by
        intro hc h0
        have := HZs.out h0
        exact HZ.out (by rw [← this]; simp [of48 hc])
      have h3 : j = 20 → R = 0 := by
        intro h20
        refine (HE.out (j := 20) ?_ (.inr ⟨rfl, by rw [HD.out]; omega⟩)).1 (by omega)
        intro e
        have := H48.out e
        omega
      have HF := Lib.hid (And.intro h1 (And.intro h2 h3))
      clear h1 h2 h3
      go_wp2
      all_goals first
        | ((try rw [Exit.noGoto_ret])
           go_ret
           refine ⟨ret_int ?_, rfl⟩
           obtain ⟨h1, h2, h3⟩ := HF.out
           (try simp only [beq_iff_eq, beq_eq_false_iff_ne, ne_eq] at *)
           omega)
        | (go_roundg r.length
           case measure => have := HG.out; simp at this; omega
           case rel =>
             have hd : 48 ≤ c.toNat ∧ c.toNat ≤ 57 := by (try simp only [beq_iff_eq, beq_eq_false_iff_ne, ne_eq] at *); omega
             refine ⟨j + 1, r, rfl, by go_num, by have := ha.tail; simpa [Nat.add_assoc] using this, ?_, ?_, ?_, ?_, rfl⟩
             · (try simp only [beq_iff_eq, beq_eq_false_iff_ne, ne_eq] at *); omega
             · show _ = _; rw [HD.out, digs_yes (isDig_yes hd)]; omega
             · intro e
               have h0 := H48.out e
               rw [← HZs.out h0] at e
               have := toNat48 (Option.some.inj e)
               (try simp only [beq_iff_eq, beq_eq_false_iff_ne, ne_eq] at *); omega
             · intro e; omega)
end Go.Proofs.YtfboecnhakihnaaGreatDoor.js
