/-
  Plain Lean: an object of keys with numbers, as it is written, read again; one key more that is there already.
-/
import Derived.Test.YtjcnjaebmndeiaaDoorQtm
import Derived.Test.YtjcnjaebmndeiaaDoorNsv
namespace Go.Proofs.YtjcnjaebmndeiaaDoor

theorem str_id (s : ByteArray) : str s.data.toList = s := by cases s; simp [str]
/-- A number below 100. -/
def dgt (i : Nat) : Bs := if i < 10 then [UInt8.ofNat (48 + i)] else [UInt8.ofNat (48 + i / 10), UInt8.ofNat (48 + i % 10)]
def memK (p : ByteArray × Nat) : Bs := 34 :: (quoL p.1.data.toList ++ 34 :: 58 :: dgt p.2)
/-- Members, each with a comma ahead. -/
def txtK : List (ByteArray × Nat) → Bs
  | [] => []
  | p :: r => 44 :: (memK p ++ txtK r)
theorem txtK_app : ∀ (a b : List (ByteArray × Nat)), txtK (a ++ b) = txtK a ++ txtK b
  | [], b => rfl
  | p :: r, b => by rw [List.cons_append, txtK, txtK, txtK_app r b, List.cons_append, List.append_assoc]
def numJ (p : ByteArray × Nat) : J := .mk 4 (str (dgt p.2)) [] []

def Dgt (ds : Bs) : Prop := ds.all isDig = true ∧ 1 ≤ ds.length ∧ ds.length ≤ 2 ∧ (ds.length = 1 ∨ ds.head? ≠ some 48)
theorem dgt_fin : ∀ i : Fin 100, ((dgt i.val).all isDig && decide (1 ≤ (dgt i.val).length ∧ (dgt i.val).length ≤ 2 ∧ ((dgt i.val).length = 1 ∨ (dgt i.val).head? ≠ some 48))) = true := by decide +kernel
theorem dgt_ok (i : Nat) (h : i < 100) : Dgt (dgt i) := by
  have := dgt_fin ⟨i, h⟩
  simp only [Bool.and_eq_true, decide_eq_true_eq] at this
  exact ⟨this.1, this.2.1, this.2.2.1, this.2.2.2⟩
theorem takeWhile_stop {p : UInt8 → Bool} : ∀ (ds : Bs) (c : UInt8) (r : Bs), ds.all p = true → p c = false → (ds ++ c :: r).takeWhile p = ds
  | [], c, r, _, hc => by simp [hc]
  | d :: t, c, r, h, hc => by
    simp only [List.all_cons, Bool.and_eq_true] at h
    rw [List.cons_append, List.takeWhile_cons_of_pos h.1, takeWhile_stop t c r h.2 hc]
theorem isDig_nat {c : UInt8} (h : isDig c = true) : 48 ≤ c.toNat ∧ c.toNat ≤ 57 := by unfold isDig at h; simpa using h
theorem num_dgt {ds : Bs} (h : Dgt ds) (c : UInt8) (r : Bs) (hc : isDig c = false) : numM (ds ++ c :: r) = some (ds, c :: r) := by
  obtain ⟨h1, h2, h3, h4⟩ := h
  match ds, h1, h2, h3, h4 with
  | d :: t, h1, h2, h3, h4 =>
    have hd : isDig d = true := by simp only [List.all_cons, Bool.and_eq_true] at h1; exact h1.1
    have hdn := isDig_nat hd
    have hd45 : d ≠ 45 := fun e => by rw [e] at hdn; simp at hdn
    have hn : neg (d :: t ++ c :: r) = 0 := by unfold neg; rw [List.cons_append, List.head?_cons, if_neg (by simpa using hd45)]
    have hg : digs (d :: t ++ c :: r) = (d :: t).length := by unfold digs; rw [takeWhile_stop _ c r h1 hc]
    unfold numM
    rw [hn, List.drop_zero, hg, Nat.zero_add]
    have hcond : ¬ ((d :: t).length < 1 ∨ 19 < (d :: t).length ∨ (1 < (d :: t).length ∧ (d :: t ++ c :: r).head? = some 48)) := by
      rintro (h | h | ⟨h, h'⟩)
      · omega
      · omega
      · rcases h4 with h5 | h5
        · omega
        · exact h5 (by simpa using h')
    rw [if_neg hcond, List.take_left, List.drop_left, if_neg (by intro e; injection e with e _; exact hd45 e)]
theorem white_dig {d : UInt8} (h : isDig d = true) : isWhite d = false := by
  have := isDig_nat h
  unfold isWhite; simp; omega
theorem lev_dgt {ds : Bs} (h : Dgt ds) (c : UInt8) (r : Bs) (hc : isDig c = false) : lev 63 (ds ++ c :: r) = .ok (.mk 4 (str ds) [] [], c :: r) := by
  have hn := num_dgt h c r hc
  obtain ⟨h1, h2, h3, h4⟩ := h
  match ds, h1, h2, hn with
  | d :: t, h1, h2, hn =>
    have hd : isDig d = true := by simp only [List.all_cons, Bool.and_eq_true] at h1; exact h1.1
    have hdn := isDig_nat hd
    show valM (some (lev 62)) _ = _
    unfold valM
    rw [List.cons_append] at hn ⊢
    rw [white_cons_no (white_dig hd)]
    simp only
    rw [if_neg (by omega), if_neg (by omega), if_neg (by omega)]
    unfold plainM
    have pf : ∀ (a : UInt8) (m : Bs), a.toNat > 57 → ((a :: m).isPrefixOf (d :: (t ++ c :: r))) = false := fun a m ha => by
      simp only [List.isPrefixOf, Bool.and_eq_false_iff, beq_eq_false_iff_ne]
      left; intro e; rw [e] at ha; omega
    rw [show wordNull = 110 :: [117, 108, 108] from rfl, pf 110 _ (by decide), show wordFalse = 102 :: [97, 108, 115, 101] from rfl, pf 102 _ (by decide), show wordTrue = 116 :: [114, 117, 101] from rfl, pf 116 _ (by decide), hn]
    rfl
theorem head_key (ks : List ByteArray) (k : ByteArray) (r : Bs) (hv : Lib.validD k.data.toList = true) : headM true ks (34 :: (quoL k.data.toList ++ 34 :: 58 :: r)) = if ks.any (fun x => decide (x = k)) then .error 7 else .ok (ks ++ [k], r) := by
  unfold headM keyM
  rw [white_cons_no (by decide)]
  simp only [if_true]
  rw [if_pos (show UInt8.toNat 34 = 34 from rfl), qstr_quo _ _ hv]
  simp only [str_id]
  by_cases h : (ks.any fun x => decide (x = k)) = true
  · rw [if_pos h, if_pos h]
  · rw [if_neg h, if_neg h, white_cons_no (by decide)]
    simp only
    rw [if_pos (show UInt8.toNat 58 = 58 from rfl)]
theorem any_false {ks : List ByteArray} {k : ByteArray} (h : k ∉ ks) : ks.any (fun x => decide (x = k)) = false := by
  rw [List.any_eq_false]
  intro x hx
  simp only [decide_eq_true_eq]
  intro e; subst e; exact h hx
theorem any_true {ks : List ByteArray} {k : ByteArray} (h : k ∈ ks) : ks.any (fun x => decide (x = k)) = true := by
  rw [List.any_eq_true]
  exact ⟨k, h, by simp⟩
/-- What the rows ask: their keys are UTF-8, and none is there twice. -/
def RowsOk (ks : List ByteArray) (rows : List (ByteArray × Nat)) : Prop :=
  (∀ p, p ∈ rows → Lib.validD p.1.data.toList = true ∧ p.2 < 100) ∧ (ks ++ rows.map Prod.fst).Nodup
theorem RowsOk.head {ks : List ByteArray} {p : ByteArray × Nat} {r : List (ByteArray × Nat)} (h : RowsOk ks (p :: r)) : p.1 ∉ ks ∧ Lib.validD p.1.data.toList = true ∧ p.2 < 100 ∧ RowsOk (ks ++ [p.1]) r := by
  obtain ⟨h1, h2⟩ := h
  have hp := h1 p (by simp)
  have e : ks ++ (p :: r).map Prod.fst = (ks ++ [p.1]) ++ r.map Prod.fst := by simp
  refine ⟨fun hm => ?_, hp.1, hp.2, fun q hq => h1 q (by simp [hq]), by rw [← e]; exact h2⟩
  rw [List.nodup_append] at h2
  exact h2.2.2 _ hm p.1 (by simp) rfl
theorem memK_app (p : ByteArray × Nat) (z : Bs) : memK p ++ z = 34 :: (quoL p.1.data.toList ++ 34 :: 58 :: (dgt p.2 ++ z)) := by unfold memK; simp
theorem loopM_two {sub : Bs → Res} {f : Nat} {ks ks' : List ByteArray} {l : List J} {xs ys zs r : Bs} {v : J} {c : UInt8} (hh : headM true ks xs = .ok (ks', ys)) (hv : sub ys = .ok (v, zs)) (hw : white zs = c :: r) :
    loopM sub true (f + 1) ks l xs = if c.toNat = 44 then loopM sub true f ks' (l ++ [v]) r else if c.toNat = 125 then .ok (.mk 7 ByteArray.empty (l ++ [v]) ks', r) else .error 4 := by
  rw [loopM, hh]
  simp only
  rw [hv]
  simp only
  rw [hw]
  rfl
theorem loop_rows (z : Bs) : ∀ (rows : List (ByteArray × Nat)) (p : ByteArray × Nat) (f : Nat) (ks : List ByteArray) (l : List J), rows.length < f → RowsOk ks (p :: rows) →
    loopM (lev 63) true f ks l (memK p ++ (txtK rows ++ 125 :: z)) = .ok (.mk 7 ByteArray.empty (l ++ (p :: rows).map numJ) (ks ++ (p :: rows).map Prod.fst), z)
  | [], p, f, ks, l, hf, hok => by
    obtain ⟨f', rfl⟩ : ∃ f', f = f' + 1 := ⟨f - 1, by simp at hf; omega⟩
    obtain ⟨hn, hv, hi, _⟩ := hok.head
    have hh := head_key ks p.1 (dgt p.2 ++ (txtK [] ++ 125 :: z)) hv
    rw [any_false hn] at hh
    rw [memK_app, loopM_two hh (lev_dgt (dgt_ok p.2 hi) 125 z (by decide)) (white_cons_no (by decide)), if_neg (by decide), if_pos (by decide)]
    rfl
  | q :: rows, p, f, ks, l, hf, hok => by
    obtain ⟨f', rfl⟩ : ∃ f', f = f' + 1 := ⟨f - 1, by simp at hf; omega⟩
    obtain ⟨hn, hv, hi, hok'⟩ := hok.head
    have hh := head_key ks p.1 (dgt p.2 ++ (txtK (q :: rows) ++ 125 :: z)) hv
    rw [any_false hn] at hh
    have ih := loop_rows z rows q f' (ks ++ [p.1]) (l ++ [numJ p]) (by simp at hf; omega) hok'
    have e : dgt p.2 ++ (txtK (q :: rows) ++ 125 :: z) = dgt p.2 ++ 44 :: (memK q ++ (txtK rows ++ 125 :: z)) := by rw [txtK]; simp
    rw [memK_app, loopM_two hh (by rw [e]; exact lev_dgt (dgt_ok p.2 hi) 44 _ (by decide)) (white_cons_no (by decide)), if_pos (by decide)]
    rw [show J.mk 4 (str (dgt p.2)) [] [] = numJ p from rfl, ih]
    simp
theorem loop_twice (k : ByteArray) (z : Bs) (hk : Lib.validD k.data.toList = true) : ∀ (rows : List (ByteArray × Nat)) (p : ByteArray × Nat) (f : Nat) (ks : List ByteArray) (l : List J), rows.length + 1 < f → RowsOk ks (p :: rows) → k ∈ ks ++ (p :: rows).map Prod.fst →
    loopM (lev 63) true f ks l (memK p ++ (txtK rows ++ 44 :: 34 :: (quoL k.data.toList ++ 34 :: 58 :: z))) = .error 7
  | [], p, f, ks, l, hf, hok, hm => by
    obtain ⟨f', rfl⟩ : ∃ f', f = f' + 2 := ⟨f - 2, by simp at hf; omega⟩
    obtain ⟨hn, hv, hi, _⟩ := hok.head
    have hh := head_key ks p.1 (dgt p.2 ++ (txtK [] ++ 44 :: 34 :: (quoL k.data.toList ++ 34 :: 58 :: z))) hv
    rw [any_false hn] at hh
    rw [memK_app, loopM_two hh (lev_dgt (dgt_ok p.2 hi) 44 _ (by decide)) (white_cons_no (by decide)), if_pos (by decide)]
    have hh2 := head_key (ks ++ [p.1]) k z hk
    rw [any_true (by simpa using hm)] at hh2
    rw [loopM, hh2]
    rfl
  | q :: rows, p, f, ks, l, hf, hok, hm => by
    obtain ⟨f', rfl⟩ : ∃ f', f = f' + 1 := ⟨f - 1, by simp at hf; omega⟩
    obtain ⟨hn, hv, hi, hok'⟩ := hok.head
    have hh := head_key ks p.1 (dgt p.2 ++ (txtK (q :: rows) ++ 44 :: 34 :: (quoL k.data.toList ++ 34 :: 58 :: z))) hv
    rw [any_false hn] at hh
    have ih := loop_twice k z hk rows q f' (ks ++ [p.1]) (l ++ [numJ p]) (by simp at hf; omega) hok' (by simpa using hm)
    have e : dgt p.2 ++ (txtK (q :: rows) ++ 44 :: 34 :: (quoL k.data.toList ++ 34 :: 58 :: z)) = dgt p.2 ++ 44 :: (memK q ++ (txtK rows ++ 44 :: 34 :: (quoL k.data.toList ++ 34 :: 58 :: z))) := by rw [txtK]; simp
    rw [memK_app, loopM_two hh (by rw [e]; exact lev_dgt (dgt_ok p.2 hi) 44 _ (by decide)) (white_cons_no (by decide)), if_pos (by decide)]
    exact ih
/-- Behind the first comma. -/
def bodyK : List (ByteArray × Nat) → Bs
  | [] => []
  | p :: r => memK p ++ txtK r
theorem bodyK_eq (rows : List (ByteArray × Nat)) : (txtK rows).drop 1 = bodyK rows := by cases rows <;> rfl
theorem lev64_obj (p : ByteArray × Nat) (r : Bs) : lev 64 (123 :: (memK p ++ r)) = loopM (lev 63) true ((memK p ++ r).length + 1) [] [] (memK p ++ r) := by
  show valM (some (lev 63)) _ = _
  unfold valM
  rw [white_cons_no (by decide)]
  simp only
  rw [if_neg (by decide), if_pos (show UInt8.toNat 123 = 123 from rfl)]
  unfold manyM
  rw [memK_app, white_cons_no (by decide)]
  simp only
  rw [if_neg (by decide)]
theorem txtK_len : ∀ (rows : List (ByteArray × Nat)), rows.length ≤ (txtK rows).length
  | [] => by simp
  | p :: r => by have := txtK_len r; rw [txtK]; simp only [List.length_cons, List.length_append]; omega
theorem parse_rows (rows : List (ByteArray × Nat)) (h0 : rows ≠ []) (hok : RowsOk [] rows) (hl : (bodyK rows).length ≤ 19998) :
    parseM (123 :: (bodyK rows ++ [125])) = .ok (.mk 7 ByteArray.empty (rows.map numJ) (rows.map Prod.fst)) := by
  match rows, h0, hok, hl with
  | p :: r, _, hok, hl =>
    have ht := txtK_len r
    unfold parseM
    rw [if_neg (by simp only [List.length_cons, List.length_append, List.length_nil]; omega)]
    have h1 : lev 64 (123 :: (bodyK (p :: r) ++ [125])) = .ok (.mk 7 ByteArray.empty ((p :: r).map numJ) ((p :: r).map Prod.fst), []) := by
      rw [bodyK, List.append_assoc, lev64_obj, loop_rows [] r p _ [] [] (by simp only [List.length_append]; omega) hok]
      rfl
    rw [h1]
    simp only [white_nil, if_true]
theorem parse_twice (rows : List (ByteArray × Nat)) (k : ByteArray) (hk : k ∈ rows.map Prod.fst) (hok : RowsOk [] rows) (hl : (bodyK rows).length ≤ 13000) (hkl : (quoL k.data.toList).length ≤ 6000) :
    parseM (123 :: (bodyK rows ++ 44 :: 34 :: (quoL k.data.toList ++ 34 :: 58 :: [110, 117, 108, 108, 125]))) = .error 7 := by
  match rows, hk, hok, hl with
  | p :: r, hk, hok, hl =>
    have ht := txtK_len r
    obtain ⟨q, hq, rfl⟩ := List.mem_map.1 hk
    have hv := (hok.1 q hq).1
    unfold parseM
    rw [if_neg (by simp only [List.length_cons, List.length_append, List.length_nil]; omega)]
    have h1 : lev 64 (123 :: (bodyK (p :: r) ++ 44 :: 34 :: (quoL q.1.data.toList ++ 34 :: 58 :: [110, 117, 108, 108, 125]))) = .error 7 := by
      rw [bodyK, List.append_assoc, lev64_obj, loop_twice q.1 _ hv r p _ [] [] (by simp only [List.length_append, List.length_cons]; omega) hok (by simpa using hk)]
    rw [h1]
end Go.Proofs.YtjcnjaebmndeiaaDoor
