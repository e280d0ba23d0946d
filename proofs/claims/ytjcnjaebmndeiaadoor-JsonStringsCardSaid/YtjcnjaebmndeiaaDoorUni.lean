/-
  Plain Lean: a string with each sign written as \u and its digits, read again: it is that string.
-/
import Derived.Test.YtjcnjaebmndeiaaDoorQtm
import Derived.Lib.MapLaws
namespace Go.Proofs.YtjcnjaebmndeiaaDoor

def hexU (n : Nat) : UInt8 := if n < 10 then UInt8.ofNat (48 + n) else if n % 2 = 0 then UInt8.ofNat (87 + n) else UInt8.ofNat (55 + n)
theorem hexU_fin : ∀ n : Fin 16, hexD (hexU n.val) = some n.val := by decide
theorem hexU_D (n : Nat) (h : n < 16) : hexD (hexU n) = some n := hexU_fin ⟨n, h⟩
/-- A number's four digits of 16, with what stands ahead of them. -/
def fourU (n : Nat) : Bs := [92, 117, hexU (n / 4096 % 16), hexU (n / 256 % 16), hexU (n / 16 % 16), hexU (n % 16)]
theorem hex4_four (n : Nat) (h : n < 65536) (r : Bs) : hex4 (hexU (n / 4096 % 16) :: hexU (n / 256 % 16) :: hexU (n / 16 % 16) :: hexU (n % 16) :: r) = some (n, r) := by
  simp only [hex4]
  rw [hexU_D _ (Nat.mod_lt _ (by decide)), hexU_D _ (Nat.mod_lt _ (by decide)), hexU_D _ (Nat.mod_lt _ (by decide)), hexU_D _ (Nat.mod_lt _ (by decide))]
  simp only
  congr 2
  omega
/-- A sign as it is written so: one, or two. -/
def uniR (c : Nat) : Bs := if 65536 ≤ c then fourU (55296 + (c - 65536) / 1024) ++ fourU (56320 + (c - 65536) % 1024) else fourU c
def uniL : List Nat → Bs
  | [] => []
  | c :: r => uniR c ++ uniL r
theorem uniL_app : ∀ (a b : List Nat), uniL (a ++ b) = uniL a ++ uniL b
  | [], b => rfl
  | c :: r, b => by rw [List.cons_append, uniL, uniL, uniL_app r b, List.append_assoc]
theorem uniR_len (c : Nat) : 6 ≤ (uniR c).length ∧ (uniR c).length ≤ 12 := by
  unfold uniR; split <;> simp [fourU]
theorem uniL_len : ∀ (l : List Nat), (uniL l).length ≤ 12 * l.length
  | [] => by simp [uniL]
  | c :: r => by have := uniL_len r; have := uniR_len c; rw [uniL]; simp only [List.length_append, List.length_cons]; omega
/-- The signs of a text. -/
def runesN : Nat → Bs → List Nat
  | 0, _ => []
  | _ + 1, [] => []
  | n + 1, c :: t => (Lib.decodeL (c :: t)).1 :: runesN n ((c :: t).drop (Lib.decodeL (c :: t)).2)
theorem runesN_len : ∀ (n : Nat) (l : Bs), (runesN n l).length ≤ n
  | 0, _ => by simp [runesN]
  | _ + 1, [] => by simp [runesN]
  | n + 1, c :: t => by have := runesN_len n ((c :: t).drop (Lib.decodeL (c :: t)).2); rw [runesN]; simp only [List.length_cons]; omega
theorem rune_bounds (l : Bs) : ((Lib.decodeL l).1 < 55296 ∨ 57344 ≤ (Lib.decodeL l).1) ∧ (Lib.decodeL l).1 ≤ 1114111 ∧ 1 ≤ (Lib.decodeL l).2 := by
  rw [Lib.decodeL_N]
  have k0 := (l.getD 0 0).toNat_lt
  have k1 := (l.getD 1 0).toNat_lt
  have k2 := (l.getD 2 0).toNat_lt
  have k3 := (l.getD 3 0).toNat_lt
  rcases Lib.decodeN_shape l.length (l.getD 0 0).toNat (l.getD 1 0).toNat (l.getD 2 0).toNat (l.getD 3 0).toNat with ⟨c, e⟩ | ⟨c1, c2, c3, cv, e⟩ | ⟨c1, c2, c3, c4, cv, cs, e⟩ | ⟨c1, c2, c3, c4, c5, cv, cw, e⟩ | e
  all_goals
    rw [e]
    dsimp only
    omega
def dg4 (v : Nat) (r : Bs) : Bs := hexU (v / 4096 % 16) :: hexU (v / 256 % 16) :: hexU (v / 16 % 16) :: hexU (v % 16) :: r
theorem hex4_dg (v : Nat) (h : v < 65536) (r : Bs) : hex4 (dg4 v r) = some (v, r) := hex4_four v h r
theorem codedU_one (v : Nat) (h : v < 65536) (h1 : v < 55296 ∨ 57344 ≤ v) (r : Bs) : codedM (dg4 v r) = some ((v : Int), r) := by
  unfold codedM
  rw [hex4_dg v h]
  exact if_pos h1
theorem codedU_pair (v z : Nat) (h : v < 65536) (k : z < 65536) (h1 : ¬ (v < 55296 ∨ 57344 ≤ v)) (h2 : ¬ 56320 ≤ v) (k1 : 56320 ≤ z ∧ z < 57344) (r : Bs) :
    codedM (dg4 v (92 :: 117 :: dg4 z r)) = some (65536 + ((v : Int) - 55296) * 1024 + ((z : Int) - 56320), r) := by
  unfold codedM
  rw [hex4_dg v h]
  refine (if_neg h1).trans ((if_neg h2).trans ((if_pos ⟨rfl, rfl⟩).trans ?_))
  rw [hex4_dg z k]
  exact if_pos k1
theorem esc_u (x : Bs) : escM (117 :: x) = codedM x := by rw [escM, if_pos (show UInt8.toNat 117 = 117 from rfl)]
theorem esc_uni (c : Nat) (h1 : c < 55296 ∨ 57344 ≤ c) (h2 : c ≤ 1114111) (r : Bs) : ∃ t, uniR c ++ r = 92 :: t ∧ escM t = some ((c : Int), r) := by
  unfold uniR
  split
  · rename_i hb
    have e1 : (c : Int) = 65536 + (((55296 + (c - 65536) / 1024 : Nat) : Int) - 55296) * 1024 + (((56320 + (c - 65536) % 1024 : Nat) : Int) - 56320) := by omega
    have a1 : ¬ (55296 + (c - 65536) / 1024 < 55296 ∨ 57344 ≤ 55296 + (c - 65536) / 1024) := by omega
    have a2 : ¬ 56320 ≤ 55296 + (c - 65536) / 1024 := by omega
    have a3 : 56320 ≤ 56320 + (c - 65536) % 1024 ∧ 56320 + (c - 65536) % 1024 < 57344 := by omega
    have a4 : 55296 + (c - 65536) / 1024 < 65536 := by omega
    have a5 : 56320 + (c - 65536) % 1024 < 65536 := by omega
    rw [e1]
    generalize 55296 + (c - 65536) / 1024 = v at *
    generalize 56320 + (c - 65536) % 1024 = z at *
    exact ⟨117 :: dg4 v (92 :: 117 :: dg4 z r), rfl, (esc_u _).trans (codedU_pair v z a4 a5 a1 a2 a3 r)⟩
  · rename_i hb
    exact ⟨117 :: dg4 c r, rfl, (esc_u _).trans (codedU_one c (by omega) h1 r)⟩
theorem qs_uni (rest : Bs) : ∀ (n : Nat) (l : Bs), l.length ≤ n → Lib.validD l = true → ∀ (f : Nat) (acc : Bs), (uniL (runesN n l)).length < f → qs f acc (uniL (runesN n l) ++ 34 :: rest) = some (acc ++ l, rest) := by
  intro n
  induction n with
  | zero =>
    intro l hl hv f acc hf
    have : l = [] := List.eq_nil_of_length_eq_zero (by omega)
    subst this
    obtain ⟨f', rfl⟩ : ∃ f', f = f' + 1 := ⟨f - 1, by omega⟩
    show qs (f' + 1) acc (34 :: rest) = _
    rw [qs_quote rfl, List.append_nil]
  | succ n ih =>
    intro l hl hv f acc hf
    match l, hl, hv, hf with
    | [], _, _, hf =>
      obtain ⟨f', rfl⟩ : ∃ f', f = f' + 1 := ⟨f - 1, by omega⟩
      show qs (f' + 1) acc (34 :: rest) = _
      rw [qs_quote rfl, List.append_nil]
    | c :: t, hl, hv, hf =>
      obtain ⟨f', rfl⟩ : ∃ f', f = f' + 1 := ⟨f - 1, by omega⟩
      simp only [List.length_cons] at hl
      rw [Lib.validD_step _ (by simp)] at hv
      split at hv
      · cases hv
      · rename_i hnb
        have hen := Lib.encode_decode (c :: t) (by simp) hnb
        have hrb := rune_bounds (c :: t)
        rw [runesN, uniL] at hf ⊢
        obtain ⟨y, hy, hes⟩ := esc_uni (Lib.decodeL (c :: t)).1 hrb.1 hrb.2.1 (uniL (runesN n ((c :: t).drop (Lib.decodeL (c :: t)).2)) ++ 34 :: rest)
        have hu := uniR_len (Lib.decodeL (c :: t)).1
        rw [List.append_assoc, hy, qs_esc rfl, hes]
        simp only
        rw [hen, ih _ (by simp only [List.length_drop, List.length_cons]; omega) hv f' _ (by simp only [List.length_append] at hf; omega), List.append_assoc, List.take_append_drop]
/-- A text with each sign so is that string. -/
theorem parse_uni (l : Bs) (hv : Lib.validD l = true) (hl : l.length ≤ 500) : parseM (34 :: (uniL (runesN l.length l) ++ [34])) = .ok (.mk 5 (str l) [] []) := by
  have h1 := uniL_len (runesN l.length l)
  have h2 := runesN_len l.length l
  unfold parseM
  rw [if_neg (by simp; omega)]
  have h1 : lev 64 (34 :: (uniL (runesN l.length l) ++ [34])) = .ok (.mk 5 (str l) [] [], []) := by
    show valM (some (lev 63)) _ = _
    unfold valM
    rw [white_cons_no (by decide)]
    simp only
    rw [if_neg (by decide), if_neg (by decide), if_pos (show UInt8.toNat 34 = 34 from rfl)]
    unfold qstr
    rw [qs_uni [] l.length l (Nat.le_refl _) hv _ [] (by simp; omega)]
    rfl
  rw [h1]
  simp only [white_nil, if_true]
end Go.Proofs.YtjcnjaebmndeiaaDoor
