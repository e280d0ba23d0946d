/-
  Plain Lean, no Go text: texts of JSON as the document reads them, over lists of bytes: what a text is as a value, or which fault it has first.
-/
import Derived.Lib.RuneBytes
import Derived.Lib.TrimU
namespace Go.Proofs.YtfboecnhakihnaaGreatDoor.js

/-- A JSON value: its kind, its text, what is within it, its keys. -/
inductive J where
  | mk (k : Nat) (t : ByteArray) (l : List J) (ks : List ByteArray)

abbrev Bs := List UInt8
instance : DecidableEq ByteArray := fun a b => decidable_of_iff (a.data = b.data) ⟨fun h => by cases a; cases b; cases h; rfl, fun h => by rw [h]⟩
def str (l : Bs) : ByteArray := ⟨l.toArray⟩
def isWhite (c : UInt8) : Bool := decide (c.toNat = 32 ∨ c.toNat = 9 ∨ c.toNat = 10 ∨ c.toNat = 13)
def isDig (c : UInt8) : Bool := decide (48 ≤ c.toNat ∧ c.toNat ≤ 57)
def white (xs : Bs) : Bs := xs.dropWhile isWhite

/-- A number at the front: its text, and what is behind it. -/
def neg (xs : Bs) : Nat := if xs.head? = some 45 then 1 else 0
def digs (xs : Bs) : Nat := (xs.takeWhile isDig).length
def numM (xs : Bs) : Option (Bs × Bs) :=
  if digs (xs.drop (neg xs)) < 1 ∨ 19 < digs (xs.drop (neg xs)) ∨ (1 < digs (xs.drop (neg xs)) ∧ (xs.drop (neg xs)).head? = some 48) then none
  else some (if xs.take (neg xs + digs (xs.drop (neg xs))) = [45, 48] then [48] else xs.take (neg xs + digs (xs.drop (neg xs))), xs.drop (neg xs + digs (xs.drop (neg xs))))
/-- How many bytes the program takes for a number. -/
def numN (xs : Bs) : Nat :=
  if (xs.drop (neg xs)).head? = some 48 then neg xs + 1
  else if digs (xs.drop (neg xs)) < 1 ∨ 19 < digs (xs.drop (neg xs)) then 0 else neg xs + digs (xs.drop (neg xs))

/-- A digit of 16. -/
def hexD (c : UInt8) : Option Nat :=
  if 48 ≤ c.toNat ∧ c.toNat ≤ 57 then some (c.toNat - 48)
  else if 97 ≤ c.toNat ∧ c.toNat ≤ 102 then some (c.toNat - 87)
  else if 65 ≤ c.toNat ∧ c.toNat ≤ 70 then some (c.toNat - 55) else none
def hex4 : Bs → Option (Nat × Bs)
  | a :: b :: c :: d :: r => match hexD a, hexD b, hexD c, hexD d with
    | some x, some y, some z, some u => some (((x * 16 + y) * 16 + z) * 16 + u, r)
    | _, _, _, _ => none
  | _ => none
/-- Behind backslash and u: the rune, and what is behind it. -/
def codedM (xs : Bs) : Option (Int × Bs) :=
  match hex4 xs with
  | none => none
  | some (v, r) => if v < 55296 ∨ 57344 ≤ v then some ((v : Int), r) else if 56320 ≤ v then none else
    match r with
    | a :: b :: r' => if a.toNat = 92 ∧ b.toNat = 117 then
        match hex4 r' with
        | none => none
        | some (u, r'') => if 56320 ≤ u ∧ u < 57344 then some (65536 + ((v : Int) - 55296) * 1024 + ((u : Int) - 56320), r'') else none
      else none
    | _ => none
def escC (c : UInt8) : Option Nat :=
  if c.toNat = 34 then some 34 else if c.toNat = 92 then some 92 else if c.toNat = 47 then some 47 else if c.toNat = 98 then some 8 else if c.toNat = 102 then some 12
  else if c.toNat = 110 then some 10 else if c.toNat = 114 then some 13 else if c.toNat = 116 then some 9 else none
/-- Behind a backslash. -/
def escM : Bs → Option (Int × Bs)
  | [] => none
  | c :: r => if c.toNat = 117 then codedM r else match escC c with
    | none => none
    | some b => some ((b : Int), r)
/-- A string behind its first quote: what it says, and what is behind its last quote. -/
def qs : Nat → Bs → Bs → Option (Bs × Bs)
  | 0, _, _ => none
  | _ + 1, _, [] => none
  | f + 1, acc, c :: r =>
    if c.toNat = 34 then some (acc, r)
    else if c.toNat = 92 then match escM r with
      | none => none
      | some (u, r') => qs f (acc ++ Lib.encodeRune u) r'
    else if c.toNat < 32 then none
    else if (Lib.decodeGoB (str (c :: r))).1 = 65533 ∧ (Lib.decodeGoB (str (c :: r))).2 = 1 then none
    else qs f (acc ++ (c :: r).take (Lib.decodeGoB (str (c :: r))).2) ((c :: r).drop (Lib.decodeGoB (str (c :: r))).2)
def qstr (xs : Bs) : Option (Bs × Bs) := qs (xs.length + 1) [] xs

abbrev Res := Except Nat (J × Bs)
/-- A key and its colon, that none of ks is. -/
def keyM (ks : List ByteArray) (xs : Bs) : Except Nat (ByteArray × Bs) :=
  match white xs with
  | [] => .error 4
  | c :: r => if c.toNat = 34 then
      match qstr r with
      | none => .error 4
      | some (t, r') => if ks.any (fun k => decide (k = str t)) then .error 7 else
        match white r' with
        | [] => .error 4
        | c' :: r'' => if c'.toNat = 58 then .ok (str t, r'') else .error 4
    else .error 4
/-- A member's beginning. -/
def headM (obj : Bool) (ks : List ByteArray) (xs : Bs) : Except Nat (List ByteArray × Bs) :=
  if obj then match keyM ks xs with
    | .error e => .error e
    | .ok (k, r) => .ok (ks ++ [k], r)
  else .ok (ks, xs)
def kindOf (obj : Bool) : Nat := if obj then 7 else 6
def finOf (obj : Bool) : Nat := if obj then 125 else 93
/-- The members of an array or an object, one at least. -/
def loopM (sub : Bs → Res) (obj : Bool) : Nat → List ByteArray → List J → Bs → Res
  | 0, _, _, _ => .error 4
  | f + 1, ks, l, xs => match headM obj ks xs with
    | .error e => .error e
    | .ok (ks', ys) => match sub ys with
      | .error e => .error e
      | .ok (v, zs) => match white zs with
        | [] => .error 4
        | c :: r => if c.toNat = 44 then loopM sub obj f ks' (l ++ [v]) r
          else if c.toNat = finOf obj then .ok (.mk (kindOf obj) ByteArray.empty (l ++ [v]) ks', r) else .error 4
/-- Behind the first bracket. -/
def manyM (sub : Bs → Res) (obj : Bool) (xs : Bs) : Res :=
  match white xs with
  | [] => loopM sub obj 1 [] [] []
  | c :: r => if c.toNat = finOf obj then .ok (.mk (kindOf obj) ByteArray.empty [] [], r) else loopM sub obj ((c :: r).length + 1) [] [] (c :: r)
def wordNull : Bs := [110, 117, 108, 108]
def wordFalse : Bs := [102, 97, 108, 115, 101]
def wordTrue : Bs := [116, 114, 117, 101]
/-- What is neither a string nor nested. -/
def plainM (xs : Bs) : Res :=
  if wordNull.isPrefixOf xs then .ok (.mk 1 ByteArray.empty [] [], xs.drop 4)
  else if wordFalse.isPrefixOf xs then .ok (.mk 2 ByteArray.empty [] [], xs.drop 5)
  else if wordTrue.isPrefixOf xs then .ok (.mk 3 ByteArray.empty [] [], xs.drop 4)
  else match numM xs with
    | none => .error 4
    | some (t, r) => .ok (.mk 4 (str t) [] [], r)
/-- A value; 'sub': the values within it, if it may have some. -/
def valM (sub : Option (Bs → Res)) (xs : Bs) : Res :=
  match white xs with
  | [] => .error 4
  | c :: r =>
    if c.toNat = 91 then match sub with
      | none => .error 5
      | some f => manyM f false r
    else if c.toNat = 123 then match sub with
      | none => .error 5
      | some f => manyM f true r
    else if c.toNat = 34 then match qstr r with
      | none => .error 4
      | some (t, r') => .ok (.mk 5 (str t) [] [], r')
    else plainM (c :: r)
/-- With so many levels left. -/
def lev : Nat → Bs → Res
  | 0 => valM none
  | n + 1 => valM (some (lev n))
def parseM (xs : Bs) : Except Nat J :=
  if 20000 < xs.length then .error 5 else
  match lev 64 xs with
  | .error e => .error e
  | .ok (v, r) => if white r = [] then .ok v else .error 4

-- Sizes.
theorem white_le (xs : Bs) : (white xs).length ≤ xs.length := (List.dropWhile_suffix isWhite).length_le
theorem white_suffix (xs : Bs) : white xs <:+ xs := List.dropWhile_suffix isWhite
theorem digs_le (xs : Bs) : digs xs ≤ xs.length := (List.takeWhile_prefix isDig).length_le
theorem white_nil : white [] = [] := rfl
theorem white_cons_yes {c : UInt8} {r : Bs} (h : isWhite c = true) : white (c :: r) = white r := by simp [white, h]
theorem white_cons_no {c : UInt8} {r : Bs} (h : isWhite c = false) : white (c :: r) = c :: r := by simp [white, h]
theorem white_head {xs : Bs} {c : UInt8} {r : Bs} (h : white xs = c :: r) : isWhite c = false := by
  induction xs with
  | nil => cases h
  | cons d t ih =>
    cases hd : isWhite d with
    | true => exact ih (by rw [white_cons_yes hd] at h; exact h)
    | false => rw [white_cons_no hd] at h; cases h; exact hd
theorem white_white (xs : Bs) : white (white xs) = white xs := by
  cases h : white xs with
  | nil => rfl
  | cons c r => exact white_cons_no (white_head h)
end Go.Proofs.YtfboecnhakihnaaGreatDoor.js
