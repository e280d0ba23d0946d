/-
  Plain: how a pair of nodes is read; a schema's node in memory.
-/
import Derived.Test.YtcmillbjpplfjaaGreatDoorRcl
namespace Go.Proofs.YtcmillbjpplfjaaGreatDoor
open Go.RowKit

/-- Where the fields of a record are read from. -/
def srcM (ws : List Fd) : List Fd → List Int
  | [] => []
  | f :: r => if fieldL ws (f.name :: f.al) ≠ -1 then fieldL ws (f.name :: f.al) :: srcM ws r else if f.has = true then -1 :: srcM ws r else []
def planR (S T : List Nd) (i k : Int) : Bool := if matchT S T i k = true then (if (ndAt T k).kind = 13 then decide (branchM S T i k ≠ -1) else true) else false
def planB (S T : List Nd) (i k : Int) : Int := if matchT S T i k = true ∧ (ndAt T k).kind = 13 then branchM S T i k else 0
def planS (S T : List Nd) (i k : Int) : List Int := if matchT S T i k = true ∧ (ndAt T k).kind = 9 then srcM (ndAt S i).fs (ndAt T k).fs else []
theorem matchT_there {S T : List Nd} {i k : Int} (h : matchT S T i k = true) : thereB S i = true ∧ thereB T k = true := by
  unfold matchT at h
  cases hm : max S.length T.length with
  | zero => rw [hm] at h; simp [matchF] at h
  | succ g =>
    rw [hm, matchF] at h
    by_cases ht : (thereB S i && thereB T k) = false
    · rw [if_pos ht] at h; cases h
    · simpa using ht
theorem fieldL_bd (ws : List Fd) : ∀ (l : List ByteArray), -1 ≤ fieldL ws l ∧ (fieldL ws l < ws.length ∨ fieldL ws l = -1)
  | [] => ⟨by rw [fieldL]; omega, .inr rfl⟩
  | n :: r => by
    rw [fieldL]
    have h1 := fdI_lo ws n
    have h2 : fdI ws n < ws.length ∨ fdI ws n = -1 := by
      unfold fdI
      rcases firstI_spec (fdP n) ws 0 with ⟨h, _⟩ | ⟨i, a, hi, h, _⟩
      · exact .inr h
      · left; rw [h]; have := (List.getElem?_eq_some_iff.1 hi).1; omega
    split
    · exact ⟨h1, h2⟩
    · exact fieldL_bd ws r
theorem srcM_len (ws : List Fd) : ∀ fs, (srcM ws fs).length ≤ fs.length
  | [] => Nat.le_refl _
  | f :: r => by
    have := srcM_len ws r
    rw [srcM]
    split
    · simp; omega
    · split <;> simp <;> omega
theorem srcM_bd (ws : List Fd) : ∀ fs x, x ∈ srcM ws fs → -1 ≤ x ∧ x < ws.length + 1
  | [], x, h => by simp [srcM] at h
  | f :: r, x, h => by
    have hb := fieldL_bd ws (f.name :: f.al)
    have ih := srcM_bd ws r x
    rw [srcM] at h
    split at h
    · rcases List.mem_cons.1 h with rfl | h
      · omega
      · exact ih h
    · split at h
      · rcases List.mem_cons.1 h with rfl | h
        · omega
        · exact ih h
      · simp at h
theorem ndAt_get {S : List Nd} {i : Nat} {n : Nd} (h : S[i]? = some n) : ndAt S (i : Int) = n := by
  have hi := (List.getElem?_eq_some_iff.1 h).1
  unfold ndAt
  rw [if_pos (by unfold thereB; simp; omega), Int.toNat_natCast, h]; rfl
/-- The cells of a schema's node. -/
theorem nds_cell {w : World} {ok : Nat → Prop} {S : List Nd} {A : Option Addr} {cap : Nat} (h : NdsAt w ok S (.slice A S.length cap)) {i : Nat} {n : Nd} (hi : S[i]? = some n) :
    ∃ g off c, A = some ⟨g, off, none⟩ ∧ ok g ∧ NdIn w ok n c ∧ ∀ j, j < 10 → w.cell? ⟨g, off + (10 * i + j), none⟩ = some (c j) := by
  obtain ⟨A', cap', c, e, h1, h2, h3, h4⟩ := h
  cases e
  have hl := (List.getElem?_eq_some_iff.1 hi).1
  obtain ⟨g, off, e, hg, hc⟩ := h3 (by omega)
  exact ⟨g, off, c i, e, hg, h4 i n hi, fun j hj => hc i j hl hj⟩
/-- The ten cells of a node in a row. -/
def NodeC (w : World) (g o : Nat) (n : Nd) (s2 s3 s4 s8 : Value) : Prop :=
  w.cell? ⟨g, o, none⟩ = some (.int .i64 n.kind) ∧ w.cell? ⟨g, o + 1, none⟩ = some (.string n.name) ∧ w.cell? ⟨g, o + 2, none⟩ = some s2 ∧ w.cell? ⟨g, o + 3, none⟩ = some s3 ∧ w.cell? ⟨g, o + 4, none⟩ = some s4 ∧
  w.cell? ⟨g, o + 5, none⟩ = some (.bool n.has) ∧ w.cell? ⟨g, o + 6, none⟩ = some (.string n.dflt) ∧ w.cell? ⟨g, o + 7, none⟩ = some (.int .i64 n.items) ∧ w.cell? ⟨g, o + 8, none⟩ = some s8 ∧ w.cell? ⟨g, o + 9, none⟩ = some (.int .i64 n.size)
theorem NodeC.fr {w w' : World} {g o : Nat} {n : Nd} {s2 s3 s4 s8 : Value} {ok : Nat → Prop} (h : NodeC w g o n s2 s3 s4 s8) (hf : Fr w w' ok) (hg : ok g) : NodeC w' g o n s2 s3 s4 s8 := by
  obtain ⟨h0, h1, h2, h3, h4, h5, h6, h7, h8, h9⟩ := h
  exact ⟨hf.cell h0 hg, hf.cell h1 hg, hf.cell h2 hg, hf.cell h3 hg, hf.cell h4 hg, hf.cell h5 hg, hf.cell h6 hg, hf.cell h7 hg, hf.cell h8 hg, hf.cell h9 hg⟩
theorem node_at {w : World} {ok : Nat → Prop} {S : List Nd} {A : Option Addr} {cap : Nat} (h : NdsAt w ok S (.slice A S.length cap)) {i : Nat} {n : Nd} (hi : S[i]? = some n) :
    ∃ g off A2 n2 c2 A3 n3 c3 A4 n4 c4 A8 n8 c8, A = some ⟨g, off, none⟩ ∧ ok g ∧ g < w.heap.size ∧ NdIn w ok n (ndc n (.slice A2 n2 c2) (.slice A3 n3 c3) (.slice A4 n4 c4) (.slice A8 n8 c8)) ∧ NodeC w g (off + i * 10) n (.slice A2 n2 c2) (.slice A3 n3 c3) (.slice A4 n4 c4) (.slice A8 n8 c8) := by
  obtain ⟨g, off, c, e, hg, hN, hc⟩ := nds_cell h hi
  obtain ⟨A2, n2, c2, A3, n3, c3, A4, n4, c4, A8, n8, c8, e2, e3, e4, e8⟩ := hN.shape
  have h5 := hN.ndc.1
  rw [e2, e3, e4, e8] at h5
  have z0 := hc 0 (by omega)
  have z1 := hc 1 (by omega)
  have z2 := hc 2 (by omega)
  have z3 := hc 3 (by omega)
  have z4 := hc 4 (by omega)
  have z5 := hc 5 (by omega)
  have z6 := hc 6 (by omega)
  have z7 := hc 7 (by omega)
  have z8 := hc 8 (by omega)
  have z9 := hc 9 (by omega)
  refine ⟨g, off, A2, n2, c2, A3, n3, c3, A4, n4, c4, A8, n8, c8, e, hg, cell_lt z0, h5, ?_⟩
  rw [hN.kind, show off + (10 * i + 0) = off + i * 10 by omega] at z0
  rw [hN.name, show off + (10 * i + 1) = off + i * 10 + 1 by omega] at z1
  rw [e2, show off + (10 * i + 2) = off + i * 10 + 2 by omega] at z2
  rw [e3, show off + (10 * i + 3) = off + i * 10 + 3 by omega] at z3
  rw [e4, show off + (10 * i + 4) = off + i * 10 + 4 by omega] at z4
  rw [hN.has, show off + (10 * i + 5) = off + i * 10 + 5 by omega] at z5
  rw [hN.dflt, show off + (10 * i + 6) = off + i * 10 + 6 by omega] at z6
  rw [hN.items, show off + (10 * i + 7) = off + i * 10 + 7 by omega] at z7
  rw [e8, show off + (10 * i + 8) = off + i * 10 + 8 by omega] at z8
  rw [hN.size, show off + (10 * i + 9) = off + i * 10 + 9 by omega] at z9
  exact ⟨z0, z1, z2, z3, z4, z5, z6, z7, z8, z9⟩
end Go.Proofs.YtcmillbjpplfjaaGreatDoor
