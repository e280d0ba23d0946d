/-
  PROVED: the law JsonParses answers true for every text (json.Parse tells the value that the document's reader tells, or the same first fault).
  CONDITIONS: none but those of the given statement.
-/
import Derived.Test.YtjcnjaebmndeiaaDoorAwk
import Derived.Test.YtjcnjaebmndeiaaDoorRefB
import Derived.Test.YtjcnjaebmndeiaaDoorRfq
import Derived.Test.YtjcnjaebmndeiaaDoorParF
namespace Go.Proofs.YtjcnjaebmndeiaaDoor
open Go.RowKit

theorem fitsL_app : ∀ {l : List J} {v : J}, fitsL l → fits v → fitsL (l ++ [v])
  | [], v, _, h => by rw [List.nil_append, fitsL]; exact ⟨h, by rw [fitsL]; trivial⟩
  | x :: r, v, h, h' => by rw [fitsL] at h; rw [List.cons_append, fitsL]; exact ⟨h.1, fitsL_app h.2 h'⟩
theorem fits_leaf (k : Nat) (t : ByteArray) : fits (.mk k t [] []) := by rw [fits]; exact ⟨by simp, by simp, by rw [fitsL]; trivial⟩
def Fit (f : Bs → Res) : Prop := ∀ ys v zs, ys.length ≤ 30000 → f ys = .ok (v, zs) → fits v
theorem headM_keys {obj : Bool} {ks ks' : List ByteArray} {xs ys : Bs} (h : headM obj ks xs = .ok (ks', ys)) : ks'.length + ys.length ≤ ks.length + xs.length := by
  cases obj with
  | false => rw [headM_arr] at h; cases h; exact Nat.le_refl _
  | true =>
    cases hk : keyM ks xs with
    | error e => rw [headM_err hk] at h; cases h
    | ok kr =>
      obtain ⟨k, r⟩ := kr
      rw [headM_ok hk] at h
      cases h
      have := keyM_len hk
      simp; omega
theorem loopM_fits {sub : Bs → Res} (hs : Shorter sub) (hf : Fit sub) {obj : Bool} : ∀ (f : Nat) (ks : List ByteArray) (l : List J) (xs : Bs) (v : J) (zs : Bs), xs.length ≤ 30000 → l.length + xs.length ≤ 30000 → ks.length + xs.length ≤ 30000 → fitsL l → loopM sub obj f ks l xs = .ok (v, zs) → fits v
  | 0, _, _, _, _, _, _, _, _, _, h => by cases h
  | f + 1, ks, l, xs, v, zs, hx, hl, hk, hfl, h => by
    cases hh : headM obj ks xs with
    | error e => rw [loopM_head hh] at h; cases h
    | ok ky =>
      obtain ⟨ks', ys⟩ := ky
      have h1 := headM_len hh
      have h1k := headM_keys hh
      cases hv : sub ys with
      | error e => rw [loopM_err hh hv] at h; cases h
      | ok vz =>
        obtain ⟨u, z⟩ := vz
        have h2 := hs _ _ _ hv
        have h3 := white_le z
        have hu := hf _ _ _ (by omega) hv
        cases hw : white z with
        | nil => rw [loopM_nil hh hv hw] at h; cases h
        | cons c q =>
          rw [hw] at h3
          simp only [List.length_cons] at h3
          rw [loopM_cons hh hv hw] at h
          split at h
          · exact loopM_fits hs hf f _ _ _ _ _ (by omega) (by simp; omega) (by omega) (fitsL_app hfl hu) h
          · split at h
            · cases h
              rw [fits]
              exact ⟨by simp; omega, by omega, fitsL_app hfl hu⟩
            · cases h
theorem manyM_fits {sub : Bs → Res} (hs : Shorter sub) (hf : Fit sub) {obj : Bool} {xs zs : Bs} {v : J} (hx : xs.length ≤ 30000) (h : manyM sub obj xs = .ok (v, zs)) : fits v := by
  have h1 := white_le xs
  by_cases he : ∃ c t, white xs = c :: t ∧ c.toNat = finOf obj
  · obtain ⟨c, t, hw, hc⟩ := he
    rw [manyM_fin hw hc] at h
    cases h; exact fits_leaf _ _
  · rw [manyM_loop (fun c t hw hc => he ⟨c, t, hw, hc⟩)] at h
    exact loopM_fits hs hf _ _ _ _ _ _ (by omega) (by simp; omega) (by simp; omega) (by rw [fitsL]; trivial) h
theorem valM_fits {sub : Option (Bs → Res)} (hs : ∀ f, sub = some f → Shorter f ∧ Fit f) : Fit (valM sub) := by
  intro xs v zs hx h
  have hwl := white_le xs
  unfold valM at h
  cases hw : white xs with
  | nil => rw [hw] at h; cases h
  | cons c r =>
    rw [hw] at h hwl
    simp only [List.length_cons] at h hwl
    split at h
    · cases sub with
      | none => cases h
      | some f => exact manyM_fits (hs f rfl).1 (hs f rfl).2 (by omega) h
    · split at h
      · cases sub with
        | none => cases h
        | some f => exact manyM_fits (hs f rfl).1 (hs f rfl).2 (by omega) h
      · split at h
        · cases hq : qstr r with
          | none => rw [hq] at h; cases h
          | some tr => obtain ⟨t, r'⟩ := tr; rw [hq] at h; cases h; exact fits_leaf _ _
        · unfold plainM at h
          repeat' split at h
          all_goals first | (cases h; exact fits_leaf _ _) | cases h
theorem lev_fits : ∀ n, Fit (lev n)
  | 0 => valM_fits (fun f h => by cases h)
  | n + 1 => valM_fits (fun f h => by cases h; exact ⟨lev_len n, lev_fits n⟩)
/-- What 'Parse' tells as a value, and as an error. -/
def valOf : Except Nat J → J
  | .ok v => v
  | .error _ => .mk 0 ⟨#[]⟩ [] []
def erOf : Except Nat J → Nat
  | .ok _ => 0
  | .error e => e
theorem parse_fits (xs : Bs) : fits (valOf (parseM xs)) := by
  unfold parseM
  split
  · exact fits_leaf _ _
  · cases h : lev 64 xs with
    | error e => exact fits_leaf _ _
    | ok vr =>
      obtain ⟨v, r⟩ := vr
      simp only
      split
      · exact lev_fits 64 xs v r (by omega) h
      · exact fits_leaf _ _
theorem ParsePost.both {w : World} {M : Except Nat J} {e : Ending} {w' : World} (h : ParsePost w M e w') : ∃ v0 v1 v2 v3, e = .returned (.tuple #[.agg #[v0, v1, v2, v3], .int .i64 (erOf M)]) ∧ JIn w' (fun b => w.heap.size ≤ b) (valOf M) v0 v1 v2 v3 ∧ Below w.heap.size w w' := by
  obtain ⟨hb, h⟩ := h
  cases M with
  | ok v =>
    obtain ⟨v0, v1, v2, v3, rfl, hj⟩ := h
    exact ⟨v0, v1, v2, v3, rfl, hj, hb⟩
  | error er =>
    subst h
    exact ⟨_, _, _, _, rfl, JIn.leaf _ _ 0 _, hb⟩

set_option maxHeartbeats 1000000 in
set_option maxRecDepth 100000 in
theorem parses_walk : jsonParses.Walk := by
  intro a0 w hwf hG
  have h4 := hG.size
  by_cases hl : 30000 < a0.size
  · have hi : (30000 : Int) < (a0.size : Int) := by omega
    have haw := awake w hG (by omega)
    clear hwf hG
    go_enter Tryd.func3, Tryd.ntmps3
    go_wp2_with fail
    refine haw.mono ?_
    rintro e w1 ⟨rfl, hb⟩
    go_wp2
    go_ret
    exact ⟨rfl, hb⟩
  · have hi : ¬ (30000 : Int) < (a0.size : Int) := by omega
    have hp := (parse_any a0 w hG).mono fun e w' h => h.both
    have hq : ∀ W, Gl W → _ := fun W hW => (rparse_any a0 W hW).mono fun e w' h => h.both
    have hfit := parse_fits a0.data.toList
    generalize valOf (parseM a0.data.toList) = t at *
    generalize erOf (parseM a0.data.toList) = er at *
    have HG := Lib.hid hG
    have HQ := Lib.hid hq
    have HFit := Lib.hid hfit
    clear hwf hG hq hfit
    go_enter Tryd.func3, Tryd.ntmps3
    go_wp2_with fail
    refine hp.mono ?_
    rintro e w1 ⟨v0, v1, v2, v3, rfl, hj, hb⟩
    obtain ⟨kk, tt, A, A', n1, cap1, n2, cap2, rfl, rfl, rfl, rfl⟩ := hj.forms
    have hb1 : Below w.heap.size w (w1.alloc (.cells #[.int .i64 kk, .string tt, .slice A n1 cap1, .slice A' n2 cap2] 26)) := hb.alloc hb.size _
    have hB1 : (w1.alloc (.cells #[.int .i64 kk, .string tt, .slice A n1 cap1, .slice A' n2 cap2] 26)).heap[w1.heap.size]? = some (.cells #[.int .i64 kk, .string tt, .slice A n1 cap1, .slice A' n2 cap2] 26 (0, 0)) := heap_alloc_new w1 _
    have hj1 := hj.fr ((Fr.refl w1 (fun _ => True)).alloc (.cells #[.int .i64 kk, .string tt, .slice A n1 cap1, .slice A' n2 cap2] 26)) (fun _ _ => trivial)
    have hq1 := HQ.out _ (HG.out.below hb1)
    clear hp hj hb HQ
    go_wp2_with fail
    generalize w1.alloc (.cells #[.int .i64 kk, .string tt, .slice A n1 cap1, .slice A' n2 cap2] 26) = W1 at *
    refine hq1.mono ?_
    rintro e w2 ⟨u0, u1, u2, u3, rfl, hk, hb2⟩
    obtain ⟨kx, tx, D, D', m1, dap1, m2, dap2, rfl, rfl, rfl, rfl⟩ := hk.forms
    have hb3 : Below w.heap.size w (w2.alloc (.cells #[.int .i64 kx, .string tx, .slice D m1 dap1, .slice D' m2 dap2] 26)) := (hb1.trans (hb2.mono hb1.size)).alloc (Nat.le_trans hb1.size hb2.size) _
    have hB2 : (w2.alloc (.cells #[.int .i64 kx, .string tx, .slice D m1 dap1, .slice D' m2 dap2] 26)).heap[w2.heap.size]? = some (.cells #[.int .i64 kx, .string tx, .slice D m1 dap1, .slice D' m2 dap2] 26 (0, 0)) := heap_alloc_new w2 _
    have hf2 : Fr W1 (w2.alloc (.cells #[.int .i64 kx, .string tx, .slice D m1 dap1, .slice D' m2 dap2] 26)) (fun _ => True) := (below_fr0 hb2).alloc _
    have hB1' := hf2.at hB1 trivial
    have hj2 := hj1.fr hf2 (fun _ _ => trivial)
    have hk2 := hk.fr ((Fr.refl w2 (fun _ => True)).alloc (.cells #[.int .i64 kx, .string tx, .slice D m1 dap1, .slice D' m2 dap2] 26)) (fun _ _ => trivial)
    have haw := awake _ (HG.out.below hb3) (Nat.le_trans (by omega) hb3.size)
    clear hq1 hj1 hk hB1 hf2
    go_wp2_with fail
    generalize w2.alloc (.cells #[.int .i64 kx, .string tx, .slice D m1 dap1, .slice D' m2 dap2] 26) = W2 at *
    refine haw.mono ?_
    rintro e w3 ⟨rfl, hb4⟩
    have hf3 := below_fr0 hb4
    have hC1 := hf3.at hB1' trivial
    have hC2 := hf3.at hB2 trivial
    have q0 : w3.cell? ⟨w1.heap.size, 0, none⟩ = some (.int .i64 kk) := by rw [cell_of_row _ _ _ _ _ _ hC1]; rfl
    have q1 : w3.cell? ⟨w1.heap.size, 1, none⟩ = some (.string tt) := by rw [cell_of_row _ _ _ _ _ _ hC1]; rfl
    have q2 : w3.cell? ⟨w1.heap.size, 2, none⟩ = some (.slice A n1 cap1) := by rw [cell_of_row _ _ _ _ _ _ hC1]; rfl
    have q3 : w3.cell? ⟨w1.heap.size, 3, none⟩ = some (.slice A' n2 cap2) := by rw [cell_of_row _ _ _ _ _ _ hC1]; rfl
    have z0 : w3.cell? ⟨w2.heap.size, 0, none⟩ = some (.int .i64 kx) := by rw [cell_of_row _ _ _ _ _ _ hC2]; rfl
    have z1 : w3.cell? ⟨w2.heap.size, 1, none⟩ = some (.string tx) := by rw [cell_of_row _ _ _ _ _ _ hC2]; rfl
    have z2 : w3.cell? ⟨w2.heap.size, 2, none⟩ = some (.slice D m1 dap1) := by rw [cell_of_row _ _ _ _ _ _ hC2]; rfl
    have z3 : w3.cell? ⟨w2.heap.size, 3, none⟩ = some (.slice D' m2 dap2) := by rw [cell_of_row _ _ _ _ _ _ hC2]; rfl
    have hsm := same_any HFit.out w3 _ _ _ _ _ _ _ _ _ _ (hj2.fr hf3 (fun _ _ => trivial)) (hk2.fr hf3 (fun _ _ => trivial))
    have hb5 : Below w.heap.size w w3 := hb3.trans (hb4.mono hb3.size)
    clear haw hj2 hk2 hf3 hC1 hC2 hB1' hB2 hb4 hb3 hb1 hb2 HFit HG
    go_wp2_with fail
    refine hsm.mono ?_
    rintro e w4 ⟨rfl, hb6⟩
    have hb7 : Below w.heap.size w w4 := hb5.trans (hb6.mono hb5.size)
    clear hsm hb6 hb5 q0 q1 q2 q3 z0 z1 z2 z3
    go_wp2
    go_ret
    exact ⟨rfl, hb7⟩
theorem jsonParses_holds : Rows.JsonParsesCardSaid := jsonParses.card parses_walk
end Go.Proofs.YtjcnjaebmndeiaaDoor
