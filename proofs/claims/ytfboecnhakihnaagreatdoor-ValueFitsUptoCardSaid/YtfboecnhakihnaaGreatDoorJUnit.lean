/-
  The parser's 'unit', 'coded', 'escape': signs that are told by a backslash.
-/
import Derived.Test.YtfboecnhakihnaaGreatDoorJHex
namespace Go.Proofs.YtfboecnhakihnaaGreatDoor.js
open Go.RowKit

/-- What the package-level variables hold. -/
structure Gl (w : World) : Prop where
  u8 : Lib.Utf8Tabs 0 1 w
  w0 : w.cell? ⟨2, 0, none⟩ = some (.string ⟨#[]⟩)
  w1 : w.cell? ⟨2, 1, none⟩ = some (.string ⟨#[110, 117, 108, 108]⟩)
  w2 : w.cell? ⟨2, 2, none⟩ = some (.string ⟨#[102, 97, 108, 115, 101]⟩)
  w3 : w.cell? ⟨2, 3, none⟩ = some (.string ⟨#[116, 114, 117, 101]⟩)
  err : ∃ ev, w.cell? ⟨3, 0, none⟩ = some ev ∧ (ev = .nilIface ∨ ∃ te pe, ev = .iface te pe)
theorem Gl.kept {w w' : World} {row : Option Nat} (h : Gl w) (hg : w.grownBy w' row) (hr : ∀ k, row = some k → 4 ≤ k) : Gl w' := by
  have key : ∀ (b o : Nat) (v : Value), b < 4 → w.cell? ⟨b, o, none⟩ = some v → w'.cell? ⟨b, o, none⟩ = some v := fun b o v hb hc =>
    hg.cell hc (fun e => by have := hr b e.symm; omega)
  obtain ⟨⟨u1, u2⟩, h0, h1, h2, h3, ev, he, hk⟩ := h
  exact ⟨⟨fun c hc => key _ _ _ (by omega) (u1 c hc), fun i hi => ⟨key _ _ _ (by omega) (u2 i hi).1, key _ _ _ (by omega) (u2 i hi).2⟩⟩, key _ _ _ (by omega) h0, key _ _ _ (by omega) h1, key _ _ _ (by omega) h2, key _ _ _ (by omega) h3, ev, key _ _ _ (by omega) he, hk⟩
theorem Gl.drewN {w : World} (h : Gl w) (n : Nat) : Gl (w.drewN n) := ⟨h.u8, h.w0, h.w1, h.w2, h.w3, h.err⟩
theorem Gl.below {w w' : World} (h : Gl w) (hb : Below w.heap.size w w') : Gl w' := h.kept (new_grown hb none) (fun k e => by cases e)
theorem Gl.step {w w' : World} {p : Nat} {s : ByteArray} {ys : Bs} (h : Gl w) (hp : 4 ≤ p) (hs : Step w p s ys w') : Gl w' := h.kept hs.2 (fun k e => by cases e; exact hp)

/-- The public 'strconv.ParseUint'. -/
def PuPost (w : World) (o : Option Nat) (e : Ending) (w' : World) : Prop :=
  (match o with
    | some n => e = .returned (.tuple #[.int .u64 n, .nilIface])
    | none => ∃ N, e = .returned (.tuple #[.int .u64 0, .iface 201 (.pointer (some ⟨N, 0, none⟩))])) ∧ Below w.heap.size w w'
set_option maxHeartbeats 400000 in
theorem parseUint (t : ByteArray) (w : World) (hs : t.size = 4) (hG : Gl w) : Calls Tryz.prog 159 #[.string t, .int .i64 16, .int .i64 16] w (PuPost w (hexAll 0 t.data.toList)) := by
  have h91 := puint t w hs
  have hbw := Joins.below_bytesWorld w.heap.size w 5 t (Nat.le_refl _)
  generalize Lib.bytesWorld w 5 t = W1 at *
  generalize hexAll 0 t.data.toList = o at *
  obtain ⟨ev, hev, hk⟩ := (hG.below hbw).err
  clear hG
  cases o with
  | some n =>
    go_enter Tryz.func159, Tryz.ntmps159
    go_wp2_with fail
    refine h91.mono ?_
    rintro e w' ⟨rfl, rfl⟩
    unfold hexTuple
    go_wp2
    go_ret2
    exact ⟨rfl, hbw⟩
  | none =>
    go_enter Tryz.func159, Tryz.ntmps159
    go_wp2_with fail
    refine h91.mono ?_
    rintro e w' ⟨rfl, rfl⟩
    unfold hexTuple
    go_wp2_with fail
    refine (Tryz.strconv_toError_syntax _ t 16 16 ev _ (by omega) hev hk).mono ?_
    rintro e w' ⟨N, rfl, _, _, hb2⟩
    go_wp2
    go_ret2
    exact ⟨⟨N, rfl⟩, hbw.trans (hb2.mono hbw.size)⟩

def unitM : Bs → Option (Nat × Bs)
  | x :: y :: r => if x.toNat = 92 ∧ y.toNat = 117 then hex4 r else none
  | _ => none
def UnitPost (w : World) (p : Nat) (s : ByteArray) (xs : Bs) (o : Option (Nat × Bs)) (e : Ending) (w' : World) : Prop :=
  match o with
  | some (v, r) => e = .returned (.tuple #[.int .i32 v, .bool true]) ∧ Step w p s r w'
  | none => e = .returned (.tuple #[.int .i32 0, .bool false]) ∧ Step w p s xs w'

theorem ext_list (s : ByteArray) (i j : Nat) : (s.extract i j).data.toList = (s.data.toList.take j).drop i := by
  rw [ByteArray.data_extract, Array.toList_extract, List.extract_eq_take_drop, List.drop_take]
theorem At.rest {s : ByteArray} {k : Nat} {xs : Bs} (h : At s k xs) : (s.extract k s.size).data.toList = xs := by
  rw [ext_list, List.take_of_length_le (by rw [← size_len]; exact Nat.le_refl _), h.eq]

set_option maxHeartbeats 1000000 in
theorem unit_any (p : Nat) (s : ByteArray) (xs : Bs) (w : World) (h : Par w p s xs) (hG : Gl w) :
    Calls Tryz.prog 157 #[.pointer (some ⟨p, 0, none⟩)] w (UnitPost w p s xs (unitM xs)) := by
  obtain ⟨k, c0, c1, f0, f1, ha, hs, _⟩ := h.parts
  have hk : k ≤ s.size := ha.le
  have hrest := ha.rest
  have HA := Lib.hid ha
  go_enter Tryz.func157, Tryz.ntmps157
  go_wp2
  go_quiet (fail)
  generalize s.extract k s.size = rest at *
  have HR := Lib.hid hrest
  have hlen : rest.size = xs.length := by rw [size_len, hrest]
  clear hrest ha
  by_cases h6 : xs.length < 6
  · have hl6 : ((rest.size : Int) < 6) := by omega
    have hun : unitM xs = none := by
      match xs, h6 with
      | [], _ => rfl
      | [_], _ => rfl
      | [x, y], _ => simp [unitM, hex4]
      | [x, y, a], _ => simp [unitM, hex4]
      | [x, y, a, b], _ => simp [unitM, hex4]
      | [x, y, a, b, c], _ => simp [unitM, hex4]
    have HU := Lib.hid hun
    have hst := (Step.refl h).drewN nq
    clear hun hlen HR HA h6
    go_wp2
    go_ret2
    unfold UnitPost
    rw [HU.out]
    exact ⟨rfl, hst⟩
  · obtain ⟨x, y, a, b, c, d, r, rfl⟩ : ∃ x y a b c d r, xs = x :: y :: a :: b :: c :: d :: r := by
      match xs, h6 with
      | x :: y :: a :: b :: c :: d :: r, _ => exact ⟨x, y, a, b, c, d, r, rfl⟩
      | [], h | [_], h | [_, _], h | [_, _, _], h | [_, _, _, _], h | [_, _, _, _, _], h => exact absurd (by simp) h
    have hl6 : 6 ≤ rest.size := by rw [hlen]; simp
    have hpe : Lib.hasPrefix rest.data.toList [92, 117] = decide (x.toNat = 92 ∧ y.toNat = 117) := by
      rw [HR.out]
      by_cases hx : x.toNat = 92 ∧ y.toNat = 117
      · obtain rfl : x = 92 := UInt8.toNat.inj hx.1
        obtain rfl : y = 117 := UInt8.toNat.inj hx.2
        rfl
      · rw [decide_eq_false hx]
        simp only [Lib.hasPrefix, List.isPrefixOf, Bool.and_true, Bool.and_eq_false_iff, beq_eq_false_iff_ne, ne_eq]
        by_cases h1 : x = 92
        · right; intro h2; exact hx ⟨by rw [h1]; rfl, by rw [← h2]; rfl⟩
        · left; exact fun e => h1 e.symm
    have hpre : Calls Tryz.prog 147 #[.string rest, .string ⟨#[92, 117]⟩] (w.drewN nq) fun e w' => e = .returned (.bool (decide (x.toNat = 92 ∧ y.toNat = 117))) ∧ w.drewN nq = w' := by
      refine (Tryz.strings_HasPrefix rest ⟨#[92, 117]⟩ (w.drewN nq)).mono ?_
      rintro e w' ⟨rfl, rfl⟩
      exact ⟨by rw [hpe], rfl⟩
    have hst0 := (Step.refl h).drewN nq
    by_cases hx : x.toNat = 92 ∧ y.toNat = 117
    · rw [decide_eq_true hx] at hpre
      have hun : unitM (x :: y :: a :: b :: c :: d :: r) = hex4 (a :: b :: c :: d :: r) := by rw [unitM, if_pos hx]
      have hsub : (rest.extract 2 6).data.toList = [a, b, c, d] := by rw [ext_list, HR.out]; rfl
      have hsz : (rest.extract 2 6).size = 4 := by rw [size_len, hsub]; rfl
      have hpu := parseUint (rest.extract 2 6) (w.drewN nq) hsz (hG.drewN nq)
      have hbd : ∀ v, hexAll 0 [a, b, c, d] = some v → v < 65536 := fun v => hexAll4_lt
      rw [hexAll4] at hun
      rw [hsub] at hpu
      generalize hexAll 0 [a, b, c, d] = o at *
      have hat6 : At s (k + 6) r := HA.out.drop 6 (by simp)
      clear hpe hlen HR hG h6 hx hsz hsub
      have HU := Lib.hid hun
      clear hun
      cases o with
      | none =>
        clear hbd
        go_wp2_with fail
        refine hpre.mono ?_
        rintro e w' ⟨rfl, rfl⟩
        go_wp2_with fail
        refine hpu.mono ?_
        rintro e w1 ⟨⟨N, rfl⟩, hb⟩
        go_wp2
        go_ret2
        unfold UnitPost
        rw [HU.out]
        exact ⟨rfl, hst0.1.below hb (by simpa using h.lt), gtrans hst0.2 (new_grown hb _)⟩
      | some v =>
        have hv := hbd v rfl
        clear hbd
        go_wp2_with fail
        refine hpre.mono ?_
        rintro e w' ⟨rfl, rfl⟩
        go_wp2_with fail
        refine hpu.mono ?_
        rintro e w1 ⟨rfl, hb⟩
        have hst1 : Step w p s (x :: y :: a :: b :: c :: d :: r) w1 := ⟨hst0.1.below hb (by simpa using h.lt), gtrans hst0.2 (new_grown hb _)⟩
        obtain ⟨k', c0', c1', f0', f1', ha', _, _⟩ := hst1.1.parts
        have hst2 := hst1.set (ha'.drop 6 (by simp))
        have hk' := ha'.le
        clear ha'
        go_wp2
        go_ret2
        unfold UnitPost
        rw [HU.out]
        exact ⟨rfl, hst2⟩
    · rw [decide_eq_false hx] at hpre
      have hun : unitM (x :: y :: a :: b :: c :: d :: r) = none := by rw [unitM, if_neg hx]
      have HU := Lib.hid hun
      clear hun hpe hlen HR HA h6 hx
      go_wp2_with fail
      refine hpre.mono ?_
      rintro e w' ⟨rfl, rfl⟩
      go_wp2
      go_ret2
      unfold UnitPost
      rw [HU.out]
      exact ⟨rfl, hst0⟩
end Go.Proofs.YtfboecnhakihnaaGreatDoor.js
