/-
  Enums: 'alone', 'value', 'Value'.
-/
import Derived.Test.YtcmillbjpplfjaaGreatDoorRal
import Derived.Test.YtcmillbjpplfjaaGreatDoorRvl
import Derived.Test.YtcmillbjpplfjaaGreatDoorRva
import Derived.Test.YtcmillbjpplfjaaGreatDoorRpw
--   'alone' of an enum: its symbol's place among the reader's.
namespace Go.Proofs.YtcmillbjpplfjaaGreatDoor
open Go.RowKit Go.Maps

theorem fr_gen' {a b c : World} {ok ok2 : Nat → Prop} (h : Fr a b ok) (h2 : Fr b c ok2) (hk : ∀ k, k < a.heap.size → ok k → ok2 k) : Fr a c ok :=
  ((h.mono (ok' := fun k => k < a.heap.size ∧ ok k) (fun _ _ q => q.2)).trans (h2.mono (fun q _ hq => hk q hq.1 hq.2))).mono (fun q hq h => ⟨hq, h⟩)
/-- What 'alone' answers of an enum. -/
def AlonEP (w : World) (at_ : Int) (e : Ending) (w' : World) : Prop :=
  Below w.heap.size w w' ∧ ((at_ = -1 ∧ e = .returned (.tuple #[.agg #[.int .i64 0, .int .i64 0, .slice none 0 0, .slice none 0 0, .slice none 0 0], .bool false])) ∨
    (at_ ≠ -1 ∧ e = .returned (.tuple #[.agg #[.int .i64 10, .int .i64 at_, .slice none 0 0, .slice none 0 0, .slice none 0 0], .bool true])))
set_option maxRecDepth 100000 in
set_option maxHeartbeats 8000000 in
theorem alone_enum (S T : List Nd) (w : World) (p pm qm : Nat) (As Ar : Option Addr) (cs cr : Nat) (cnt : Int) (okS okT : Nat → Prop) (hT : Tn w p pm qm (.slice As S.length cs) (.slice Ar T.length cr) cnt) (hS : NdsAt w okS S (.slice As S.length cs)) (hR : NdsAt w okT T (.slice Ar T.length cr))
    (i k : Nat) (md nd : Nd) (hi : S[i]? = some md) (hk : T[k]? = some nd) (hnk : nd.kind = 10) (p0 p1 p2 : Value) (kv : Int) (q : Nat) (s : ByteArray) (hq : md.sy[q]? = some s) :
    Calls Tryz.prog 51 #[.pointer (some ⟨p, 0, none⟩), pairV i k, .agg #[p0, p1, p2], .agg #[.int .i64 kv, .int .i64 q, .slice none 0 0, .slice none 0 0, .slice none 0 0]] w (AlonEP w (symM nd s)) := by
  have hb0 : Below w.heap.size w (alW w i k p0 p1 p2 (.int .i64 kv) (.int .i64 q) (.slice none 0 0) (.slice none 0 0) (.slice none 0 0)) := ((((Below.refl _ w).alloc (Nat.le_refl _) _).alloc (by simp) _).alloc (by simp; omega) _).alloc (by simp; omega) _
  have hf0 := below_fr0 hb0
  have h0 : (alW w i k p0 p1 p2 (.int .i64 kv) (.int .i64 q) (.slice none 0 0) (.slice none 0 0) (.slice none 0 0)).heap[w.heap.size]? = some (.cells #[.int .i64 i, .int .i64 k] 73 (0, 0)) := old_at _ (old_at _ (old_at _ (new_at rfl _)))
  have h2 : (alW w i k p0 p1 p2 (.int .i64 kv) (.int .i64 q) (.slice none 0 0) (.slice none 0 0) (.slice none 0 0)).heap[w.heap.size + 1 + 1]? = some (.cells #[.int .i64 kv, .int .i64 q, .slice none 0 0, .slice none 0 0, .slice none 0 0] 26 (0, 0)) := old_at _ (new_at (by simp) _)
  have h3 : (alW w i k p0 p1 p2 (.int .i64 kv) (.int .i64 q) (.slice none 0 0) (.slice none 0 0) (.slice none 0 0)).heap[w.heap.size + 1 + 1 + 1]? = some (.cells #[.int .i64 0, .int .i64 0, .slice none 0 0, .slice none 0 0, .slice none 0 0] 26 (0, 0)) := new_at (by simp) _
  have hc := (hT.fr hf0 trivial).box
  obtain ⟨g, off, A2, n2, c2, A3, n3, c3, A4, n4, c4, A8, n8, c8, rfl, _, hgl, hND, hNC⟩ := node_at hR hk
  have hlk := (List.getElem?_eq_some_iff.1 hk).1
  obtain ⟨_, _, _, hsl, hlcr, hmcr, _⟩ := id hR
  cases hsl
  obtain ⟨g', off', B2, m2, d2, B3, m3, d3, B4, m4, d4, B8, m8, d8, rfl, _, hgl', hND', hNC'⟩ := node_at hS hi
  have hli := (List.getElem?_eq_some_iff.1 hi).1
  obtain ⟨_, _, _, hsl, hlcs, hmcs, _⟩ := id hS
  cases hsl
  unfold maxLen at hmcr hmcs
  obtain ⟨Ay, capy, esy, hly, hmy, _, hcy⟩ := hND'.sy
  have hql := (List.getElem?_eq_some_iff.1 hq).1
  obtain ⟨gy, offy, rfl, _, hcell⟩ := hcy (by omega)
  have hsc := hf0.cell (hcell q s hq) trivial
  have esy' : Value.slice B4 m4 d4 = .slice (some ⟨gy, offy, none⟩) md.sy.length capy := esy
  obtain ⟨rfl, rfl, rfl⟩ : B4 = some ⟨gy, offy, none⟩ ∧ m4 = md.sy.length ∧ d4 = capy := by simpa using esy'
  have hqi : (q : Int) < (md.sy.length : Int) := by omega
  unfold maxLen at hmy
  obtain ⟨z0, z1, z2, z3, z4, z5, z6, z7, z8, z9⟩ := hNC.fr hf0 trivial
  have y4 := (hNC'.fr hf0 trivial).2.2.2.2.1
  rw [hnk] at z0
  obtain ⟨sl, hsln⟩ : ∃ n, md.sy.length = n := ⟨_, rfl⟩
  rw [hsln] at y4 hqi hly
  have HSY := Lib.hid (show ∀ W, Fr w W (fun _ => True) → Calls Tryz.prog 88 #[.agg #[.int .i64 10, .string nd.name, .slice A2 n2 c2, .slice A3 n3 c3, .slice A4 n4 c4, .bool nd.has, .string nd.dflt, .int .i64 nd.items, .slice A8 n8 c8, .int .i64 nd.size], .string s] W fun e w' => e = .returned (.int .i64 (symM nd s)) ∧ Below W.heap.size W w' from fun W hW => by
    have := symbol_any nd _ s W _ (hND.fr (ok' := fun _ => True) hW (fun _ _ => trivial))
    rwa [ndc_v, hnk] at this)
  have H2 := Lib.hid h2
  have H3 := Lib.hid h3
  have HF0 := Lib.hid hf0
  have HB0 := Lib.hid hb0
  clear hnk hT hR hS hk hi hq hgl hgl' hND hND' hNC hNC' hb0 h2 h3 esy esy' hcy hcell hsln hql
  obtain ⟨at_, hat⟩ : ∃ a, symM nd s = a := ⟨_, rfl⟩
  rw [hat] at HSY ⊢
  clear hat
  go_enter Tryz.func51, Tryz.ntmps51
  go_upto_region 1 with fail
  change Code.wp _ _ _ _ (alW w i k p0 p1 p2 (.int .i64 kv) (.int .i64 q) (.slice none 0 0) (.slice none 0 0) (.slice none 0 0))
  have hsz : (alW w i k p0 p1 p2 (.int .i64 kv) (.int .i64 q) (.slice none 0 0) (.slice none 0 0) (.slice none 0 0)).heap.size = w.heap.size + 4 := by simp
  generalize alW w i k p0 p1 p2 (.int .i64 kv) (.int .i64 q) (.slice none 0 0) (.slice none 0 0) (.slice none 0 0) = W0 at *
  have c0 := cell_of_row _ _ 0 _ _ _ hc
  have c1' := cell_of_row _ _ 1 _ _ _ hc
  have a0 := cell_of_row _ _ 0 _ _ _ h0
  have a1 := cell_of_row _ _ 1 _ _ _ h0
  have c1o := fun o => (fr_all W0 o).cell c1' trivial
  have a1o := fun o => (fr_all W0 o).cell a1 trivial
  have x0 := fun o => (fr_all W0 o).cell z0 trivial
  have x1 := fun o => (fr_all W0 o).cell z1 trivial
  have x2 := fun o => (fr_all W0 o).cell z2 trivial
  have x3 := fun o => (fr_all W0 o).cell z3 trivial
  have x4 := fun o => (fr_all W0 o).cell z4 trivial
  have x5 := fun o => (fr_all W0 o).cell z5 trivial
  have x6 := fun o => (fr_all W0 o).cell z6 trivial
  have x7 := fun o => (fr_all W0 o).cell z7 trivial
  have x8 := fun o => (fr_all W0 o).cell z8 trivial
  have x9 := fun o => (fr_all W0 o).cell z9 trivial
  have HSZ := Lib.hid hsz
  have C0 := Lib.hid c0
  have A0' := Lib.hid a0
  have Y4 := Lib.hid y4
  have SC := Lib.hid hsc
  clear hc h0 hf0 hsz c0 a0 y4 hsc
  go_cut [10] (fun a wx => a = .pointer (some ⟨W0.heap.size, 0, none⟩) ∧ wx.heap[W0.heap.size]? = some (.cells #[.int .i64 10, .string nd.name, .slice A2 n2 c2, .slice A3 n3 c3, .slice A4 n4 c4, .bool nd.has, .string nd.dflt, .int .i64 nd.items, .slice A8 n8 c8, .int .i64 nd.size] 50 (0, 0)) ∧ Fr W0 wx (fun _ => True))
  case first =>
    go_region_law (fail)
    all_goals
      go_wp2_with fail
      go_meet
      exact ⟨rfl, new_at rfl _, (fr_all W0 _).drewN 1⟩
  case rest =>
    obtain ⟨rfl, hN, hfc⟩ := hcut
    clear c1' a1 c1o a1o x0 x1 x2 x3 x4 x5 x6 x7 x8 x9 z0 z1 z2 z3 z4 z5 z6 z7 z8 z9
    have k0 : wc.cell? ⟨W0.heap.size, 0, none⟩ = some (.int .i64 10) := cell_of_row _ _ 0 _ _ _ hN
    have k0o := fun o => (fr_all wc o).cell k0 trivial
    have HNB := Lib.hid hN
    have HFC := Lib.hid hfc
    have HWS : Hid (w.heap.size + 4 ≤ wc.heap.size) := Lib.hid (by have := hfc.size; have := HSZ.out; omega)
    clear hN hfc
    go_upto_region 8 with fail
    have hO : (wc.alloc (.cells #[.int .i64 10, .int .i64 0, .slice none 0 0, .slice none 0 0, .slice none 0 0] 26)).heap[wc.heap.size]? = some (.cells #[.int .i64 10, .int .i64 0, .slice none 0 0, .slice none 0 0, .slice none 0 0] 26 (0, 0)) := new_at rfl _
    have hfo := fr_all wc (.cells #[.int .i64 10, .int .i64 0, .slice none 0 0, .slice none 0 0, .slice none 0 0] 26)
    have hF : Fr w (wc.alloc (.cells #[.int .i64 10, .int .i64 0, .slice none 0 0, .slice none 0 0, .slice none 0 0] 26)) (fun _ => True) := (HF0.out.trans HFC.out).trans hfo
    have hR := hfo.at (HFC.out.at H3.out trivial) trivial
    have h2 := hfo.at (HFC.out.at H2.out trivial) trivial
    have hNb := hfo.at HNB.out trivial
    have c0 := hfo.cell (HFC.out.cell C0.out trivial) trivial
    have a0 := hfo.cell (HFC.out.cell A0'.out trivial) trivial
    have y4 := hfo.cell (HFC.out.cell Y4.out trivial) trivial
    have hsc := hfo.cell (HFC.out.cell SC.out trivial) trivial
    have hs1 : (wc.alloc (.cells #[.int .i64 10, .int .i64 0, .slice none 0 0, .slice none 0 0, .slice none 0 0] 26)).heap.size = wc.heap.size + 1 := by simp
    generalize (wc.alloc (.cells #[.int .i64 10, .int .i64 0, .slice none 0 0, .slice none 0 0, .slice none 0 0] 26)) = W1 at *
    have p0p : ∀ p' : Aft W1, p'.w.cell? ⟨p, 0, none⟩ = some (.slice (some ⟨g', off', none⟩) S.length cs) := fun p' => p'.fr.cell c0 trivial
    have a0p : ∀ p' : Aft W1, p'.w.cell? ⟨w.heap.size, 0, none⟩ = some (.int .i64 i) := fun p' => p'.fr.cell a0 trivial
    have y4p := fun p' : Aft W1 => p'.fr.cell y4 trivial
    have scp := fun p' : Aft W1 => p'.fr.cell hsc trivial
    have v1p : ∀ p' : Aft W1, p'.w.cell? ⟨w.heap.size + 1 + 1, 1, none⟩ = some (.int .i64 q) := fun p' => p'.fr.cell (cell_of_row _ _ 1 _ _ _ h2) trivial
    have n0p : ∀ p' : Aft W1, p'.w.cell? ⟨W0.heap.size, 0, none⟩ = some (.int .i64 10) := fun p' => p'.fr.cell (cell_of_row _ _ 0 _ _ _ hNb) trivial
    have n1p : ∀ p' : Aft W1, p'.w.cell? ⟨W0.heap.size, 1, none⟩ = some (.string nd.name) := fun p' => p'.fr.cell (cell_of_row _ _ 1 _ _ _ hNb) trivial
    have n2p : ∀ p' : Aft W1, p'.w.cell? ⟨W0.heap.size, 2, none⟩ = some (.slice A2 n2 c2) := fun p' => p'.fr.cell (cell_of_row _ _ 2 _ _ _ hNb) trivial
    have n3p : ∀ p' : Aft W1, p'.w.cell? ⟨W0.heap.size, 3, none⟩ = some (.slice A3 n3 c3) := fun p' => p'.fr.cell (cell_of_row _ _ 3 _ _ _ hNb) trivial
    have n4p : ∀ p' : Aft W1, p'.w.cell? ⟨W0.heap.size, 4, none⟩ = some (.slice A4 n4 c4) := fun p' => p'.fr.cell (cell_of_row _ _ 4 _ _ _ hNb) trivial
    have n5p : ∀ p' : Aft W1, p'.w.cell? ⟨W0.heap.size, 5, none⟩ = some (.bool nd.has) := fun p' => p'.fr.cell (cell_of_row _ _ 5 _ _ _ hNb) trivial
    have n6p : ∀ p' : Aft W1, p'.w.cell? ⟨W0.heap.size, 6, none⟩ = some (.string nd.dflt) := fun p' => p'.fr.cell (cell_of_row _ _ 6 _ _ _ hNb) trivial
    have n7p : ∀ p' : Aft W1, p'.w.cell? ⟨W0.heap.size, 7, none⟩ = some (.int .i64 nd.items) := fun p' => p'.fr.cell (cell_of_row _ _ 7 _ _ _ hNb) trivial
    have n8p : ∀ p' : Aft W1, p'.w.cell? ⟨W0.heap.size, 8, none⟩ = some (.slice A8 n8 c8) := fun p' => p'.fr.cell (cell_of_row _ _ 8 _ _ _ hNb) trivial
    have n9p : ∀ p' : Aft W1, p'.w.cell? ⟨W0.heap.size, 9, none⟩ = some (.int .i64 nd.size) := fun p' => p'.fr.cell (cell_of_row _ _ 9 _ _ _ hNb) trivial
    have HS8 := Lib.hid (show ∀ p' : Aft W1, Calls Tryz.prog 88 #[.agg #[.int .i64 10, .string nd.name, .slice A2 n2 c2, .slice A3 n3 c3, .slice A4 n4 c4, .bool nd.has, .string nd.dflt, .int .i64 nd.items, .slice A8 n8 c8, .int .i64 nd.size], .string s] p'.w fun e w' => e = .returned (.int .i64 at_) ∧ ∃ q : Aft W1, w' = q.w from fun p' => aft_call ((HSY.out p'.w (hF.trans p'.fr)).mono fun _ _ ⟨h1, h2⟩ => ⟨h1, below_fr0 h2⟩))
    have HR := Lib.hid hR
    have HO := Lib.hid hO
    have HF := Lib.hid hF
    have HS1 := Lib.hid hs1
    clear hO hfo hF hR h2 hNb c0 a0 y4 hsc hs1 k0 k0o
    refine reg_aft (by kernel_rfl) (by kernel_rfl) ?_
    repeat (go_big_quiet_step ((go_at_call 88; exact HS8.out _)))
    refine wpQuiet_nil ?_
    rintro ⟨W5, hf5⟩
    show Exit.then _ _ Exit.normal _ W5
    clear p0p a0p y4p scp v1p n0p n1p n2p n3p n4p n5p n6p n7p n8p n9p
    have hR5 := hf5.at HR.out trivial
    have hO5 := hf5.at HO.out trivial
    have hFw := HF.out.trans hf5
    have hws := HWS.out
    obtain ⟨f0, f1, f2, f3, f4, _⟩ := frozen_10 hR5
    have r0 := cell_of_row _ _ 0 _ _ _ hR5
    have r1 := cell_of_row _ _ 1 _ _ _ hR5
    have r2 := cell_of_row _ _ 2 _ _ _ hR5
    have r3 := cell_of_row _ _ 3 _ _ _ hR5
    have r4 := cell_of_row _ _ 4 _ _ _ hR5
    have HR5 := Lib.hid hR5
    have HO5 := Lib.hid hO5
    have HFW := Lib.hid hFw
    by_cases ha : at_ = -1
    · subst ha
      clear hR5 hO5 hFw hf5
      go_wp2
      refine alone_ret (set5_new' _ _ _ _ _ HR5.out) rfl rfl rfl ⟨fr_below (fr_gen' HFW.out (set5_fr0' _ _ _ _ _ _ _) (fun q hq _ => by omega)), .inl ⟨rfl, rfl⟩⟩
    · have HA := Lib.hid ha
      obtain ⟨_, e1, _⟩ := frozen_10 hO5
      have o1 := cell_of_row _ _ 1 _ _ _ hO5
      have h6O := five_1 (.int .i64 at_) hO5
      have h6R := (set_fr W5 wc.heap.size 1 (.int .i64 at_)).at hR5 (by omega)
      have hF6 := set_fr W5 wc.heap.size 1 (.int .i64 at_)
      clear hR5 hO5 hFw hf5 f0 f1 f2 f3 f4 r0 r1 r2 r3 r4
      go_upto_region 12 with fail
      generalize (W5.setCell ⟨wc.heap.size, 1, none⟩ (.int .i64 at_)) = W6 at *
      obtain ⟨f0, f1, f2, f3, f4, _⟩ := frozen_10 h6R
      have r0 := cell_of_row _ _ 0 _ _ _ h6R
      have r1 := cell_of_row _ _ 1 _ _ _ h6R
      have r2 := cell_of_row _ _ 2 _ _ _ h6R
      have r3 := cell_of_row _ _ 3 _ _ _ h6R
      have r4 := cell_of_row _ _ 4 _ _ _ h6R
      have m0 := cell_of_row _ _ 0 _ _ _ h6O
      have m1 := cell_of_row _ _ 1 _ _ _ h6O
      have m2 := cell_of_row _ _ 2 _ _ _ h6O
      have m3 := cell_of_row _ _ 3 _ _ _ h6O
      have m4 := cell_of_row _ _ 4 _ _ _ h6O
      have H6R := Lib.hid h6R
      have HF6 := Lib.hid hF6
      clear h6R h6O hF6
      go_wp2
      exact alone_ret (set5_new' _ _ _ _ _ H6R.out) rfl rfl rfl ⟨fr_below (fr_gen' (fr_gen' HFW.out HF6.out (fun q hq _ => by omega)) (set5_fr0' _ _ _ _ _ _ _) (fun q hq _ => by omega)), .inr ⟨HA.out, rfl⟩⟩
end Go.Proofs.YtcmillbjpplfjaaGreatDoor
--   'turner.value' of an enum that no pair was asked for ahead of it.
namespace Go.Proofs.YtcmillbjpplfjaaGreatDoor
open Go.RowKit Go.Maps

/-- What 'value' answers of an enum. -/
def ValEP (m : Bool) (at_ : Int) (e : Ending) : Prop :=
  ((m = false ∨ at_ = -1) ∧ e = .returned (.tuple #[.agg #[.int .i64 0, .int .i64 0, .slice none 0 0, .slice none 0 0, .slice none 0 0], .int .i64 11])) ∨
  (m = true ∧ at_ ≠ -1 ∧ e = .returned (.tuple #[.agg #[.int .i64 10, .int .i64 at_, .slice none 0 0, .slice none 0 0, .slice none 0 0], .int .i64 0]))
set_option maxRecDepth 100000 in
set_option maxHeartbeats 8000000 in
theorem value_enum (S T : List Nd) (w : World) (p pm qm : Nat) (As Ar : Option Addr) (cs cr : Nat) (hT : Tn w p pm qm (.slice As S.length cs) (.slice Ar T.length cr) 0) (hM : MapL w pm []) (hpp : pm ≠ p)
    (hS : NdsAt w (fun b => b ≠ p ∧ b ≠ pm) S (.slice As S.length cs)) (hR : NdsAt w (fun b => b ≠ p ∧ b ≠ pm) T (.slice Ar T.length cr))
    (i k : Nat) (md nd : Nd) (hi : S[i]? = some md) (hk : T[k]? = some nd) (hmk : md.kind ≠ 13) (hnk : nd.kind = 10) (hiw : (Lit.int .i64 i).wf = true) (hkw : (Lit.int .i64 k).wf = true)
    (kv : Int) (q : Nat) (sq : ByteArray) (hq : md.sy[q]? = some sq) :
    Calls Tryz.prog 29 #[.pointer (some ⟨p, 0, none⟩), pairV i k, .agg #[.int .i64 kv, .int .i64 q, .slice none 0 0, .slice none 0 0, .slice none 0 0]] w fun e w' => ValEP (matchT S T i k) (symM nd sq) e ∧ Fr w w' (fun b => b ≠ p ∧ b ≠ pm) := by
  have hb0 : Below w.heap.size w (vlW w i k (.int .i64 kv) (.int .i64 q) (.slice none 0 0) (.slice none 0 0) (.slice none 0 0)) := (((Below.refl _ w).alloc (Nat.le_refl _) _).alloc (by simp) _).alloc (by simp; omega) _
  have hf0 := below_fr0 hb0
  have h0 : (vlW w i k (.int .i64 kv) (.int .i64 q) (.slice none 0 0) (.slice none 0 0) (.slice none 0 0)).heap[w.heap.size]? = some (.cells #[.int .i64 i, .int .i64 k] 73 (0, 0)) := old_at _ (old_at _ (new_at rfl _))
  have h1 : (vlW w i k (.int .i64 kv) (.int .i64 q) (.slice none 0 0) (.slice none 0 0) (.slice none 0 0)).heap[w.heap.size + 1]? = some (.cells #[.int .i64 kv, .int .i64 q, .slice none 0 0, .slice none 0 0, .slice none 0 0] 26 (0, 0)) := old_at _ (new_at (by simp) _)
  have h2 : (vlW w i k (.int .i64 kv) (.int .i64 q) (.slice none 0 0) (.slice none 0 0) (.slice none 0 0)).heap[w.heap.size + 1 + 1]? = some (.cells #[.int .i64 0, .int .i64 0, .slice none 0 0, .slice none 0 0, .slice none 0 0] 26 (0, 0)) := new_at (by simp) _
  have hsz0 : (vlW w i k (.int .i64 kv) (.int .i64 q) (.slice none 0 0) (.slice none 0 0) (.slice none 0 0)).heap.size = w.heap.size + 3 := by simp
  have hlt := hT.lt
  have hltm := hM.lt
  have hT0 := hT.fr hf0 trivial
  have hM0 := hM.fr hf0 trivial
  have hS0 : NdsAt (vlW w i k (.int .i64 kv) (.int .i64 q) (.slice none 0 0) (.slice none 0 0) (.slice none 0 0)) _ S _ := nds_fr (ok' := fun _ => True) hf0 (fun _ _ => trivial) hS
  have hR0 : NdsAt (vlW w i k (.int .i64 kv) (.int .i64 q) (.slice none 0 0) (.slice none 0 0) (.slice none 0 0)) _ T _ := nds_fr (ok' := fun _ => True) hf0 (fun _ _ => trivial) hR
  clear hT hM hS hR
  obtain ⟨at_, hat⟩ : ∃ a, symM nd sq = a := ⟨_, rfl⟩
  rw [hat]
  have HAT := Lib.hid hat
  clear hat
  obtain ⟨m, hm⟩ : ∃ m, matchT S T i k = m := ⟨_, rfl⟩
  rw [hm]
  have HMM := Lib.hid hm
  clear hm
  go_enter Tryz.func29, Tryz.ntmps29
  go_upto_region 1 with fail
  change Code.wp _ _ _ _ (vlW w i k (.int .i64 kv) (.int .i64 q) (.slice none 0 0) (.slice none 0 0) (.slice none 0 0))
  generalize vlW w i k (.int .i64 kv) (.int .i64 q) (.slice none 0 0) (.slice none 0 0) (.slice none 0 0) = W0 at *
  have HT0 := Lib.hid hT0
  have HM0 := Lib.hid hM0
  have HS0 := Lib.hid hS0
  have HR0 := Lib.hid hR0
  have HF0 := Lib.hid hf0
  have H0 := Lib.hid h0
  have H1 := Lib.hid h1
  have H2 := Lib.hid h2
  have HI := Lib.hid hi
  have HK := Lib.hid hk
  obtain ⟨g, off, A2, n2, c2, A3, n3, c3, A4, n4, c4, A8, n8, c8, rfl, _, hgl, _, hNC⟩ := node_at hS0 hi
  have hli := (List.getElem?_eq_some_iff.1 hi).1
  obtain ⟨_, _, _, hsl, hlcs, hmcs, _⟩ := id hS0
  cases hsl
  unfold maxLen at hmcs
  have z0 := hNC.1
  have p0 := cell_of_row _ _ 0 _ _ _ hT0.box
  have a0 := cell_of_row _ _ 0 _ _ _ h0
  have HSZ := Lib.hid hsz0
  have h13 : nd.kind ≠ 13 := by omega
  have h9 : nd.kind ≠ 9 := by omega
  have HNK := Lib.hid hnk
  have HQ := Lib.hid hq
  clear hnk hq
  clear hT0 hM0 hS0 hR0 hf0 h0 h1 h2 hi hk hNC hgl hsz0 hb0
  go_loopg [12] 0 (fun _ _ wr => wr = W0)
  case atStart => rfl
  case round =>
    obtain rfl := hrel
    generalize md.kind = mk at *
    go_upto_region 1 with fail
    go_quiet (fail)
    have hfq : Fr wr (wr.drewN nq) (fun _ => True) := (Fr.refl _ _).drewN nq
    clear z0 p0 a0
    generalize wr.drewN nq = w0 at *
    have hH0 := hfq.at H0.out trivial
    have a0 := cell_of_row _ _ 0 _ _ _ hH0
    have a1 := cell_of_row _ _ 1 _ _ _ hH0
    have hpl := plan_call S T w0 p pm qm _ Ar cs cr 0 _ _ (HT0.out.fr hfq trivial) (HM0.out.fr hfq trivial) (nds_fr (ok' := fun _ => True) hfq (fun _ _ => trivial) HS0.out) (nds_fr (ok' := fun _ => True) hfq (fun _ _ => trivial) HR0.out) i k nd HK.out h13 h9 hiw hkw
    rw [HMM.out] at hpl
    have HFQ := Lib.hid hfq
    have HH0 := Lib.hid hH0
    clear hfq hH0
    go_upto_region 3 with fail
    go_wp2_with fail
    refine hpl.mono ?_
    rintro e w1 ⟨⟨A, c, rfl⟩, hf1⟩
    have HF1 := Lib.hid ((HFQ.out.mono (ok' := fun b => b ≠ pm) (fun _ _ _ => trivial)).trans hf1)
    clear hpl a0 a1 hf1
    go_upto_region 4 with fail
    have hF1 := HF1.out.trans ((fr_all w1 (.cells #[.bool m, .int .i64 0, .slice A 0 c] 109)).mono (ok' := fun b => b ≠ pm) (fun _ _ _ => trivial))
    have b8 : (w1.alloc (.cells #[.bool m, .int .i64 0, .slice A 0 c] 109)).heap[w1.heap.size]? = some (.cells #[.bool m, .int .i64 0, .slice A 0 c] 109 (0, 0)) := new_at rfl _
    have hw1 : w.heap.size + 3 ≤ w1.heap.size := by have := HF1.out.size; have := HSZ.out; omega
    generalize (w1.alloc (.cells #[.bool m, .int .i64 0, .slice A 0 c] 109)) = W1 at *
    have g0 := cell_of_row _ _ 0 _ _ _ b8
    have g1 := cell_of_row _ _ 1 _ _ _ b8
    have g2 := cell_of_row _ _ 2 _ _ _ b8
    have hP := hF1.at H0.out (by omega)
    have hV := hF1.at H1.out (by omega)
    have hRb := hF1.at H2.out (by omega)
    have HF := Lib.hid hF1
    have HP := Lib.hid hP
    have HV := Lib.hid hV
    have HRB := Lib.hid hRb
    have HB8 := Lib.hid b8
    clear hF1 b8
    cases m with
    | false =>
      obtain ⟨f0, f1, f2, f3, f4, _⟩ := frozen_10 hRb
      have r0 := cell_of_row _ _ 0 _ _ _ hRb
      have r1 := cell_of_row _ _ 1 _ _ _ hRb
      have r2 := cell_of_row _ _ 2 _ _ _ hRb
      have r3 := cell_of_row _ _ 3 _ _ _ hRb
      have r4 := cell_of_row _ _ 4 _ _ _ hRb
      clear hP hV hRb
      go_wp2
      refine val_ret (set5_new' _ _ _ _ _ HRB.out) rfl rfl rfl ⟨.inl ⟨.inl rfl, rfl⟩, ?_⟩
      exact fr_more ((HF0.out.mono (ok' := fun b => b ≠ p ∧ b ≠ pm) (fun _ _ _ => trivial)).trans (HF.out.mono (fun _ _ h => h.2))) (set5_fr0' _ _ _ _ _ _ _) (fun q hq _ => by omega)
    | true =>
      have a0 := cell_of_row _ _ 0 _ _ _ hP
      have a1 := cell_of_row _ _ 1 _ _ _ hP
      have v0 := cell_of_row _ _ 0 _ _ _ hV
      have v1 := cell_of_row _ _ 1 _ _ _ hV
      have v2 := cell_of_row _ _ 2 _ _ _ hV
      have v3 := cell_of_row _ _ 3 _ _ _ hV
      have v4 := cell_of_row _ _ 4 _ _ _ hV
      have hal := alone_enum S T W1 p pm qm _ Ar cs cr 0 (fun b => b ≠ p ∧ b ≠ pm) (fun b => b ≠ p ∧ b ≠ pm) (HT0.out.fr HF.out (Ne.symm hpp)) (nds_fr HF.out (fun b hb => hb.2) HS0.out) (nds_fr HF.out (fun b hb => hb.2) HR0.out) i k md nd HI.out HK.out HNK.out (.bool true) (.int .i64 0) (.slice A 0 c) kv q sq HQ.out
      rw [HAT.out] at hal
      clear hP hV hRb
      go_upto_region 6 with fail
      go_wp2_with fail
      refine hal.mono ?_
      rintro e w2 ⟨hb2, hv⟩
      clear hal a0 a1 v0 v1 v2 v3 v4 g0 g1 g2
      rcases hv with ⟨ha, rfl⟩ | ⟨ha, rfl⟩
      · have hR2 := (below_fr0 hb2).at HRB.out trivial
        have HR2 := Lib.hid hR2
        have HF2 := Lib.hid (below_fr0 hb2)
        have HA := Lib.hid ha
        have hs1 := HF.out.size
        have hsz := HSZ.out
        clear ha hb2 hR2
        go_upto_region 7 with fail
        have hfz := fr_all w2 (.cells #[.int .i64 0, .int .i64 0, .slice none 0 0, .slice none 0 0, .slice none 0 0] 26)
        have hR3 := hfz.at HR2.out trivial
        generalize (w2.alloc (.cells #[.int .i64 0, .int .i64 0, .slice none 0 0, .slice none 0 0, .slice none 0 0] 26)) = W3 at *
        obtain ⟨f0, f1, f2, f3, f4, _⟩ := frozen_10 hR3
        have r0 := cell_of_row _ _ 0 _ _ _ hR3
        have r1 := cell_of_row _ _ 1 _ _ _ hR3
        have r2 := cell_of_row _ _ 2 _ _ _ hR3
        have r3 := cell_of_row _ _ 3 _ _ _ hR3
        have r4 := cell_of_row _ _ 4 _ _ _ hR3
        have HR3 := Lib.hid hR3
        have HFZ := Lib.hid hfz
        clear hR3 hfz
        go_wp2
        refine val_ret (set5_new' _ _ _ _ _ HR3.out) rfl rfl rfl ⟨.inl ⟨.inr HA.out, rfl⟩, ?_⟩
        exact fr_more (((HF0.out.mono (ok' := fun b => b ≠ p ∧ b ≠ pm) (fun _ _ _ => trivial)).trans (HF.out.mono (fun _ _ h => h.2))).trans ((HF2.out.trans HFZ.out).mono (fun _ _ _ => trivial))) (set5_fr0' _ _ _ _ _ _ _) (fun q hq _ => by omega)
      have HA := Lib.hid ha
      clear ha
      go_upto_region 7 with fail
      have hF2 : Fr W1 (w2.alloc (.cells #[.int .i64 10, .int .i64 at_, .slice none 0 0, .slice none 0 0, .slice none 0 0] 26)) (fun _ => True) := (below_fr0 hb2).trans (fr_all w2 _)
      have b9 : (w2.alloc (.cells #[.int .i64 10, .int .i64 at_, .slice none 0 0, .slice none 0 0, .slice none 0 0] 26)).heap[w2.heap.size]? = some (.cells #[.int .i64 10, .int .i64 at_, .slice none 0 0, .slice none 0 0, .slice none 0 0] 26 (0, 0)) := new_at rfl _
      have hw2 : W1.heap.size ≤ w2.heap.size := hb2.size
      have hs1 := HF.out.size
      have hsz := HSZ.out
      generalize (w2.alloc (.cells #[.int .i64 10, .int .i64 at_, .slice none 0 0, .slice none 0 0, .slice none 0 0] 26)) = W2 at *
      have hT2 := (HT0.out.fr HF.out (Ne.symm hpp)).fr hF2 trivial
      have hco := come_any W2 p pm qm _ _ 0 1 hT2 (by omega) (by omega)
      rw [show decide ((0 : Int) + 1 ≤ 10000) = true from by decide, show (0 : Int) + 1 = 1 from rfl] at hco
      have HF2 := Lib.hid hF2
      have HB9 := Lib.hid b9
      clear hb2 hF2 b9 hT2
      go_upto_region 9 with fail
      go_wp2_with fail
      refine hco.mono ?_
      rintro e w3 ⟨rfl, hT3, hf3, hs3⟩
      clear hco
      have hP3 := hf3.at (HF2.out.at HP.out trivial) (by omega)
      have hV3 := hf3.at (HF2.out.at HV.out trivial) (by omega)
      have hB3 := hf3.at (HF2.out.at HB8.out trivial) (by omega)
      have a0 := cell_of_row _ _ 0 _ _ _ hP3
      have a1 := cell_of_row _ _ 1 _ _ _ hP3
      have v0 := cell_of_row _ _ 0 _ _ _ hV3
      have v1 := cell_of_row _ _ 1 _ _ _ hV3
      have v2 := cell_of_row _ _ 2 _ _ _ hV3
      have v3 := cell_of_row _ _ 3 _ _ _ hV3
      have v4 := cell_of_row _ _ 4 _ _ _ hV3
      have g0 := cell_of_row _ _ 0 _ _ _ hB3
      have g1 := cell_of_row _ _ 1 _ _ _ hB3
      have g2 := cell_of_row _ _ 2 _ _ _ hB3
      have hfw3 : Fr wr w3 (fun b => b ≠ p ∧ b ≠ pm) := ((HF.out.mono (fun _ _ h => h.2)).trans (HF2.out.mono (fun _ _ _ => trivial))).trans (hf3.mono (fun _ _ h => h.1))
      have hwi := within_leaf S T w3 p pm qm _ Ar cs cr 1 _ _ hT3 (nds_fr hfw3 (fun _ h => h) HS0.out) (nds_fr hfw3 (fun _ h => h) HR0.out) i k md nd HI.out HK.out ⟨h13, h9⟩ (.bool true) (.int .i64 0) (.slice A 0 c) kv q none none 0 0 0 0
      have HF3 := Lib.hid hf3
      have HFW3 := Lib.hid hfw3
      clear hP3 hV3 hB3 hT3 hf3 hfw3
      go_upto_region 12 with fail
      go_wp2_with fail
      refine hwi.mono ?_
      rintro e w4 ⟨rfl, hb4⟩
      clear hwi a0 a1 v0 v1 v2 v3 v4 g0 g1 g2
      have h49 := (below_fr0 hb4).at (HF3.out.at HB9.out (by omega)) trivial
      have h4R := (below_fr0 hb4).at (HF3.out.at (HF2.out.at HRB.out trivial) (by omega)) trivial
      obtain ⟨_, _, _, f3, _⟩ := frozen_10 h49
      have r3 := cell_of_row _ _ 3 _ _ _ h49
      have h59 := heap_setCell_same w4 w2.heap.size 3 _ _ (.slice none 0 0) h49
      have h5R := (set_fr w4 w2.heap.size 3 (.slice none 0 0)).at h4R (by omega)
      have HF4 := Lib.hid (below_fr0 hb4)
      clear h49 h4R hb4
      go_upto_region 13 with fail
      have hF5 := set_fr w4 w2.heap.size 3 (.slice none 0 0)
      generalize (w4.setCell ⟨w2.heap.size, 3, none⟩ (.slice none 0 0)) = W5 at *
      have s0 : W5.cell? ⟨w2.heap.size, 0, none⟩ = some (.int .i64 10) := cell_of_row _ _ 0 _ _ _ h59
      have s1 : W5.cell? ⟨w2.heap.size, 1, none⟩ = some (.int .i64 at_) := cell_of_row _ _ 1 _ _ _ h59
      have s2 : W5.cell? ⟨w2.heap.size, 2, none⟩ = some (.slice none 0 0) := cell_of_row _ _ 2 _ _ _ h59
      have s3 : W5.cell? ⟨w2.heap.size, 3, none⟩ = some (.slice none 0 0) := cell_of_row _ _ 3 _ _ _ h59
      have s4 : W5.cell? ⟨w2.heap.size, 4, none⟩ = some (.slice none 0 0) := cell_of_row _ _ 4 _ _ _ h59
      obtain ⟨f0, f1, f2, f3, f4, _⟩ := frozen_10 h5R
      have r0 := cell_of_row _ _ 0 _ _ _ h5R
      have r1 := cell_of_row _ _ 1 _ _ _ h5R
      have r2 := cell_of_row _ _ 2 _ _ _ h5R
      have r3 := cell_of_row _ _ 3 _ _ _ h5R
      have r4 := cell_of_row _ _ 4 _ _ _ h5R
      have H5R := Lib.hid h5R
      have HF5 := Lib.hid hF5
      clear h59 h5R hF5
      go_wp2
      have hall : Fr W2 W5 (fun b => b ≠ p ∧ b ≠ w2.heap.size) := ((HF3.out.mono (fun _ _ h => h.1)).trans (HF4.out.mono (fun _ _ _ => trivial))).trans (HF5.out.mono (fun _ _ h => h.2))
      refine val_ret (set5_new' _ _ _ _ _ H5R.out) rfl rfl rfl ⟨.inr ⟨rfl, HA.out, rfl⟩, ?_⟩
      · have hA := ((HF0.out.mono (ok' := fun b => b ≠ p ∧ b ≠ pm) (fun _ _ _ => trivial)).trans (HF.out.mono (fun _ _ h => h.2))).trans (HF2.out.mono (fun _ _ _ => trivial))
        exact fr_gen (fr_gen hA hall (fun q hq h => by omega)) (set5_fr0' _ _ _ _ _ _ _) (fun q hq _ => by omega)
end Go.Proofs.YtcmillbjpplfjaaGreatDoor
--   'resolve.Value' of an enum.
namespace Go.Proofs.YtcmillbjpplfjaaGreatDoor
open Go.RowKit Go.Maps

set_option maxRecDepth 100000 in
set_option maxHeartbeats 8000000 in
theorem value14_enum (S T : List Nd) (w : World) (As Ar : Option Addr) (cs cr : Nat) (hS : NdsAt w (fun b => b < w.heap.size) S (.slice As S.length cs)) (hR : NdsAt w (fun b => b < w.heap.size) T (.slice Ar T.length cr))
    (md nd : Nd) (hi : S[0]? = some md) (hk : T[0]? = some nd) (hmk : md.kind ≠ 13) (hnk : nd.kind = 10)
    (kv : Int) (q : Nat) (sq : ByteArray) (hq : md.sy[q]? = some sq)
    (hfit : ∀ W, Fr w W (fun _ => True) → Calls Tryz.prog 28 #[.agg #[.slice As S.length cs], .int .i64 0, .agg #[.int .i64 kv, .int .i64 q, .slice none 0 0, .slice none 0 0, .slice none 0 0]] W fun e w' => e = .returned (.bool true) ∧ Below W.heap.size W w') :
    Calls Tryz.prog 14 #[.agg #[.slice As S.length cs], .agg #[.slice Ar T.length cr], .agg #[.int .i64 kv, .int .i64 q, .slice none 0 0, .slice none 0 0, .slice none 0 0]] w fun e w' => ValEP (matchT S T 0 0) (symM nd sq) e ∧ Below w.heap.size w w' := by
  have hlT : 0 < T.length := (List.getElem?_eq_some_iff.1 hk).1
  have hvl := fun (W : World) (p pm qm : Nat) a b c d e => value_enum S T W p pm qm As Ar cs cr a b c d e 0 0 md nd hi hk hmk hnk (by decide) (by decide) kv q sq hq
  obtain ⟨N, hN⟩ : ∃ N, T.length = N := ⟨_, rfl⟩
  simp only [hN] at hvl hR hlT ⊢
  have hTn : ¬ ((N : Int) = 0) := by omega
  clear hN
  have hb0 : Below w.heap.size w (vaW w (.slice As S.length cs) (.slice Ar N cr) (.int .i64 kv) (.int .i64 q) (.slice none 0 0) (.slice none 0 0) (.slice none 0 0)) := ((((Below.refl _ w).alloc (Nat.le_refl _) _).alloc (by simp) _).alloc (by simp; omega) _).alloc (by simp; omega) _
  have hf0 := below_fr0 hb0
  have h0 : (vaW w (.slice As S.length cs) (.slice Ar N cr) (.int .i64 kv) (.int .i64 q) (.slice none 0 0) (.slice none 0 0) (.slice none 0 0)).heap[w.heap.size]? = some (.cells #[.slice As S.length cs] 29 (0, 0)) := old_at _ (old_at _ (old_at _ (new_at rfl _)))
  have h1 : (vaW w (.slice As S.length cs) (.slice Ar N cr) (.int .i64 kv) (.int .i64 q) (.slice none 0 0) (.slice none 0 0) (.slice none 0 0)).heap[w.heap.size + 1]? = some (.cells #[.slice Ar N cr] 29 (0, 0)) := old_at _ (old_at _ (new_at (by simp) _))
  have h2 : (vaW w (.slice As S.length cs) (.slice Ar N cr) (.int .i64 kv) (.int .i64 q) (.slice none 0 0) (.slice none 0 0) (.slice none 0 0)).heap[w.heap.size + 1 + 1]? = some (.cells #[.int .i64 kv, .int .i64 q, .slice none 0 0, .slice none 0 0, .slice none 0 0] 26 (0, 0)) := old_at _ (new_at (by simp) _)
  have h3 : (vaW w (.slice As S.length cs) (.slice Ar N cr) (.int .i64 kv) (.int .i64 q) (.slice none 0 0) (.slice none 0 0) (.slice none 0 0)).heap[w.heap.size + 1 + 1 + 1]? = some (.cells #[.int .i64 0, .int .i64 0, .slice none 0 0, .slice none 0 0, .slice none 0 0] 26 (0, 0)) := new_at (by simp) _
  have hmm := @run_makeMap Tryz.prog
  have HVL := Lib.hid hvl
  have HS := Lib.hid hS
  have HR := Lib.hid hR
  have HB0 := Lib.hid hb0
  have hfit0 := hfit _ hf0
  clear hS hR hi hk hmk hnk hb0 hvl hfit
  go_enter Tryz.func14, Tryz.ntmps14
  go_upto_region 1 with fail
  change Code.wp _ _ _ _ (vaW w (.slice As S.length cs) (.slice Ar N cr) (.int .i64 kv) (.int .i64 q) (.slice none 0 0) (.slice none 0 0) (.slice none 0 0))
  generalize vaW w (.slice As S.length cs) (.slice Ar N cr) (.int .i64 kv) (.int .i64 q) (.slice none 0 0) (.slice none 0 0) (.slice none 0 0) = W0 at *
  have s0 := cell_of_row _ _ 0 _ _ _ h0
  have r0 := cell_of_row _ _ 0 _ _ _ h1
  have v0 := cell_of_row _ _ 0 _ _ _ h2
  have v1 := cell_of_row _ _ 1 _ _ _ h2
  have v2 := cell_of_row _ _ 2 _ _ _ h2
  have v3 := cell_of_row _ _ 3 _ _ _ h2
  have v4 := cell_of_row _ _ 4 _ _ _ h2
  have H0 := Lib.hid h0
  have H1 := Lib.hid h1
  have H2 := Lib.hid h2
  have H3 := Lib.hid h3
  have HF0 := Lib.hid hf0
  clear h0 h1 h2 h3 hf0
  go_wp2_with fail
  refine hfit0.mono ?_
  rintro e w1 ⟨rfl, hb1⟩
  have hf1 := below_fr0 hb1
  have s0 := cell_of_row _ _ 0 _ _ _ (hf1.at H0.out trivial)
  have r0 := cell_of_row _ _ 0 _ _ _ (hf1.at H1.out trivial)
  have s0m := fun o => (fr_all w1 o).cell s0 trivial
  have s0n := fun o o' => (fr_all (w1.alloc o) o').cell (s0m o) trivial
  clear hfit0 v0 v1 v2 v3 v4
  have HF1 := Lib.hid hf1
  clear hb1 hf1
  go_upto_region 4 with fail
  have hFt : Fr w1 (((w1.alloc (.map #[] 0)).alloc (.map #[] 0)).alloc (.cells #[.slice As S.length cs, .slice Ar N cr, .int .i64 0, .map (some w1.heap.size), .map (some (w1.heap.size + 1))] 70)) (fun _ => True) := ((fr_all _ _).trans (fr_all _ _)).trans (fr_all _ _)
  have hBt : (((w1.alloc (.map #[] 0)).alloc (.map #[] 0)).alloc (.cells #[.slice As S.length cs, .slice Ar N cr, .int .i64 0, .map (some w1.heap.size), .map (some (w1.heap.size + 1))] 70)).heap[w1.heap.size + 1 + 1]? = some (.cells #[.slice As S.length cs, .slice Ar N cr, .int .i64 0, .map (some w1.heap.size), .map (some (w1.heap.size + 1))] 70 (0, 0)) := new_at (by simp) _
  have hMt : MapL (((w1.alloc (.map #[] 0)).alloc (.map #[] 0)).alloc (.cells #[.slice As S.length cs, .slice Ar N cr, .int .i64 0, .map (some w1.heap.size), .map (some (w1.heap.size + 1))] 70)) w1.heap.size [] := ((mapL_made w1).fr (fr_all _ _) trivial).fr (fr_all _ _) trivial
  generalize (((w1.alloc (.map #[] 0)).alloc (.map #[] 0)).alloc (.cells #[.slice As S.length cs, .slice Ar N cr, .int .i64 0, .map (some w1.heap.size), .map (some (w1.heap.size + 1))] 70)) = Wt at *
  have hsz := HB0.out.size
  have hs1 := HF1.out.size
  have hFw : Fr w Wt (fun _ => True) := ((below_fr0 HB0.out).trans HF1.out).trans hFt
  have h2t := hFt.at (HF1.out.at H2.out trivial) trivial
  have h3t := hFt.at (HF1.out.at H3.out trivial) trivial
  have v0 := cell_of_row _ _ 0 _ _ _ h2t
  have v1 := cell_of_row _ _ 1 _ _ _ h2t
  have v2 := cell_of_row _ _ 2 _ _ _ h2t
  have v3 := cell_of_row _ _ 3 _ _ _ h2t
  have v4 := cell_of_row _ _ 4 _ _ _ h2t
  have hcall := HVL.out Wt (w1.heap.size + 1 + 1) w1.heap.size (w1.heap.size + 1) ⟨hBt⟩ hMt (by omega) (nds_mono (nds_fr (ok' := fun _ => True) hFw (fun _ _ => trivial) HS.out) (fun b hb => ⟨by omega, by omega⟩)) (nds_mono (nds_fr (ok' := fun _ => True) hFw (fun _ _ => trivial) HR.out) (fun b hb => ⟨by omega, by omega⟩))
  have H3T := Lib.hid h3t
  have HFW := Lib.hid hFw
  have HST := Lib.hid hFt.size
  clear hBt hMt hFw h2t h3t s0m s0n s0 r0 hFt
  go_wp2_with fail
  refine hcall.mono ?_
  rintro e w5 ⟨hv, hf5⟩
  have h35 := hf5.at H3T.out (by have := H3.out; have := blk_lt this; omega)
  obtain ⟨f0, f1, f2, f3, f4, _⟩ := frozen_10 h35
  have r0 := cell_of_row _ _ 0 _ _ _ h35
  have r1 := cell_of_row _ _ 1 _ _ _ h35
  have r2 := cell_of_row _ _ 2 _ _ _ h35
  have r3 := cell_of_row _ _ 3 _ _ _ h35
  have r4 := cell_of_row _ _ 4 _ _ _ h35
  have H35 := Lib.hid h35
  have HV := Lib.hid hv
  have HF5 := Lib.hid hf5
  clear hcall h35 hf5
  have hend : ∀ (W : World) (x0 x1 x2 x3 x4 : Value), W = (((((w5.setCell ⟨w.heap.size + 1 + 1 + 1, 0, none⟩ x0).setCell ⟨w.heap.size + 1 + 1 + 1, 1, none⟩ x1).setCell ⟨w.heap.size + 1 + 1 + 1, 2, none⟩ x2).setCell ⟨w.heap.size + 1 + 1 + 1, 3, none⟩ x3).setCell ⟨w.heap.size + 1 + 1 + 1, 4, none⟩ x4) → Below w.heap.size w W := by
    intro W x0 x1 x2 x3 x4 hW
    subst hW
    have hst := HST.out
    exact fr_below (fr_gen (fr_gen HFW.out HF5.out (fun q hq _ => by omega)) (set5_fr0' _ _ _ _ _ _ _) (fun q hq _ => by omega))
  have HE := Lib.hid hend
  clear hend
  rcases hv with ⟨hc, rfl⟩ | ⟨hc1, hc2, rfl⟩
  · go_wp2
    exact val14_ret (set5_new' _ _ _ _ _ H35.out) rfl rfl rfl ⟨.inl ⟨hc, rfl⟩, HE.out _ _ _ _ _ _ rfl⟩
  · go_wp2
    exact val14_ret (set5_new' _ _ _ _ _ H35.out) rfl rfl rfl ⟨.inr ⟨hc1, hc2, rfl⟩, HE.out _ _ _ _ _ _ rfl⟩
end Go.Proofs.YtcmillbjpplfjaaGreatDoor
--   Two enums of one name: they match, and 'resolve.Value' between them.
namespace Go.Proofs.YtcmillbjpplfjaaGreatDoor
open Go.RowKit Go.Maps

/-- An enum that is named 'e'. -/
def eNd (ss : List ByteArray) (has : Bool) (d : ByteArray) : Nd := ⟨10, ⟨#[101]⟩, [], [], ss, has, d, 0, [], 0⟩
abbrev eA (s4 : Value) (has : Bool) (d : ByteArray) : Array Value := #[.int .i64 10, .string ⟨#[101]⟩, .slice none 0 0, .slice none 0 0, s4, .bool has, .string d, .int .i64 0, .slice none 0 0, .int .i64 0]
theorem enums_match (ss ts : List ByteArray) (h1 h2 : Bool) (d1 d2 : ByteArray) : matchT [eNd ss h1 d1] [eNd ts h2 d2] 0 0 = true := by
  have hn : namedB (eNd [] false ⟨#[]⟩) (eNd [] false ⟨#[]⟩) = true := by decide +kernel
  have h : namedB (eNd ss h1 d1) (eNd ts h2 d2) = namedB (eNd [] false ⟨#[]⟩) (eNd [] false ⟨#[]⟩) := rfl
  show matchF [eNd ss h1 d1] [eNd ts h2 d2] (0 + 1) 0 0 = true
  have e1 : (thereB [eNd ss h1 d1] 0 && thereB [eNd ts h2 d2] 0) = true := rfl
  have e2 : listsB (ndAt [eNd ss h1 d1] 0) (ndAt [eNd ts h2 d2] 0) = false := rfl
  rw [matchF, e1, if_neg (by decide), e2, if_neg (by decide)]
  show alikeB (eNd ss h1 d1) (eNd ts h2 d2) = true
  unfold alikeB
  rw [if_neg (by simp [eNd]), if_neg (by simp [eNd]), if_pos (by simp [eNd]), h, hn]
theorem one_ndsE {W : World} {ok : Nat → Prop} {g : Nat} {ss : List ByteArray} {s4 : Value} (has : Bool) (d : ByteArray) (hd : d.size ≤ maxLen) (hs : StrsAt W ok ss s4) (hg : ok g) (h : W.heap[g]? = some (.cells (eA s4 has d) 50 (0, 0))) : NdsAt W ok [eNd ss has d] (.slice (some ⟨g, 0, none⟩) 1 1) := by
  refine nds_arr (ns := [eNd ss has d]) h rfl hg (by simp) (fun i n hi => ?_)
  rcases i with _ | i
  · simp only [List.getElem?_cons_zero, Option.some.injEq] at hi
    subst hi
    exact ⟨rfl, rfl, strs_nil _ _, rows_nil _ _, hs, rfl, rfl, rfl, ints_nil _ _, rfl, show (Lit.int .i64 10).wf = true from by decide, wf0, wf0, show (⟨#[101]⟩ : ByteArray).size ≤ maxLen from by decide +kernel, hd⟩
  · simp at hi
theorem fits_enum (ss : List ByteArray) (has : Bool) (d : ByteArray) (q : Nat) (hq : q < ss.length) (hn : (Lit.int .i64 q).wf = true) (W : World) (vs : Value) (hS : NdsAt W (fun b => b < W.heap.size) [eNd ss has d] vs) :
    Calls Tryz.prog 28 #[.agg #[vs], .int .i64 0, .agg #[.int .i64 10, .int .i64 q, .slice none 0 0, .slice none 0 0, .slice none 0 0]] W fun e w' => e = .returned (.bool true) ∧ Below W.heap.size W w' := by
  have hu := uin_leafB (w := W) (ok := fun b => b < W.heap.size) (k := 10) (n := q) (xs := []) (B := none) (nb := 0) (cb := 0) (by decide) hn (by simp) rfl (by unfold maxLen; omega) (fun h => absurd h (by omega)) none none 0 0 (by unfold maxLen; omega) (by unfold maxLen; omega)
  have hA : AloneC (aloneV vbM ubT) [eNd ss has d] W := by
    intro W1 hW1 nd c x d0 d1 d2 d3 d4 hnd hN hX
    obtain rfl := List.mem_singleton.1 hnd
    exact alone_any vbM ubT (eNd ss has d) c W1 _ _ hN x d0 d1 d2 d3 d4 hX (fun h8 => absurd h8 (by simp [eNd])) (fun h12 => absurd h12 (by simp [eNd]))
  have h := fits_any (aloneV vbM ubT) [eNd ss has d] (alone_leaves _ _ _) (by simp) 0 _ (by simp [uc, ucL]) W _ _ _ _ _ vs hu hS hA
  have he : fitsU (aloneV vbM ubT) [eNd ss has d] 0 (.mk 10 q [] [] []) = true := by
    unfold fitsU
    simp [fitsL, aloneV, eNd, U.kd, U.num, U.b, U.l, U.ks, bareV, boundsV, kNum, kOct, kLst, kKey, hq]
  rw [he] at h
  exact h
/-- 'resolve.Value' between enums of one name. -/
theorem resolve_enum (ss ts : List ByteArray) (h1 h2 : Bool) (d1 d2 : ByteArray) (q : Nat) (sq : ByteArray) (hq : ss[q]? = some sq) (hn : (Lit.int .i64 q).wf = true) (W : World) (g h : Nat) (s4 t4 : Value) (hd1 : d1.size ≤ maxLen) (hd2 : d2.size ≤ maxLen)
    (hs : StrsAt W (fun b => b < W.heap.size) ss s4) (ht : StrsAt W (fun b => b < W.heap.size) ts t4)
    (hg : W.heap[g]? = some (.cells (eA s4 h1 d1) 50 (0, 0))) (hh : W.heap[h]? = some (.cells (eA t4 h2 d2) 50 (0, 0))) :
    Calls Tryz.prog 14 #[.agg #[.slice (some ⟨g, 0, none⟩) 1 1], .agg #[.slice (some ⟨h, 0, none⟩) 1 1], .agg #[.int .i64 10, .int .i64 q, .slice none 0 0, .slice none 0 0, .slice none 0 0]] W fun e w' => ValEP true (symM (eNd ts h2 d2) sq) e ∧ Below W.heap.size W w' := by
  have hS := one_ndsE (ok := fun b => b < W.heap.size) h1 d1 hd1 hs (blk_lt hg) hg
  have h := value14_enum [eNd ss h1 d1] [eNd ts h2 d2] W (some ⟨g, 0, none⟩) (some ⟨h, 0, none⟩) 1 1 hS (one_ndsE h2 d2 hd2 ht (blk_lt hh) hh) (eNd ss h1 d1) (eNd ts h2 d2) rfl rfl (by simp [eNd]) rfl 10 q sq hq
    (fun W' hW' => fits_enum ss h1 d1 q (List.getElem?_eq_some_iff.1 hq).1 hn W' _ (nds_mono (nds_fr (ok' := fun _ => True) hW' (fun _ _ => trivial) hS) (fun b hb => Nat.lt_of_lt_of_le hb hW'.size)))
  rw [enums_match] at h
  exact h
end Go.Proofs.YtcmillbjpplfjaaGreatDoor
