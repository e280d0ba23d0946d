/-
  The law of symbols: its closure, its walk.
-/
import Derived.Test.YtcmillbjpplfjaaGreatDoorSya
import Derived.Test.YtcmillbjpplfjaaGreatDoorRpx
--   The closure of 'ResolveSymbols': some texts out of some numbers.
namespace Go.Proofs.YtcmillbjpplfjaaGreatDoor
open Go.RowKit

/-- What 'symbols' answers. -/
def SymP (w : World) (e : Ending) (w' : World) : Prop := ∃ (ss : List ByteArray) (v : Value), e = .returned v ∧ w'.ownsRow w.heap.size 9 1 v ss.length (ss.map Value.string) ∧ 1 ≤ ss.length ∧ ss.length ≤ 13 ∧ (∀ s, s ∈ ss → s.size ≤ 1) ∧ Below w.heap.size w w'
def SymI (w : World) (k : Nat) (r : Value) (wr : World) : Prop := ∃ ss : List ByteArray, wr.ownsRow w.heap.size 9 1 r ss.length (ss.map Value.string) ∧ ss.length ≤ k ∧ k ≤ 12 ∧ (∀ s, s ∈ ss → s.size ≤ 1) ∧ Below w.heap.size w wr
theorem sym_end {w w' : World} {e : Ending} {v : Value} {ss : List ByteArray} {k : Nat} (he : e = .returned v) (h : w'.ownsRow w.heap.size 9 1 v (ss.length + 1) (ss.map Value.string ++ [.string ⟨#[122]⟩])) (h1 : ss.length ≤ k) (h2 : k ≤ 12) (hs : ∀ s, s ∈ ss → s.size ≤ 1) (hb : Below w.heap.size w w') : SymP w e w' := by
  refine ⟨ss ++ [⟨#[122]⟩], v, he, by simpa using h, by simp, by simp; omega, fun s hm => ?_, hb⟩
  rcases List.mem_append.1 hm with hm | hm
  · exact hs s hm
  · obtain rfl := List.mem_singleton.1 hm
    decide
set_option maxRecDepth 100000 in
set_option maxHeartbeats 4000000 in
theorem symbols_any (A : Option Addr) (n c : Nat) (xs : List Int) (w : World) (hl : xs.length = n) (hc : n ≤ c ∧ c ≤ maxLen)
    (hB : 0 < n → ∃ g off, A = some ⟨g, off, none⟩ ∧ g < w.heap.size ∧ ∀ j x, xs[j]? = some x → w.cell? ⟨g, off + j, none⟩ = some (.int .i64 x)) :
    Calls Tryz.prog 24 #[.slice A n c] w (SymP w) := by
  obtain ⟨i0, hi, hz0, hz1, hz2⟩ := info_parts info9
  obtain ⟨hnc, hcm⟩ := hc
  unfold maxLen at hcm
  have HL := Lib.hid hl
  have HB := Lib.hid hB
  clear hl hB
  go_enter Tryz.func24, Tryz.ntmps24
  go_wp2
  go_loopg [3, 4] n (fun g r i wr => ∃ k : Nat, k + g = n ∧ i = .int .i64 (k : Int) ∧ SymI w k r wr)
  case atStart => exact ⟨0, by omega, rfl, [], World.ownsRow_nil w w.heap.size 9 1, by simp, by omega, by simp, Below.refl _ _⟩
  case round =>
    obtain ⟨k, hg, rfl, ss, hown, hsk, hk, hsz, hb⟩ := hrel
    have HG := Lib.hid hg
    have HS := Lib.hid hsz
    have HBL := Lib.hid hb
    have HOW := Lib.hid hown
    have hfr := below_fr0 hb
    clear hg hsz hb hown
    by_cases hlt : k < n
    · by_cases h12 : k < 12
      · obtain ⟨x, hx⟩ : ∃ x, xs[k]? = some x := ⟨_, List.getElem?_eq_getElem (by have := HL.out; omega)⟩
        obtain ⟨g, off, rfl, _, hcc⟩ := HB.out (by omega)
        have x0 := hfr.cell (hcc k x hx) trivial
        clear hcc hx
        have hcv : ∀ y : Int, (convert 22 9 (.slice (some ⟨wr.heap.size, 0, none⟩) 1 1)).run Tryz.prog (wr.alloc (.cells #[.int .u8 y] 5)) = .ok (.string (strOfNums [y])) (wr.alloc (.cells #[.int .u8 y] 5)) := fun y =>
          run_convert_bytes_arg _ 22 5 Tryz.underlying22 Tryz.underlying5 wr.heap.size 0 1 1 [y] rfl (fun i hi => by
            obtain rfl : i = 0 := by simp at hi; omega
            exact cell_of_row _ _ 0 _ _ _ (new_at rfl _)) 9 Tryz.underlying9
        have x0' := fun o => (fr_all wr o).cell x0 trivial
        go_upto_region 6 with fail
        have ht1 : (strOfNums [wrap64 (65 + wrap64 ((IntKind.u64.wrap x).tmod 12)) % 256]).size ≤ 1 := Nat.le_refl _
        generalize strOfNums [wrap64 (65 + wrap64 ((IntKind.u64.wrap x).tmod 12)) % 256] = t at *
        generalize wrap64 (65 + wrap64 ((IntKind.u64.wrap x).tmod 12)) % 256 = y at *
        generalize wrap64 (65 + wrap64 ((IntKind.u64.wrap x).tmod 12)) = y2 at *
        generalize wrap64 ((IntKind.u64.wrap x).tmod 12) = y3 at *
        generalize (IntKind.u64.wrap x).tmod 12 = y4 at *
        generalize IntKind.u64.wrap x = y5 at *
        have hown1 := HOW.out.alloc (.cells #[.int .u8 y] 5)
        have hb1 := HBL.out.alloc hfr.size (.cells #[.int .u8 y] 5)
        generalize wr.alloc (.cells #[.int .u8 y] 5) = W1 at *
        have hin := in_any ss t _ W1 _ (own_strs rfl (fun s hs => Nat.le_trans (HS.out s hs) (by unfold maxLen; omega)) hown1)
        have HO1 := Lib.hid hown1
        have HB1 := Lib.hid hb1
        have HT1 := Lib.hid ht1
        have hw1 := hb1.size
        clear hcv x0' x0 hown1 hb1 ht1
        generalize inS ss t = B at *
        cases B with
        | true =>
          go_wp2_with fail
          refine hin.mono ?_
          rintro e w2 ⟨rfl, rfl⟩
          clear hin
          go_wp2
          go_roundg (n - (k + 1))
          case measure => have := HG.out; omega
          case rel => exact ⟨k + 1, by omega, by go_num, ss, HO1.out, by omega, by omega, HS.out, HB1.out⟩
        | false =>
          go_wp2_with fail
          refine hin.mono ?_
          rintro e w2 ⟨rfl, rfl⟩
          clear hin
          go_wp2_with (at_builtin; refine wpList_append_src _ rfl _ _ 24 rfl w.heap.size 9 i0 _ 16 Tryz.underlying24 hi hz0 hz1 hz2 rfl _ _ _ rfl (HO1.out.alloc _) (some ⟨W1.heap.size, 0, none⟩) 1 1 [.string t] rfl rfl (fun _ => ⟨_, 0, rfl, fun j u hu => ?c1⟩) ?c2 (by unfold maxLen; omega) (by omega) (by simp; omega) ?_)
          case c1 =>
            rcases j with _ | j
            · simp only [List.getElem?_cons_zero, Option.some.injEq] at hu
              rw [← hu]; exact cell_of_row _ _ 0 _ _ _ (new_at rfl _)
            · simp at hu
          case c2 => intro u hu; simp at hu; subst hu; rfl
          intro v2 w2 hown2 hgr _
          have HB2 := Lib.hid ((HB1.out.alloc (by omega) _).trans (gset_below hgr (own_below (HO1.out.alloc (.cells #[.string t] 9)) (Nat.le_refl _)) (by simp; omega)))
          have HO2 := Lib.hid hown2
          clear hown2 hgr
          go_wp2
          go_roundg (n - (k + 1))
          case measure => have := HG.out; omega
          case rel =>
            refine ⟨k + 1, by omega, by go_num, ss ++ [t], ?_, by simp; omega, by omega, fun s hs => ?_, HB2.out⟩
            · simpa using HO2.out
            · rcases List.mem_append.1 hs with hs | hs
              · exact HS.out s hs
              · obtain rfl := List.mem_singleton.1 hs
                exact HT1.out
      · have hsz := hfr.size
        go_wp2_with (at_builtin; refine wpList_append_src _ rfl _ _ 24 rfl w.heap.size 9 i0 _ 16 Tryz.underlying24 hi hz0 hz1 hz2 rfl _ _ _ rfl (HOW.out.alloc _) (some ⟨wr.heap.size, 0, none⟩) 1 1 [.string ⟨#[122]⟩] rfl rfl (fun _ => ⟨_, 0, rfl, fun j u hu => ?c1⟩) ?c2 (by unfold maxLen; omega) (by omega) (by simp; omega) ?_)
        case c1 =>
          rcases j with _ | j
          · simp only [List.getElem?_cons_zero, Option.some.injEq] at hu
            rw [← hu]; exact cell_of_row _ _ 0 _ _ _ (new_at rfl _)
          · simp at hu
        case c2 => intro u hu; simp at hu; subst hu; rfl
        intro v2 w2 hown2 hgr _
        have HB2 := Lib.hid ((HBL.out.alloc hfr.size _).trans (gset_below hgr (own_below (HOW.out.alloc (.cells #[.string ⟨#[122]⟩] 9)) (Nat.le_refl _)) (by simp; omega)))
        have HO2 := Lib.hid hown2
        clear hown2 hgr
        go_wp2
        go_ret
        exact sym_end rfl HO2.out hsk hk HS.out HB2.out
    · have hsz := hfr.size
      go_wp2_with (at_builtin; refine wpList_append_src _ rfl _ _ 24 rfl w.heap.size 9 i0 _ 16 Tryz.underlying24 hi hz0 hz1 hz2 rfl _ _ _ rfl (HOW.out.alloc _) (some ⟨wr.heap.size, 0, none⟩) 1 1 [.string ⟨#[122]⟩] rfl rfl (fun _ => ⟨_, 0, rfl, fun j u hu => ?c1⟩) ?c2 (by unfold maxLen; omega) (by omega) (by simp; omega) ?_)
      case c1 =>
        rcases j with _ | j
        · simp only [List.getElem?_cons_zero, Option.some.injEq] at hu
          rw [← hu]; exact cell_of_row _ _ 0 _ _ _ (new_at rfl _)
        · simp at hu
      case c2 => intro u hu; simp at hu; subst hu; rfl
      intro v2 w2 hown2 hgr _
      have HB2 := Lib.hid ((HBL.out.alloc hfr.size _).trans (gset_below hgr (own_below (HOW.out.alloc (.cells #[.string ⟨#[122]⟩] 9)) (Nat.le_refl _)) (by simp; omega)))
      have HO2 := Lib.hid hown2
      clear hown2 hgr
      go_wp2
      go_ret
      exact sym_end rfl HO2.out hsk hk HS.out HB2.out
end Go.Proofs.YtcmillbjpplfjaaGreatDoor
--   What 'symM' answers, told by the texts.
namespace Go.Proofs.YtcmillbjpplfjaaGreatDoor
open Go.RowKit

theorem firstI_tell {α : Type} (p : α → Bool) : ∀ (xs : List α) (k : Nat), (firstI p xs k = -1 ∧ ∀ a, a ∈ xs → p a = false) ∨ ∃ (q : Nat) (a : α), xs[q]? = some a ∧ p a = true ∧ firstI p xs k = ((k + q : Nat) : Int)
  | [], k => .inl ⟨rfl, by simp⟩
  | a :: r, k => by
    cases h : p a with
    | true => exact .inr ⟨0, a, rfl, h, by rw [firstI, if_pos h]; rfl⟩
    | false =>
      have e : firstI p (a :: r) k = firstI p r (k + 1) := by rw [firstI, h]; rfl
      rw [e]
      rcases firstI_tell p r (k + 1) with ⟨h1, h2⟩ | ⟨q, b, h1, h2, h3⟩
      · refine .inl ⟨h1, fun b hb => ?_⟩
        rcases List.mem_cons.1 hb with rfl | hb
        · exact h
        · exact h2 b hb
      · exact .inr ⟨q + 1, b, h1, h2, by rw [h3]; omega⟩
theorem eqB_self (x : ByteArray) : eqB x x = true := by unfold eqB; exact beq_self_eq_true _
theorem symM_tell (ts : List ByteArray) (has : Bool) (d s : ByteArray) (hd : has = true → d ∈ ts) :
    (symM (eNd ts has d) s = -1 ∧ inS ts s = false ∧ has = false) ∨ ∃ (q : Nat) (t : ByteArray), symM (eNd ts has d) s = (q : Int) ∧ ts[q]? = some t ∧ (inS ts s = true ∧ eqB s t = true ∨ inS ts s = false ∧ has = true ∧ eqB d t = true) := by
  have hi := inS_first ts s
  unfold symM
  rw [show (eNd ts has d).sy = ts from rfl, show (eNd ts has d).has = has from rfl, show (eNd ts has d).dflt = d from rfl]
  rcases firstI_tell (eqB s) ts 0 with ⟨h1, h2⟩ | ⟨q, t, h1, h2, h3⟩
  · rw [h1] at hi
    cases has with
    | false => exact .inl ⟨by rw [h1]; simp, by rw [← hi]; rfl, rfl⟩
    | true =>
      rcases firstI_tell (eqB d) ts 0 with ⟨h4, h5⟩ | ⟨q, t, h4, h5, h6⟩
      · have := h5 d (hd rfl)
        rw [eqB_self] at this
        cases this
      · exact .inr ⟨q, t, by rw [h1, h6]; simp, h4, .inr ⟨by rw [← hi]; rfl, rfl, h5⟩⟩
  · rw [h3] at hi
    refine .inr ⟨q, t, by rw [h3, if_neg (by omega)]; omega, h1, .inl ⟨by rw [← hi]; simp, h2⟩⟩
end Go.Proofs.YtcmillbjpplfjaaGreatDoor
--   The walk of 'ResolveSymbols'.
namespace Go.Proofs.YtcmillbjpplfjaaGreatDoor
open Go.RowKit

theorem own_strsL {wr : World} {base : Nat} {e : TypeId} {v : Value} {ss : List ByteArray} (h1 : 1 ≤ ss.length) (hs : ∀ s, s ∈ ss → s.size ≤ 1) (h : wr.ownsRow base e 1 v ss.length (ss.map Value.string)) :
    ∃ g cap, v = .slice (some ⟨g, 0, none⟩) ss.length cap ∧ g < wr.heap.size ∧ (∀ i s, ss[i]? = some s → wr.cell? ⟨g, i, none⟩ = some (.string s)) ∧ StrsAt wr (fun b => b < wr.heap.size) ss v := by
  obtain ⟨A, cap, rfl, h1', h2, h3⟩ := own_open1 h
  obtain ⟨g, e, _, hc⟩ := h3 (by omega)
  subst e
  have hcc : ∀ i s, ss[i]? = some s → wr.cell? ⟨g, i, none⟩ = some (.string s) := fun i s hi => hc i _ (by rw [List.getElem?_map, hi]; rfl)
  have hg : g < wr.heap.size := by
    have := cell_lt (hcc 0 _ (List.getElem?_eq_getElem (by omega)))
    simpa using this
  exact ⟨g, cap, rfl, hg, hcc, some ⟨g, 0, none⟩, cap, rfl, h1', h2, fun s hs' => Nat.le_trans (hs s hs') (by unfold maxLen; omega), fun _ => ⟨g, 0, rfl, hg, fun i s hi => by rw [Nat.zero_add]; exact hcc i s hi⟩⟩
theorem idx_mod (i : Int) (m : Nat) (h : 1 ≤ m) (h2 : m ≤ 13) : ∃ q : Nat, q < m ∧ wrap64 ((IntKind.u64.wrap i).tmod (m : Int)) = (q : Int) ∧ (Lit.int .i64 q).wf = true := by
  rw [IntKind.wrap_u64]
  have h0 : 0 ≤ i % 18446744073709551616 := Int.emod_nonneg _ (by decide)
  generalize i % 18446744073709551616 = k at *
  rw [Int.tmod_eq_emod_of_nonneg h0]
  have h1 := Int.emod_nonneg k (b := (m : Int)) (by omega)
  have h3 := Int.emod_lt_of_pos k (b := (m : Int)) (by omega)
  generalize k % (m : Int) = r at *
  refine ⟨r.toNat, by omega, ?_, wf_i64 (by omega) (by omega)⟩
  unfold wrap64
  omega
theorem u64_small {m : Nat} (h : m ≤ 13) : IntKind.u64.wrap (m : Int) = (m : Int) := by
  rw [IntKind.wrap_u64]; omega
abbrev slW (w : World) (v u : Value) (has : Bool) : World := (w.alloc (.cells (eA v false ⟨#[]⟩) 50)).alloc (.cells (eA u has ⟨#[]⟩) 50)
set_option maxRecDepth 100000 in
set_option maxHeartbeats 8000000 in
theorem symbols_walk (A A' : Option Addr) (n c n' c' : Nat) (xs xs' : List Int) (at0 oth : Int) (has : Bool) (w : World) (hl : xs.length = n) (hc : n ≤ c ∧ c ≤ maxLen) (hl' : xs'.length = n') (hc' : n' ≤ c' ∧ c' ≤ maxLen)
    (hB : 0 < n → ∃ g off, A = some ⟨g, off, none⟩ ∧ g < w.heap.size ∧ ∀ j x, xs[j]? = some x → w.cell? ⟨g, off + j, none⟩ = some (.int .i64 x))
    (hB' : 0 < n' → ∃ g off, A' = some ⟨g, off, none⟩ ∧ g < w.heap.size ∧ ∀ j x, xs'[j]? = some x → w.cell? ⟨g, off + j, none⟩ = some (.int .i64 x)) :
    Calls Tryz.prog 10 #[.slice A n c, .slice A' n' c', .int .i64 at0, .int .i64 oth, .bool has] w fun e w' => e = .returned (.bool true) ∧ Below w.heap.size w w' := by
  have HY := Lib.hid hB'
  have HY2 := Lib.hid hl'
  have HY3 := Lib.hid hc'
  have hs1 := symbols_any A n c xs w hl hc hB
  clear hB hB' hl hl' hc hc'
  go_enter Tryz.func10, Tryz.ntmps10
  go_upto_region 2 with fail
  go_wp2_with fail
  refine hs1.mono ?_
  rintro e w1 ⟨ss, v, rfl, hown, hss1, hss13, hsz, hb1⟩
  obtain ⟨gv, cv, rfl, hgv, hvc, hvS⟩ := own_strsL hss1 hsz hown
  have hs2 := symbols_any A' n' c' xs' w1 HY2.out HY3.out (fun h => by
    obtain ⟨g, off, e, hg, hcc⟩ := HY.out h
    exact ⟨g, off, e, Nat.lt_of_lt_of_le hg hb1.size, fun j x hx => (below_fr0 hb1).cell (hcc j x hx) trivial⟩)
  have HSZ := Lib.hid hsz
  have HOW := Lib.hid hown
  have HB1 := Lib.hid hb1
  clear hs1 hown hb1 hsz HY HY2 HY3
  go_wp2_with fail
  refine hs2.mono ?_
  rintro e w2 ⟨ts, u, rfl, hown, hts1, hts13, htz, hb2⟩
  obtain ⟨gu, cu, rfl, hgu, huc, huS⟩ := own_strsL hts1 htz hown
  clear hs2
  go_upto_region 3 with fail
  change Code.wp _ _ _ _ (slW w2 (.slice (some ⟨gv, 0, none⟩) ss.length cv) (.slice (some ⟨gu, 0, none⟩) ts.length cu) has)
  have hb3 : Below w2.heap.size w2 (slW w2 (.slice (some ⟨gv, 0, none⟩) ss.length cv) (.slice (some ⟨gu, 0, none⟩) ts.length cu) has) := ((Below.refl _ w2).alloc (Nat.le_refl _) _).alloc (by simp) _
  have h12 : (slW w2 (.slice (some ⟨gv, 0, none⟩) ss.length cv) (.slice (some ⟨gu, 0, none⟩) ts.length cu) has).heap[w2.heap.size]? = some (.cells (eA (.slice (some ⟨gv, 0, none⟩) ss.length cv) false ⟨#[]⟩) 50 (0, 0)) := old_at _ (new_at rfl _)
  have h13 : (slW w2 (.slice (some ⟨gv, 0, none⟩) ss.length cv) (.slice (some ⟨gu, 0, none⟩) ts.length cu) has).heap[w2.heap.size + 1]? = some (.cells (eA (.slice (some ⟨gu, 0, none⟩) ts.length cu) has ⟨#[]⟩) 50 (0, 0)) := new_at (by simp) _
  generalize slW w2 (.slice (some ⟨gv, 0, none⟩) ss.length cv) (.slice (some ⟨gu, 0, none⟩) ts.length cu) has = W3 at *
  have hf3 := below_fr0 hb3
  have hf13 := (below_fr0 hb2).trans hf3
  have hgv2 := Nat.lt_of_lt_of_le hgv hb2.size
  have HV := Lib.hid (show ∀ W, Fr W3 W (fun b => b ≠ w2.heap.size + 1) → ∀ i s, ss[i]? = some s → W.cell? ⟨gv, i, none⟩ = some (.string s) from fun W hW i s hi => hW.cell (hf13.cell (hvc i s hi) trivial) (by show gv ≠ _; omega))
  have HU := Lib.hid (show ∀ W, Fr W3 W (fun b => b ≠ w2.heap.size + 1) → ∀ i s, ts[i]? = some s → W.cell? ⟨gu, i, none⟩ = some (.string s) from fun W hW i s hi => hW.cell (hf3.cell (huc i s hi) trivial) (by show gu ≠ _; omega))
  have HVS := Lib.hid (strs_mono (ok' := fun b => b < w2.heap.size) (fun b hb => Nat.lt_of_lt_of_le hb hb2.size) (StrsAt.fr hf13 (fun _ _ => trivial) hvS))
  have HUC := Lib.hid huc
  have HUS := Lib.hid (StrsAt.fr hf3 (fun _ _ => trivial) huS)
  have HSU := Lib.hid htz
  have HBW := Lib.hid (HB1.out.trans ((hb2.mono HB1.out.size).trans (hb3.mono (Nat.le_trans HB1.out.size hb2.size))))
  have HGU := Lib.hid hgu
  have HF3 := Lib.hid hf3
  have HH12 := Lib.hid h12
  have HH13 := Lib.hid h13
  have HS3 := Lib.hid hb3.size
  have HW2 := Lib.hid (Nat.le_trans HB1.out.size hb2.size)
  have HW3 := Lib.hid (HB1.out.trans ((hb2.mono HB1.out.size).trans (hb3.mono (Nat.le_trans HB1.out.size hb2.size))))
  clear hown hb2 hb3 hf3 hf13 hvc hvS huc huS htz hgu hgv hgv2 h12 h13
  go_upto_if 27 with fail
  go_cut [10] (fun _ wx => ∃ d : ByteArray, d.size ≤ maxLen ∧ (has = true → d ∈ ts) ∧ wx.heap[w2.heap.size + 1]? = some (.cells (eA (.slice (some ⟨gu, 0, none⟩) ts.length cu) has d) 50 (0, 0)) ∧ Fr W3 wx (fun b => b ≠ w2.heap.size + 1))
  case first =>
    cases has with
    | false =>
      go_wp2
      go_meet
      exact ⟨⟨#[]⟩, by decide, fun h => (by cases h), HH13.out, Fr.refl _ _⟩
    | true =>
      have q0 := cell_of_row _ _ 4 _ _ _ HH13.out
      have q6 := cell_of_row _ _ 6 _ _ _ HH13.out
      obtain ⟨q, hq, hqe, _⟩ := idx_mod oth ts.length hts1 hts13
      obtain ⟨d, hd⟩ : ∃ d, ts[q]? = some d := ⟨_, List.getElem?_eq_getElem hq⟩
      have hcq := HF3.out.cell (HUC.out q d hd) trivial
      have hwu := u64_small hts13
      have hne : ¬ ((ts.length : Int) = 0) := by omega
      have hwz : ¬ (IntKind.u64.wrap (ts.length : Int) = 0) := by rw [hwu]; exact hne
      have hqe2 : IntKind.i64.wrap ((IntKind.u64.wrap oth).tmod (IntKind.u64.wrap (ts.length : Int))) = (q : Int) := by rw [hwu, IntKind.wrap_i64]; unfold wrap64 at hqe; exact hqe
      clear hwu hne hqe
      have hq0 : 0 ≤ IntKind.i64.wrap ((IntKind.u64.wrap oth).tmod (IntKind.u64.wrap (ts.length : Int))) := by rw [hqe2]; omega
      have hq1 : IntKind.i64.wrap ((IntKind.u64.wrap oth).tmod (IntKind.u64.wrap (ts.length : Int))) < (ts.length : Int) := by rw [hqe2]; omega
      have hcq2 : W3.cell? ⟨gu, (IntKind.i64.wrap ((IntKind.u64.wrap oth).tmod (IntKind.u64.wrap (ts.length : Int)))).toNat, none⟩ = some (.string d) := by rw [hqe2]; exact hcq
      obtain ⟨_, _, _, _, _, _, f6, _⟩ := frozen_10 HH13.out
      have HD := Lib.hid hd
      clear hd
      go_upto_region 4 with fail
      go_region_law (fail)
      all_goals
        go_wp2_with fail
        go_meet
        exact ⟨d, Nat.le_trans (HSU.out d (List.mem_of_getElem? HD.out)) (by unfold maxLen; omega), fun _ => List.mem_of_getElem? HD.out, heap_setCell_same W3 _ 6 _ _ (.string d) HH13.out, (set_fr W3 _ 6 _).drewN 1⟩
  case rest =>
    obtain ⟨d, hd, hdt, h13, hfx⟩ := hcut
    have h12 := hfx.at HH12.out (by omega)
    have y4 := cell_of_row _ _ 4 _ _ _ h12
    obtain ⟨p, hp, hpe, hpw⟩ := idx_mod at0 ss.length hss1 hss13
    obtain ⟨sq, hsq⟩ : ∃ sq, ss[p]? = some sq := ⟨_, List.getElem?_eq_getElem hp⟩
    have HP := Lib.hid hp
    go_upto_region 6 with fail
    rw [hpe]
    clear hpe hp y4
    have z0 := cell_of_row _ _ 0 _ _ _ h12
    have z1 := cell_of_row _ _ 1 _ _ _ h12
    have z2 := cell_of_row _ _ 2 _ _ _ h12
    have z3 := cell_of_row _ _ 3 _ _ _ h12
    have z4 := cell_of_row _ _ 4 _ _ _ h12
    have z5 := cell_of_row _ _ 5 _ _ _ h12
    have z6 := cell_of_row _ _ 6 _ _ _ h12
    have z7 := cell_of_row _ _ 7 _ _ _ h12
    have z8 := cell_of_row _ _ 8 _ _ _ h12
    have z9 := cell_of_row _ _ 9 _ _ _ h12
    have h13a := fun o => (fr_all wc o).at h13 trivial
    have x0 := fun o => cell_of_row _ _ 0 _ _ _ (h13a o)
    have x1 := fun o => cell_of_row _ _ 1 _ _ _ (h13a o)
    have x2 := fun o => cell_of_row _ _ 2 _ _ _ (h13a o)
    have x3 := fun o => cell_of_row _ _ 3 _ _ _ (h13a o)
    have x4 := fun o => cell_of_row _ _ 4 _ _ _ (h13a o)
    have x5 := fun o => cell_of_row _ _ 5 _ _ _ (h13a o)
    have x6 := fun o => cell_of_row _ _ 6 _ _ _ (h13a o)
    have x7 := fun o => cell_of_row _ _ 7 _ _ _ (h13a o)
    have x8 := fun o => cell_of_row _ _ 8 _ _ _ (h13a o)
    have x9 := fun o => cell_of_row _ _ 9 _ _ _ (h13a o)
    have hf6 : Fr wc ((wc.alloc (.cells (eA (.slice (some ⟨gv, 0, none⟩) ss.length cv) false ⟨#[]⟩) 50)).alloc (.cells (eA (.slice (some ⟨gu, 0, none⟩) ts.length cu) has d) 50)) (fun b => b ≠ w2.heap.size + 1) := ((fr_all _ _).trans (fr_all _ _)).mono (fun _ _ _ => trivial)
    have hf36 := hfx.trans hf6
    have hs36 := hf36.size
    have hcall := resolve_enum ss ts false has ⟨#[]⟩ d p sq hsq hpw _ wc.heap.size (wc.heap.size + 1) _ _ (by decide) hd
      (strs_mono (fun b hb => Nat.lt_of_lt_of_le (Nat.lt_of_lt_of_le hb HS3.out) hs36) (StrsAt.fr hf36 (fun b hb => by show b ≠ _; have : b < w2.heap.size := hb; omega) HVS.out))
      (strs_mono (fun b hb => Nat.lt_of_lt_of_le (Nat.lt_of_lt_of_le hb HS3.out) hs36) (StrsAt.fr hf36 (fun b hb => by show b ≠ _; have : b < w2.heap.size := hb; omega) HUS.out))
      (old_at _ (new_at rfl _)) (new_at (by simp) _)
    have H12 := Lib.hid h12
    have H13 := Lib.hid h13
    have HF36 := Lib.hid hf36
    have HF6 := Lib.hid hf6
    have HSQ := Lib.hid hsq
    have HTL := Lib.hid (symM_tell ts has d sq hdt)
    clear h12 h13 h13a hf6 hf36 hs36 hsq hpw hdt hfx
    go_wp2_with fail
    refine hcall.mono ?_
    rintro e w7 ⟨hv, hb7⟩
    clear hcall z0 z1 z2 z3 z4 z5 z6 z7 z8 z9 x0 x1 x2 x3 x4 x5 x6 x7 x8 x9
    have hf7 := HF36.out.trans ((below_fr0 hb7).mono (fun _ _ _ => trivial))
    have h12 := (HF6.out.trans ((below_fr0 hb7).mono (fun _ _ _ => trivial))).at H12.out (by omega)
    have h13 := (below_fr0 hb7).at (((fr_all wc _).trans (fr_all _ _)).at H13.out trivial) trivial
    have HF7 := Lib.hid hf7
    have H12 := Lib.hid h12
    have H13 := Lib.hid h13
    have hpi : (p : Int) < (ss.length : Int) := by have := HP.out; omega
    clear hb7 hf7 h12 h13
    rcases HTL.out with ⟨hm, hin, rfl⟩ | ⟨q, t, hm, htq, hor⟩
    · rw [hm] at hv
      rcases hv with ⟨_, rfl⟩ | ⟨_, h, _⟩
      · go_upto_region 7 with fail
        have hA := fr_all w7 (.cells #[.int .i64 0, .int .i64 0, .slice none 0 0, .slice none 0 0, .slice none 0 0] 26)
        have hF8 := HF7.out.trans (hA.mono (fun _ _ _ => trivial))
        have hz := new_at rfl (.cells #[.int .i64 0, .int .i64 0, .slice none 0 0, .slice none 0 0, .slice none 0 0] 26) (W := w7) (n := w7.heap.size)
        have h12 := hA.at H12.out trivial
        have h13 := hA.at H13.out trivial
        generalize (w7.alloc (.cells #[.int .i64 0, .int .i64 0, .slice none 0 0, .slice none 0 0, .slice none 0 0] 26)) = W8 at *
        have y4 := cell_of_row _ _ 4 _ _ _ h12
        have x4 := cell_of_row _ _ 4 _ _ _ h13
        have x6 := cell_of_row _ _ 6 _ _ _ h13
        have hcp := HV.out W8 hF8 p sq HSQ.out
        have hcall := in_any ts sq _ W8 _ (StrsAt.fr hF8 (fun b hb => by show b ≠ _; have : b < w2.heap.size := hb; omega) HUS.out)
        have HF8 := Lib.hid hF8
        have H13 := Lib.hid h13
        have HZ := Lib.hid hz
        clear h12 h13 hA hF8 hz
        rw [hin] at hcall
        go_wp2_with fail
        refine hcall.mono ?_
        rintro e w8 ⟨rfl, rfl⟩
        clear hcall hcp y4
        go_wp2_with fail
        refine (awake10 W8).mono ?_
        rintro e w9 ⟨rfl, hb9⟩
        have hF9 := HF8.out.trans ((below_fr0 hb9).mono (ok' := fun b => b ≠ w2.heap.size + 1) (fun _ _ _ => trivial))
        have HF9 := Lib.hid hF9
        clear hb9 hF9 x4 x6
        go_wp2
        go_ret
        exact ⟨rfl, fr_below (fr_gen (below_fr0 HW3.out) HF9.out (fun b hb _ => by have := HW2.out; show b ≠ _; omega))⟩
      · exact absurd rfl h
    · rw [hm] at hv
      have hql := (List.getElem?_eq_some_iff.1 htq).1
      have hqi : (q : Int) < (ts.length : Int) := by omega
      rcases hv with ⟨h, _⟩ | ⟨_, _, rfl⟩
      · rcases h with h | h
        · cases h
        · exact absurd h (by omega)
      · go_upto_region 7 with fail
        have hA := fr_all w7 (.cells #[.int .i64 10, .int .i64 q, .slice none 0 0, .slice none 0 0, .slice none 0 0] 26)
        have hF8 := HF7.out.trans (hA.mono (fun _ _ _ => trivial))
        have hz := new_at rfl (.cells #[.int .i64 10, .int .i64 q, .slice none 0 0, .slice none 0 0, .slice none 0 0] 26) (W := w7) (n := w7.heap.size)
        have h12 := hA.at H12.out trivial
        have h13 := hA.at H13.out trivial
        generalize (w7.alloc (.cells #[.int .i64 10, .int .i64 q, .slice none 0 0, .slice none 0 0, .slice none 0 0] 26)) = W8 at *
        have y4 := cell_of_row _ _ 4 _ _ _ h12
        have x4 := cell_of_row _ _ 4 _ _ _ h13
        have x6 := cell_of_row _ _ 6 _ _ _ h13
        have hcp := HV.out W8 hF8 p sq HSQ.out
        have hcall := in_any ts sq _ W8 _ (StrsAt.fr hF8 (fun b hb => by show b ≠ _; have : b < w2.heap.size := hb; omega) HUS.out)
        have HF8 := Lib.hid hF8
        have H13 := Lib.hid h13
        have HZ := Lib.hid hz
        clear h12 h13 hA hF8 hz
        rcases hor with ⟨hin, heq⟩ | ⟨hin, rfl, heq⟩
        · rw [hin] at hcall
          go_wp2_with fail
          refine hcall.mono ?_
          rintro e w8 ⟨rfl, rfl⟩
          clear hcall hcp y4
          go_wp2_with fail
          refine (awake10 W8).mono ?_
          rintro e w9 ⟨rfl, hb9⟩
          have hF9 := HF8.out.trans ((below_fr0 hb9).mono (ok' := fun b => b ≠ w2.heap.size + 1) (fun _ _ _ => trivial))
          have g0 := cell_of_row _ _ 0 _ _ _ ((below_fr0 hb9).at HZ.out trivial)
          have g1 := cell_of_row _ _ 1 _ _ _ ((below_fr0 hb9).at HZ.out trivial)
          have g4 := cell_of_row _ _ 4 _ _ _ ((below_fr0 hb9).at H13.out trivial)
          have gc := HU.out w9 hF9 q t htq
          have he' : (t.toList == sq.toList) = true := by rw [Lib.toList_data, Lib.toList_data, eqB_comm]; exact heq
          have HF9 := Lib.hid hF9
          clear hb9 hF9 x4 x6 heq
          go_wp2
          go_ret
          exact ⟨rfl, fr_below (fr_gen (below_fr0 HW3.out) HF9.out (fun b hb _ => by have := HW2.out; show b ≠ _; omega))⟩
        · rw [hin] at hcall
          go_wp2_with fail
          refine hcall.mono ?_
          rintro e w8 ⟨rfl, rfl⟩
          clear hcall hcp y4
          go_wp2_with fail
          refine (awake10 W8).mono ?_
          rintro e w9 ⟨rfl, hb9⟩
          have hF9 := HF8.out.trans ((below_fr0 hb9).mono (ok' := fun b => b ≠ w2.heap.size + 1) (fun _ _ _ => trivial))
          have g0 := cell_of_row _ _ 0 _ _ _ ((below_fr0 hb9).at HZ.out trivial)
          have g1 := cell_of_row _ _ 1 _ _ _ ((below_fr0 hb9).at HZ.out trivial)
          have g4 := cell_of_row _ _ 4 _ _ _ ((below_fr0 hb9).at H13.out trivial)
          have gc := HU.out w9 hF9 q t htq
          have he' : (t.toList == d.toList) = true := by rw [Lib.toList_data, Lib.toList_data, eqB_comm]; exact heq
          have HF9 := Lib.hid hF9
          clear hb9 hF9 x4 x6 heq
          go_wp2
          go_ret
          exact ⟨rfl, fr_below (fr_gen (below_fr0 HW3.out) HF9.out (fun b hb _ => by have := HW2.out; show b ≠ _; omega))⟩
end Go.Proofs.YtcmillbjpplfjaaGreatDoor
