/-
  JsonKeys: an object's keys, each once, are found with their values; one that is there twice is refused. For every slice of texts, at every memory.
-/
import Derived.Test.YtjcnjaebmndeiaaDoorKyp
import Derived.Test.YtjcnjaebmndeiaaDoorGtl
import Derived.Test.YtjcnjaebmndeiaaDoorDgs
import Derived.Test.YtjcnjaebmndeiaaDoorKeyF
import Derived.Test.YtjcnjaebmndeiaaDoorRfq
import Derived.Test.YtjcnjaebmndeiaaDoorAwk
import Derived.Deep.RegionHeld3
import Derived.Deep.DeepCutAuto
namespace Go.Proofs.YtjcnjaebmndeiaaDoor
open Go.RowKit

theorem below_all {w w' : World} (h : Below w.heap.size w w') : Fr w w' (fun k => k < w.heap.size) := ⟨h.os, h.tape, h.output, h.size, fun i hi _ => h.block i hi⟩
theorem fr_drew {w w' : World} {ok : Nat → Prop} (h : Fr w w' ok) : Fr w w'.drew ok := h.drewN 1
theorem fr_below {w W W' : World} (h : Below w.heap.size w W) (hf : Fr W W' (fun _ => True)) : Below w.heap.size w W' := ⟨hf.os.trans h.os, hf.tape.trans h.tape, hf.output.trans h.output, Nat.le_trans h.size hf.size, fun i hi => (hf.block i (Nat.lt_of_lt_of_le hi h.size) trivial).trans (h.block i hi)⟩
theorem set_keep {W : World} {a b o i : Nat} {u v : Value} (hne : b ≠ a) (h : W.cell? ⟨a, o, none⟩ = some v) : (W.setCell ⟨b, i, none⟩ u).cell? ⟨a, o, none⟩ = some v :=
  ((Fr.of (gset W b i u) (ok := fun k => k ≠ b) (fun k _ hk e => hk (by cases e; rfl)))).cell h (fun e => hne e.symm)
theorem set_keep4 {W : World} {a b o : Nat} {u0 u1 u2 u3 v : Value} (hne : b ≠ a) (h : W.cell? ⟨a, o, none⟩ = some v) : ((((W.setCell ⟨b, 0, none⟩ u0).setCell ⟨b, 1, none⟩ u1).setCell ⟨b, 2, none⟩ u2).setCell ⟨b, 3, none⟩ u3).cell? ⟨a, o, none⟩ = some v :=
  set_keep hne (set_keep hne (set_keep hne (set_keep hne h)))
theorem fr_set {W w : World} {b i : Nat} {u : Value} (h : Fr W w (fun _ => True)) (hb : W.heap.size ≤ b) : Fr W (w.setCell ⟨b, i, none⟩ u) (fun _ => True) :=
  ((h.mono (ok' := fun k => k < W.heap.size) (fun _ _ _ => trivial)).trans (Fr.of (gset w b i u) (fun k _ hk e => by cases e; omega))).mono (fun k hk _ => hk)
theorem fr_set4 {W w : World} {b : Nat} {u0 u1 u2 u3 : Value} (h : Fr W w (fun _ => True)) (hb : W.heap.size ≤ b) : Fr W ((((w.setCell ⟨b, 0, none⟩ u0).setCell ⟨b, 1, none⟩ u1).setCell ⟨b, 2, none⟩ u2).setCell ⟨b, 3, none⟩ u3) (fun _ => True) :=
  fr_set (fr_set (fr_set (fr_set h hb) hb) hb) hb
theorem set4_at {w : World} {b : Nat} {a0 a1 a2 a3 : Value} (h : w.heap[b]? = some (.cells #[a0, a1, a2, a3] 26 (0, 0))) (u0 u1 u2 u3 : Value) :
    ((((w.setCell ⟨b, 0, none⟩ u0).setCell ⟨b, 1, none⟩ u1).setCell ⟨b, 2, none⟩ u2).setCell ⟨b, 3, none⟩ u3).heap[b]? = some (.cells #[u0, u1, u2, u3] 26 (0, 0)) := by
  have h1 : (w.setCell ⟨b, 0, none⟩ u0).heap[b]? = some (.cells #[u0, a1, a2, a3] 26 (0, 0)) := by rw [heap_setCell_same w b 0 _ 26 _ h]; rfl
  have h2 : ((w.setCell ⟨b, 0, none⟩ u0).setCell ⟨b, 1, none⟩ u1).heap[b]? = some (.cells #[u0, u1, a2, a3] 26 (0, 0)) := by rw [heap_setCell_same _ b 1 _ 26 _ h1]; rfl
  have h3 : (((w.setCell ⟨b, 0, none⟩ u0).setCell ⟨b, 1, none⟩ u1).setCell ⟨b, 2, none⟩ u2).heap[b]? = some (.cells #[u0, u1, u2, a3] 26 (0, 0)) := by rw [heap_setCell_same _ b 2 _ 26 _ h2]; rfl
  rw [heap_setCell_same _ b 3 _ 26 _ h3]; rfl
/-- What 'Parse' tells of an object of numbers. -/
def ObjIn (w : World) (rows : List (ByteArray × Nat)) (ks : List ByteArray) (g off g' off' : Nat) : Prop :=
  (∀ (i : Nat) (p : ByteArray × Nat), rows[i]? = some p → ∃ A c1 A' c2, w.cell? ⟨g, off + i * 4, none⟩ = some (.int .i64 (4 : Nat)) ∧ w.cell? ⟨g, off + i * 4 + 1, none⟩ = some (.string (str (dgt p.2))) ∧
    w.cell? ⟨g, off + i * 4 + 2, none⟩ = some (.slice A 0 c1) ∧ w.cell? ⟨g, off + i * 4 + 3, none⟩ = some (.slice A' 0 c2)) ∧
  (∀ (i : Nat) (s : ByteArray), ks[i]? = some s → w.cell? ⟨g', off' + i, none⟩ = some (.string s))
theorem ObjIn.fr {w w' : World} {rows : List (ByteArray × Nat)} {ks : List ByteArray} {g off g' off' : Nat} (h : ObjIn w rows ks g off g' off') (hf : Fr w w' (fun _ => True)) : ObjIn w' rows ks g off g' off' := by
  refine ⟨fun i p hp => ?_, fun i s hs => hf.cell (h.2 i s hs) trivial⟩
  obtain ⟨A, c1, A', c2, h0, h1, h2, h3⟩ := h.1 i p hp
  exact ⟨A, c1, A', c2, hf.cell h0 trivial, hf.cell h1 trivial, hf.cell h2 trivial, hf.cell h3 trivial⟩
theorem jin_leaf {w : World} {ok : Nat → Prop} {k : Nat} {t : ByteArray} {v0 v1 v2 v3 : Value} (h : JIn w ok (.mk k t [] []) v0 v1 v2 v3) : ∃ A c1 A' c2, v0 = .int .i64 k ∧ v1 = .string t ∧ v2 = .slice A 0 c1 ∧ v3 = .slice A' 0 c2 := by
  cases h; exact ⟨_, _, _, _, rfl, rfl, rfl, rfl⟩
theorem parse_obj {w w' : World} {e : Ending} {rows : List (ByteArray × Nat)} {ks : List ByteArray} {m : Nat} (hm : ks.length = m) (h0 : 0 < m) (hk : rows.map Prod.fst = ks)
    (h : ParsePost w (.ok (.mk 7 ByteArray.empty (rows.map numJ) (rows.map Prod.fst))) e w') :
    Below w.heap.size w w' ∧ ∃ g off cap g' off' cap', e = .returned (.tuple #[.agg #[.int .i64 7, .string ⟨#[]⟩, .slice (some ⟨g, off, none⟩) m cap, .slice (some ⟨g', off', none⟩) m cap'], .int .i64 0]) ∧ ObjIn w' rows ks g off g' off' := by
  obtain ⟨hb, v0, v1, v2, v3, rfl, hj⟩ := h
  refine ⟨hb, ?_⟩
  have hrl : (rows.map numJ).length = m := by rw [List.length_map, ← hm, ← hk, List.length_map]
  have hkl : (rows.map Prod.fst).length = m := by rw [hk, hm]
  cases hj with
  | mk k t l ks0 A A' cap cap' c hcap hcap' hL hK hE =>
    obtain ⟨g, off, rfl, _, hc⟩ := hL (by omega)
    obtain ⟨g', off', rfl, _, hc'⟩ := hK (by omega)
    refine ⟨g, off, cap, g', off', cap', by rw [hrl, hkl]; rfl, fun i p hp => ?_, fun i s hs => hc' i s (by rw [hk]; exact hs)⟩
    have hi : i < (rows.map numJ).length := by rw [List.length_map]; exact (List.getElem?_eq_some_iff.1 hp).1
    obtain ⟨B, c1, B', c2, e0, e1, e2, e3⟩ := jin_leaf (hE i (numJ p) (by rw [List.getElem?_map, hp]; rfl))
    have q0 := hc i 0 hi (by omega)
    have q1 := hc i 1 hi (by omega)
    have q2 := hc i 2 hi (by omega)
    have q3 := hc i 3 hi (by omega)
    rw [e0] at q0; rw [e1] at q1; rw [e2] at q2; rw [e3] at q3
    exact ⟨B, c1, B', c2, by rw [Nat.mul_comm]; exact q0, by rw [Nat.mul_comm]; exact q1, by rw [Nat.mul_comm]; exact q2, by rw [Nat.mul_comm]; exact q3⟩
theorem pick_at (a1 : Int) (m : Nat) (h0 : 0 < m) (hm : m ≤ 20) : ∃ j : Nat, j < m ∧ (IntKind.u64.wrap a1).tmod (m : Int) = j := by
  have h0 : 0 ≤ IntKind.u64.wrap a1 := by rw [IntKind.wrap_u64]; omega
  rw [Int.tmod_eq_emod_of_nonneg h0]
  generalize IntKind.u64.wrap a1 = x at *
  have h1 := Int.emod_nonneg x (show (m : Int) ≠ 0 by omega)
  have h2 := Int.emod_lt_of_pos x (show (0 : Int) < (m : Int) by omega)
  exact ⟨(x % m).toNat, by omega, by omega⟩
/-- What holds in the loop over the keys. -/
def KeyRel (w : World) (n : Nat) (g : Nat) (t hv i : Value) (wr : World) : Prop :=
  ∃ (k : Nat) (rows : List (ByteArray × Nat)) (ks : List ByteArray), k + g = n ∧ i = .int .i64 k ∧ t = .string (str (txtK rows)) ∧ Kok k rows ∧ rows.map Prod.fst = ks ∧ wr.ownsRow w.heap.size 9 1 hv ks.length (ks.map Value.string) ∧ Below w.heap.size w wr
set_option maxHeartbeats 4000000 in
set_option maxRecDepth 100000 in
theorem keys_walk : jsonKeys.Walk := by
  intro A0 n0 c0 x0 a1 w hS hwf hG
  have h4 := hG.size
  obtain ⟨hxl, hnc, hcm, hS'⟩ := hS
  by_cases hn : 20 < n0
  · have hi : (20 : Int) < (n0 : Int) := by omega
    have haw := awake w hG (by omega)
    clear hwf hG hS'
    go_enter Tryd.func10, Tryd.ntmps10
    go_wp2_with fail
    refine haw.mono ?_
    rintro e w1 ⟨rfl, hb⟩
    go_wp2
    go_ret
    exact ⟨rfl, hb⟩
  have hi : ¬ (20 : Int) < (n0 : Int) := by omega
  have HG := Lib.hid hG
  have HS := Lib.hid hS'
  clear hwf hG hS'
  go_enter Tryd.func10, Tryd.ntmps10
  go_wp2
  go_loopg [5, 6, 7] n0 (fun g t hv i wr => KeyRel w n0 g t hv i wr)
  case atStart => exact ⟨0, [], [], by omega, rfl, rfl, Kok.nil, rfl, World.ownsRow_nil _ _ _ _, Below.refl _ _⟩
  case round =>
    obtain ⟨k, rows, ks, hkg, rfl, rfl, hK, hks, hown, hb⟩ := hrel
    have HKS := Lib.hid hks
    have hkl : ks.length ≤ k := by rw [← hks, List.length_map]; exact hK.2.1
    clear hks
    by_cases hk : k < n0
    · obtain ⟨b, off, rfl, hbl, hc⟩ := HS.out (by omega)
      obtain ⟨x, hx⟩ : ∃ x, x0[k]? = some x := ⟨_, List.getElem?_eq_getElem (by omega)⟩
      have hcell : wr.cell? ⟨b, off + k, none⟩ = some (.string x) := (below_all hb).cell (hc k x hx) hbl
      have hki : (k : Int) < (n0 : Int) := by omega
      obtain ⟨A1, cap1, rfl, hsl, hob⟩ := own_sls hown
      have htx := hK.text (by omega)
      obtain ⟨g', hg'⟩ : ∃ g', gk = g' + 1 := ⟨gk - 1, by omega⟩
      subst hg'
      have HK := Lib.hid hK
      have HOwn := Lib.hid hown
      have HSl := Lib.hid hsl
      have HB := Lib.hid hb
      have HOb := Lib.hid hob
      clear hc hx hK hown hsl hb hob
      by_cases h100 : 100 < x.size
      · have h100i : (100 : Int) < (x.size : Int) := by omega
        go_wp2
        go_roundg g'
        case measure => omega
        case rel => exact ⟨k + 1, rows, ks, by omega, by go_num, rfl, HK.out.skip, HKS.out, HOwn.out, HB.out⟩
      · have h100i : ¬ (100 : Int) < (x.size : Int) := by omega
        have hva := Tryd.utf8_ValidString x wr (by omega) (HG.out.below HB.out).u8
        cases hv : Lib.validD x.data.toList with
        | false =>
          rw [hv] at hva
          clear hv
          go_wp2_with fail
          refine hva.mono ?_
          rintro e w1 ⟨rfl, hb1⟩
          clear hva hcell
          go_wp2
          go_roundg g'
          case measure => omega
          case rel => exact ⟨k + 1, rows, ks, by omega, by go_num, rfl, HK.out.skip, HKS.out, ownsRow_fr HOwn.out (below_all hb1) (fun g e => (HOwn.out.lt g e).2), HB.out.trans (hb1.mono HB.out.size)⟩
        | true =>
          rw [hv] at hva
          have HV := Lib.hid hv
          clear hv
          go_wp2_with fail
          refine hva.mono ?_
          rintro e w1 ⟨rfl, hb1⟩
          have hcell1 : w1.cell? ⟨b, off + k, none⟩ = some (.string x) := (below_fr0 hb1).cell hcell trivial
          have hown1 := ownsRow_fr HOwn.out (below_all hb1) (fun g e => (HOwn.out.lt g e).2)
          have hb2 := HB.out.trans (hb1.mono HB.out.size)
          have hin := in_any A1 ks cap1 x w1 (by omega) (HSl.out.fr (below_fr0 hb1))
          clear hva hcell hb1
          cases hi9 : inB ks x with
          | true =>
            rw [hi9] at hin
            clear hi9
            go_wp2_with fail
            refine hin.mono ?_
            rintro e w2 ⟨rfl, rfl⟩
            go_wp2
            go_roundg g'
            case measure => omega
            case rel => exact ⟨k + 1, rows, ks, by omega, by go_num, rfl, HK.out.skip, HKS.out, hown1, hb2⟩
          | false =>
            rw [hi9] at hin
            have HI := Lib.hid hi9
            clear hi9
            go_wp2_with fail
            refine hin.mono ?_
            rintro e w2 ⟨rfl, rfl⟩
            clear hin
            have hqs := quo_size x (by omega)
            have hds := dgt_size k (by omega)
            have hts : (str (txtK rows)).size ≤ 12120 := htx
            have hkt := key_text rows x k
            have HKT := Lib.hid hkt
            clear hkt
            go_wp2_with fail
            refine (quote_any x w2 (by omega)).mono ?_
            rintro e w3 ⟨rfl, n3, rfl⟩
            go_wp2_with fail
            refine (digits_any k (by omega) _).mono ?_
            rintro e w4 ⟨rfl, hb4⟩
            have hfr4 : Fr w2 w4 (fun g => g < w2.heap.size) := ((Fr.refl w2 (fun g => g < w2.heap.size)).drewN n3).trans (below_all hb4)
            have hws := hb2.size
            have hown4 := ownsRow_fr hown1 hfr4 (fun g e => (hown1.lt g e).2)
            have hcell4 : w4.cell? ⟨b, off + k, none⟩ = some (.string x) := hfr4.cell hcell1 (by omega)
            have hb5 : Below w.heap.size w w4 := hb2.trans ⟨hfr4.os, hfr4.tape, hfr4.output, hfr4.size, fun i hi => hfr4.block i (by omega) (by omega)⟩
            obtain ⟨i9, hi9, hz90, hz91, hz92⟩ := info_parts Tryd.info9
            have hownA := hown4.alloc (.cells #[.string x] 9)
            clear hcell1 hown1 hb2 hb4 hfr4 hown4
            go_wp2_with (at_builtin; refine wpList_append_own_at _ rfl _ _ 24 rfl w.heap.size 9 i9 _ 1 16 Tryd.underlying24 hi9 hz90 hz91 hz92 rfl (by decide) _ ks.length (ks.map Value.string) rfl hownA ⟨w4.heap.size, 0, none⟩ 1 1 [.string x] rfl rfl (cell_one_new _ _ _) (by simp [Value.oneCell']) (by unfold maxLen; omega) (by omega) (by have := hb5.size; simp; omega) ?_; intro vk' wk5 hownk hgrowk _ hblkk)
            go_roundg g'
            case measure => omega
            case rel =>
              refine ⟨k + 1, rows ++ [(x, k)], ks ++ [x], by omega, by go_num, congrArg Value.string HKT.out, HK.out.next (by omega) (by omega) HV.out (by rw [HKS.out]; exact HI.out), by rw [List.map_append, HKS.out]; rfl, by simpa using hownk, ?_⟩
              refine (hb5.alloc hb5.size _).grown hgrowk (Nat.le_trans hb5.size (by simp)) (fun g e => ?_)
              exact (HOwn.out.lt g e).1
    · have hkn : k = n0 := by omega
      obtain ⟨m, hm⟩ : ∃ m, ks.length = m := ⟨_, rfl⟩
      have htx := hK.text (by omega)
      have hbt := bodyK_len rows htx
      obtain ⟨A1, cap1, rfl, hsl, _⟩ := own_sls hown
      have hGr := HG.out.below hb
      have hrl : rows.length = m := by rw [← hm, ← HKS.out, List.length_map]
      have hm20 : m ≤ 20 := by omega
      rw [hm]
      rcases Nat.eq_zero_or_pos m with h0 | hpos
      · subst h0
        have haw := awake wr hGr (by have := hb.size; omega)
        clear hm hrl hsl hown htx hbt hkl hK hGr
        go_wp2_with fail
        refine haw.mono ?_
        rintro e w1 ⟨rfl, hb1⟩
        go_wp2
        go_ret
        exact ⟨rfl, hb.trans (hb1.mono hb.size)⟩
      · obtain ⟨ga, oa, rfl, hac⟩ := hsl (by omega)
        have hpm : (0 : Int) < (m : Int) := by omega
        obtain ⟨j, hj, hjw⟩ := pick_at a1 m hpos hm20
        obtain ⟨y, hy⟩ : ∃ y, ks[j]? = some y := ⟨_, List.getElem?_eq_getElem (by omega)⟩
        have hne : rows ≠ [] := by intro e; rw [e] at hrl; simp at hrl; omega
        have hts : (str (txtK rows)).size ≤ 12120 := htx
        have hts1 : 1 ≤ (str (txtK rows)).size := by have := txtK_len rows; rw [qstr_size]; omega
        have hq1 := parse_rows rows hne hK.1 (by omega)
        have hp1 : Calls Tryd.prog 12 #[.string ((⟨#[123]⟩ : ByteArray) ++ (str (txtK rows)).extract 1 (str (txtK rows)).size ++ (⟨#[125]⟩ : ByteArray))] wr fun e w' => Below wr.heap.size wr w' ∧ ∃ g off cap g' off' cap', e = .returned (.tuple #[.agg #[.int .i64 7, .string ⟨#[]⟩, .slice (some ⟨g, off, none⟩) m cap, .slice (some ⟨g', off', none⟩) m cap'], .int .i64 0]) ∧ ObjIn w' rows ks g off g' off' := by
          rw [obj_text]
          have := parse_any (str (123 :: (bodyK rows ++ [125]))) wr hGr
          rw [str_data, hq1] at this
          exact this.mono fun e w' h => parse_obj hm hpos HKS.out h
        obtain ⟨py, hpy, hpy'⟩ : ∃ p, p ∈ rows ∧ p.1 = y := by
          have : y ∈ rows.map Prod.fst := by rw [HKS.out]; exact List.mem_of_getElem? hy
          obtain ⟨p, h1, h2⟩ := List.mem_map.1 this
          exact ⟨p, h1, h2⟩
        have hys : y.size ≤ 100 := by rw [← hpy']; exact (hK.2.2 py hpy).1
        have hqs := quo_size y hys
        have hq2 := parse_twice rows y (by rw [HKS.out]; exact List.mem_of_getElem? hy) hK.1 (by omega) (by have := (quoL_len y.data.toList).2; rw [← size_len] at this; omega)
        have hqc : ∀ W : World, Calls Tryd.prog 30 #[.string y] W fun e w' => e = .returned (.string (str (34 :: (quoL y.data.toList ++ [34])))) ∧ Fr W w' (fun _ => True) := fun W => (quote_any y W (by omega)).mono (by rintro e w' ⟨rfl, n, rfl⟩; exact ⟨rfl, (Fr.refl W _).drewN n⟩)
        have hpc : ∀ W : World, Below w.heap.size w W → Calls Tryd.prog 12 #[.string ((⟨#[123]⟩ : ByteArray) ++ (str (txtK rows)).extract 1 (str (txtK rows)).size ++ (⟨#[44]⟩ : ByteArray) ++ str (34 :: (quoL y.data.toList ++ [34])) ++ (⟨#[58, 110, 117, 108, 108, 125]⟩ : ByteArray))] W fun e w' => e = .returned (.tuple #[zero26, .int .i64 7]) ∧ Fr W w' (fun _ => True) := fun W hW => by
          rw [twice_text]
          have := parse_any (str (123 :: (bodyK rows ++ 44 :: 34 :: (quoL y.data.toList ++ 34 :: 58 :: [110, 117, 108, 108, 125])))) W (HG.out.below hW)
          rw [str_data, hq2] at this
          exact this.mono fun e w' h => ⟨h.2, below_fr0 h.1⟩
        have HQC := Lib.hid hqc
        have HPC := Lib.hid hpc
        have HP1 := Lib.hid hp1
        have HK := Lib.hid hK
        have HAC := Lib.hid hac
        have HY := Lib.hid hy
        have HM := Lib.hid hm
        have HR := Lib.hid hrl
        have HB := Lib.hid hb
        clear hm hrl hsl hown htx hbt hkl hK hGr hac hp1 hq1 hne hy hb hqc hpc hq2 hpy hpy'
        generalize str (34 :: (quoL y.data.toList ++ [34])) = Q at *
        generalize str (txtK rows) = T at *
        go_wp2_with fail
        refine HP1.out.mono ?_
        rintro e w1 ⟨hb1, g, off, cap, g', off', cap', rfl, hO⟩
        have hB2 := heap_alloc_new w1 (.cells #[.int .i64 7, .string ⟨#[]⟩, .slice (some ⟨g, off, none⟩) m cap, .slice (some ⟨g', off', none⟩) m cap'] 26 (0, 0))
        have hf2 : Fr w1 (w1.alloc (.cells #[.int .i64 7, .string ⟨#[]⟩, .slice (some ⟨g, off, none⟩) m cap, .slice (some ⟨g', off', none⟩) m cap'] 26)) (fun _ => True) := (Fr.refl w1 _).alloc _
        have hO2 := hO.fr hf2
        have hfr : Fr wr w1 (fun k => k < wr.heap.size) := below_all hb1
        have hac2 : ∀ (i : Nat) (s : ByteArray), ks[i]? = some s → (w1.alloc (.cells #[.int .i64 7, .string ⟨#[]⟩, .slice (some ⟨g, off, none⟩) m cap, .slice (some ⟨g', off', none⟩) m cap'] 26)).cell? ⟨ga, oa + i, none⟩ = some (.string s) :=
          fun i s h => hf2.cell (hfr.cell (HAC.out i s h) (World.block_lt_of_cell? wr _ (HAC.out i s h))) trivial
        have hbb := HB.out
        have hb2 : Below w.heap.size w (w1.alloc (.cells #[.int .i64 7, .string ⟨#[]⟩, .slice (some ⟨g, off, none⟩) m cap, .slice (some ⟨g', off', none⟩) m cap'] 26)) := (hbb.trans (hb1.mono hbb.size)).alloc (Nat.le_trans hbb.size hb1.size) _
        go_upto_region 14 with fail
        generalize (w1.alloc (.cells #[.int .i64 7, .string ⟨#[]⟩, .slice (some ⟨g, off, none⟩) m cap, .slice (some ⟨g', off', none⟩) m cap'] 26)) = W2 at *
        go_cut [10, 11] (fun p f wx => f = .int .i64 (7 : Nat) ∧ Fr W2 wx (fun _ => True))
        case first =>
          have hcy : W2.cell? ⟨ga, oa + j, none⟩ = some (.string y) := hac2 j y HY.out
          have hwm : IntKind.u64.wrap (m : Int) = (m : Int) := by rw [IntKind.wrap_u64]; omega
          have hji : (j : Int) < (m : Int) := by omega
          have hj0 : (0 : Int) ≤ (j : Int) := by omega
          have hts1i : (1 : Int) ≤ (T.size : Int) := by omega
          have hm0 : ¬ (m = 0) := by omega
          have hjw2 : IntKind.i64.wrap (j : Int) = (j : Int) := IntWalk.i64_in _ (by omega)
          have s1 : ¬ (9223372036854775807 < T.size) := by omega
          have s2 : ¬ (9223372036854775807 < T.size + 1) := by omega
          have s3 : ¬ (9223372036854775807 < T.size + 1 + Q.size) := by omega
          have s4 : ¬ (9223372036854775807 < T.size + 1 + Q.size + 6) := by omega
          have hn2 : W2.heap.size ≠ ga := World.new_ne W2 _ hcy
          clear hac2 hO2 hB2 hf2 hO hb1 hfr hbb
          go_region_held3 (fun w' => w'.cell? ⟨ga, oa + j, none⟩ = some (.string y)) (first | with_reducible exact hcy | with_reducible exact hcy1 | with_reducible exact hcy2 | with_reducible exact set_keep4 hne hcy2 | go_keep) (first
            | (go_at_call 30; refine (HQC.out W2.drew).mono ?_; rintro e w3 ⟨rfl, hf3⟩; have hF3 : Fr W2 w3 (fun _ => True) := Fr.trans (by repeat (first | with_reducible assumption | with_reducible exact Fr.refl _ _ | with_reducible apply Fr.alloc | with_reducible apply fr_drew | with_reducible apply Fr.drewN)) hf3; have hcy1 := hF3.cell hcy trivial)
            | (go_at_call 30; refine (HQC.out (W2.drew.alloc (.cells #[.int .i64 0, .string ⟨#[]⟩, .slice none 0 0, .slice none 0 0] 26))).mono ?_; rintro e w3 ⟨rfl, hf3⟩; have hF3 : Fr W2 w3 (fun _ => True) := Fr.trans (by repeat (first | with_reducible assumption | with_reducible exact Fr.refl _ _ | with_reducible apply Fr.alloc | with_reducible apply fr_drew | with_reducible apply Fr.drewN)) hf3; have hcy1 := hF3.cell hcy trivial; have hZ3 : w3.heap[W2.heap.size]? = some (.cells #[.int .i64 0, .string ⟨#[]⟩, .slice none 0 0, .slice none 0 0] 26 (0, 0)) := hf3.at (heap_alloc_new W2.drew _) trivial)
            | (go_at_call 12; have hz3 := hZ3; refine (HPC.out w3 (fr_below hb2 (by repeat (first | with_reducible assumption | with_reducible exact Fr.refl _ _ | with_reducible apply Fr.alloc | with_reducible apply fr_drew | with_reducible apply Fr.drewN)))).mono ?_; rintro e w4 ⟨rfl, hf4⟩; have hF4 : Fr W2 w4 (fun _ => True) := Fr.trans hF3 hf4; have hcy2 := hF4.cell hcy trivial; have hne := hn2; have hZ4 := hf4.at hZ3 trivial; obtain ⟨z0, z1, z2, z3⟩ := cells_4 hZ4; obtain ⟨y0, y1, y2, y3⟩ := frozen_4 hZ4)
            | (go_at_call 12; refine (HPC.out w3 (fr_below hb2 (by repeat (first | with_reducible assumption | with_reducible exact Fr.refl _ _ | with_reducible apply Fr.alloc | with_reducible apply fr_drew | with_reducible apply Fr.drewN)))).mono ?_; rintro e w4 ⟨rfl, hf4⟩; have hF4 : Fr W2 w4 (fun _ => True) := Fr.trans hF3 hf4; have hcy2 := hF4.cell hcy trivial)
            | (go_at_call 12; refine (HPC.out (w3.alloc (.cells #[.int .i64 0, .string ⟨#[]⟩, .slice none 0 0, .slice none 0 0] 26)) (fr_below hb2 (by repeat (first | with_reducible assumption | with_reducible exact Fr.refl _ _ | with_reducible apply Fr.alloc | with_reducible apply fr_drew | with_reducible apply Fr.drewN)))).mono ?_; rintro e w4 ⟨rfl, hf4⟩; have hF4 : Fr W2 w4 (fun _ => True) := Fr.trans (by repeat (first | with_reducible assumption | with_reducible exact Fr.refl _ _ | with_reducible apply Fr.alloc | with_reducible apply fr_drew | with_reducible apply Fr.drewN)) hf4; have hcy2 := hF4.cell hcy trivial; have hne : w3.heap.size ≠ ga := World.new_ne w3 _ hcy1; have hZ4 : w4.heap[w3.heap.size]? = some (.cells #[.int .i64 0, .string ⟨#[]⟩, .slice none 0 0, .slice none 0 0] 26 (0, 0)) := hf4.at (heap_alloc_new w3 _) trivial; obtain ⟨z0, z1, z2, z3⟩ := cells_4 hZ4; obtain ⟨y0, y1, y2, y3⟩ := frozen_4 hZ4)
            | fail)
          all_goals (go_wp2_with fail)
          all_goals go_meet
          · exact ⟨rfl, hF4.alloc _⟩
          · exact ⟨rfl, fr_set4 hF4 hF3.size⟩
          · exact ⟨rfl, fr_set4 hF4 (Nat.le_refl _)⟩
        case rest =>
          obtain ⟨rfl, hfc⟩ := hcut
          have hB3 := hfc.at hB2 trivial
          have hO3 := hO2.fr hfc
          have hb3 := fr_below hb2 hfc
          have hac3 : ∀ (i : Nat) (s : ByteArray), ks[i]? = some s → wc.cell? ⟨ga, oa + i, none⟩ = some (.string s) := fun i s h => hfc.cell (hac2 i s h) trivial
          have haw := awake wc (HG.out.below hb3) (Nat.le_trans (by omega) hb3.size)
          clear hB2 hO2 hac2 hb2 hf2 hfc hO hb1 hfr hbb HPC HQC HP1 hjw hj
          go_wp2_with fail
          refine haw.mono ?_
          rintro e w5 ⟨rfl, hb5⟩
          have hf5 := below_fr0 hb5
          have hB5 := hf5.at hB3 trivial
          have hO5 := hO3.fr hf5
          have hb6 := fr_below hb3 hf5
          have hac5 : ∀ (i : Nat) (s : ByteArray), ks[i]? = some s → w5.cell? ⟨ga, oa + i, none⟩ = some (.string s) := fun i s h => hf5.cell (hac3 i s h) trivial
          obtain ⟨p0, p1, p2, p3⟩ := cells_4 hB5
          have hpl := plain_strs (some ⟨g', off', none⟩) (some ⟨ga, oa, none⟩) ks cap' cap1 w5 (by have := HM.out; omega) (fun _ => ⟨g', off', rfl, hO5.2⟩) (fun _ => ⟨ga, oa, rfl, hac5⟩)
          rw [HM.out] at hpl
          clear haw hB3 hO3 hac3 hb3 hb5 hf5
          go_wp2_with fail
          refine hpl.mono ?_
          rintro e w6 ⟨rfl, n6, rfl⟩
          clear hpl
          go_wp2_with fail
          have hf6 : Fr w5 (w5.drewN n6) (fun _ => True) := (Fr.refl w5 _).drewN n6
          have hB6 := hf6.at hB5 trivial
          have hO6 := hO5.fr hf6
          have hb7 := fr_below hb6 hf6
          have hac6 : ∀ (i : Nat) (s : ByteArray), ks[i]? = some s → (w5.drewN n6).cell? ⟨ga, oa + i, none⟩ = some (.string s) := fun i s h => hf6.cell (hac5 i s h) trivial
          clear hB5 hO5 hb6 hac5 hf6 p0 p1 p2 p3
          generalize w5.drewN n6 = W6 at *
          generalize w1.heap.size = vb at *
          have hnd : ks.Nodup := by have := HK.out.1.2; rw [List.nil_append, HKS.out] at this; exact this
          have HND := Lib.hid hnd
          have HB6 := Lib.hid hB6
          have HO6 := Lib.hid hO6
          have HA6 := Lib.hid hac6
          have HBB := Lib.hid hb7
          clear hnd hB6 hO6 hac6 hb7
          go_loopg [12] m (fun g i wr => ∃ q : Nat, q + g = m ∧ i = .int .i64 q ∧ Fr W6 wr (fun _ => True))
          case atStart => exact ⟨0, by omega, rfl, Fr.refl _ _⟩
          case round =>
            obtain ⟨q, hqg, rfl, hfq⟩ := hrel
            by_cases hq : q < m
            · obtain ⟨x, hx⟩ : ∃ x, ks[q]? = some x := ⟨_, List.getElem?_eq_getElem (by have := HM.out; omega)⟩
              obtain ⟨pp, hpp⟩ : ∃ pp, rows[q]? = some pp := ⟨_, List.getElem?_eq_getElem (by have := HR.out; omega)⟩
              obtain ⟨Ax, cx, Ay, cy, o0, o1, o2, o3⟩ := HO6.out.1 q pp hpp
              have hqi : (q : Int) < (m : Int) := by omega
              have hq0 : (0 : Int) ≤ (q : Int) := by omega
              obtain ⟨gq, hgq⟩ : ∃ gq, gk = gq + 1 := ⟨gk - 1, by omega⟩
              subst hgq
              obtain ⟨p0, p1, p2, p3⟩ := cells_4 (hfq.at HB6.out trivial)
              have hcx := hfq.cell (HA6.out q x hx) trivial
              have hget : ∀ W : World, Fr W6 W (fun _ => True) → Calls Tryd.prog 16 #[.agg #[.int .i64 7, .string ⟨#[]⟩, .slice (some ⟨g, off, none⟩) m cap, .slice (some ⟨g', off', none⟩) m cap'], .string x] W fun e w' => e = .returned (.tuple #[.agg #[.int .i64 4, .string (str (dgt pp.2)), .slice none 0 0, .slice none 0 0], .bool true]) ∧ Fr W w' (fun _ => True) := fun W hW => by
                have := get_hit ks HND.out (by have := HM.out; omega) q x hx g off cap g' off' cap' 4 (str (dgt pp.2)) Ax Ay cx cy W (fun i s h => hW.cell (HO6.out.2 i s h) trivial) (hW.cell o0 trivial) (hW.cell o1 trivial) (hW.cell o2 trivial) (hW.cell o3 trivial)
                rw [HM.out] at this
                exact this.mono fun e w' h => ⟨h.1, below_fr0 h.2⟩
              have HGET := Lib.hid hget
              have o1' := HO6.out.1 q pp hpp
              clear hget hx hpp o0 o1 o2 o3
              go_upto_region 20 with fail
              go_cut [13, 14] from 125 to 157 (fun p ok wx => ok = .bool true ∧ ∃ b, p = .pointer (some ⟨b, 0, none⟩) ∧ wx.heap[b]? = some (.cells #[.int .i64 4, .string (str (dgt pp.2)), .slice none 0 0, .slice none 0 0] 26 (0, 0)) ∧ Fr W6 wx (fun _ => True))
              case first =>
                have hnv : wr.heap.size ≠ vb := World.new_ne wr _ p0
                have hng : wr.heap.size ≠ ga := World.new_ne wr _ hcx
                have hws : W6.heap.size ≤ wr.heap.size := hfq.size
                clear o1'
                go_region_held3 (fun w' => w'.cell? ⟨vb, 0, none⟩ = some (.int .i64 7) ∧ w'.cell? ⟨vb, 1, none⟩ = some (.string ⟨#[]⟩) ∧ w'.cell? ⟨vb, 2, none⟩ = some (.slice (some ⟨g, off, none⟩) m cap) ∧ w'.cell? ⟨vb, 3, none⟩ = some (.slice (some ⟨g', off', none⟩) m cap') ∧ w'.cell? ⟨ga, oa + q, none⟩ = some (.string x)) (first | with_reducible exact ⟨p0, p1, p2, p3, hcx⟩ | with_reducible exact ⟨c0, c1, c2, c3, c4⟩ | with_reducible exact ⟨set_keep4 hnv c0, set_keep4 hnv c1, set_keep4 hnv c2, set_keep4 hnv c3, set_keep4 hng c4⟩ | go_keep) (first
                  | (go_at_call 16; refine (HGET.out wr.drew (hfq.drewN 1)).mono ?_; rintro e w3 ⟨rfl, hf3⟩; have hF3 : Fr wr w3 (fun _ => True) := Fr.trans (by repeat (first | with_reducible assumption | with_reducible exact Fr.refl _ _ | with_reducible apply Fr.alloc | with_reducible apply fr_drew | with_reducible apply Fr.drewN)) hf3; have c0 := hF3.cell p0 trivial; have c1 := hF3.cell p1 trivial; have c2 := hF3.cell p2 trivial; have c3 := hF3.cell p3 trivial; have c4 := hF3.cell hcx trivial)
                  | (go_at_call 16; refine (HGET.out (wr.drew.alloc (.cells #[.int .i64 0, .string ⟨#[]⟩, .slice none 0 0, .slice none 0 0] 26)) ((hfq.drewN 1).alloc _)).mono ?_; rintro e w3 ⟨rfl, hf3⟩; have hF3 : Fr wr w3 (fun _ => True) := Fr.trans (by repeat (first | with_reducible assumption | with_reducible exact Fr.refl _ _ | with_reducible apply Fr.alloc | with_reducible apply fr_drew | with_reducible apply Fr.drewN)) hf3; have c0 := hF3.cell p0 trivial; have c1 := hF3.cell p1 trivial; have c2 := hF3.cell p2 trivial; have c3 := hF3.cell p3 trivial; have c4 := hF3.cell hcx trivial; have hZ3 : w3.heap[wr.heap.size]? = some (.cells #[.int .i64 0, .string ⟨#[]⟩, .slice none 0 0, .slice none 0 0] 26 (0, 0)) := hf3.at (heap_alloc_new wr.drew _) trivial; obtain ⟨z0, z1, z2, z3⟩ := cells_4 hZ3; obtain ⟨y0, y1, y2, y3⟩ := frozen_4 hZ3)
                  | fail)
                all_goals (go_wp2_with fail)
                all_goals go_meet
                · exact ⟨rfl, _, rfl, heap_alloc_new w3 _, (hfq.trans hF3).alloc _⟩
                · exact ⟨rfl, _, rfl, set4_at hZ3 _ _ _ _, fr_set4 (hfq.trans hF3) hws⟩
              case rest =>
                obtain ⟨rfl, b, rfl, hb, hfw⟩ := hcut
                obtain ⟨Ax, cx, Ay, cy, o0, o1, o2, o3⟩ := o1'
                have q1 := hfw.cell o1 trivial
                obtain ⟨r0, r1, r2, r3⟩ := cells_4 hb
                obtain ⟨v0, v1, v2, v3⟩ := cells_4 (hfw.at HB6.out trivial)
                clear o0 o1 o2 o3 p0 p1 p2 p3 hcx hfq hb HGET
                go_wp2
                go_quiet (fail)
                go_wp2
                go_roundg gq
                case measure => omega
                case rel => exact ⟨q + 1, by omega, by go_num, hfw.drewN _⟩
            · have hqm : q = m := by omega
              have hbe := fr_below HBB.out hfq
              clear hfq
              go_wp2
              go_ret
              exact ⟨rfl, hbe⟩
theorem jsonKeys_holds : Rows.JsonKeysCardSaid := jsonKeys.card keys_walk
end Go.Proofs.YtjcnjaebmndeiaaDoor
