/-
  The reference's 'print' of every right value.
  The reference's 'Print' of any value.
-/
import Derived.Test.YtjcnjaebmndeiaaDoorZcc
namespace Go.Proofs.YtjcnjaebmndeiaaDoor
open Go.RowKit

/-- 'print' tells of that value. -/
def PrC (z : Z) : Prop := ∀ (w : World) (v0 v1 v2 v3 : Value), ZIn w (fun b => b < w.heap.size) z v0 v1 v2 v3 → Calls Tryd.prog 47 #[.agg #[v0, v1, v2, v3]] w fun e w' => e = .returned (.string (str (core [] z))) ∧ Below w.heap.size w w'
set_option maxHeartbeats 4000000 in
set_option maxRecDepth 100000 in
theorem print_arr (l : List Z) (hz : zwL l ≤ 1048576) (hs : ∀ x, x ∈ l → PrC x) (A A' : Option Addr) (cap cap' : Nat) (c : Nat → Nat → Value) (w : World)
    (hL : 0 < l.length → ∃ g off, A = some ⟨g, off, none⟩ ∧ g < w.heap.size ∧ ∀ i j, i < l.length → j < 4 → w.cell? ⟨g, off + (4 * i + j), none⟩ = some (c i j))
    (hE : ∀ i z, l[i]? = some z → ZIn w (fun b => b < w.heap.size) z (c i 0) (c i 1) (c i 2) (c i 3)) :
    Calls Tryd.prog 47 #[.agg #[.int .i64 6, .string ⟨#[]⟩, .slice A l.length cap, .slice A' 0 cap']] w fun e w' => e = .returned (.string (str (core [] (.mk 6 ⟨#[]⟩ l [])))) ∧ Below w.heap.size w w' := by
  have hll := zwL_len l
  have hfin : str (core [] (.mk 6 ⟨#[]⟩ l [])) = str (outTx [] false l [] l.length) ++ (⟨#[93]⟩ : ByteArray) := by
    rw [str_lit, str_cat2]
    refine congrArg str ?_
    unfold outTx
    rw [core, if_pos rfl, List.take_of_length_le (Nat.le_refl _)]
    all_goals simp
  have hlong : ∀ q, (str (outTx [] false l [] q)).size ≤ 63000000 := fun q => outTx_long (by simp) false l [] q (by simpa [kw] using hz)
  have hout0 : str (outTx [] false l [] 0) = (⟨#[91]⟩ : ByteArray) := by
    rw [str_lit]
    refine congrArg str ?_
    all_goals (unfold outTx; rw [List.take_zero, List.take_zero, memC])
    all_goals simp
  rw [hfin]
  have HOUT0 := Lib.hid hout0
  have HLONG := Lib.hid hlong
  clear hfin hlong hout0
  generalize hn : l.length = n at *
  have HN := Lib.hid hn
  have hB0 := heap_alloc_new w (.cells #[.int .i64 6, .string ⟨#[]⟩, .slice A n cap, .slice A' 0 cap'] 26 (0, 0))
  have hb0 : Below w.heap.size w (w.alloc (.cells #[.int .i64 6, .string ⟨#[]⟩, .slice A n cap, .slice A' 0 cap'] 26)) := (Below.refl _ _).alloc (Nat.le_refl _) _
  obtain ⟨p0, p1, p2, p3⟩ := cells_4 hB0
  have HL := Lib.hid hL
  have HE := Lib.hid hE
  have HS := Lib.hid hs
  have HB0 := Lib.hid hB0
  clear hn hL hE hs hB0
  go_enter Tryd.func47, Tryd.ntmps47
  go_wp2
  clear p0 p1 p2 p3
  generalize (w.alloc (.cells #[.int .i64 6, .string ⟨#[]⟩, .slice A n cap, .slice A' 0 cap'] 26)) = W0 at *
  go_loopg [3, 4] n (fun gg out i wr => ∃ q : Nat, q + gg = n ∧ i = .int .i64 q ∧ out = .string (str (outTx [] false l [] q)) ∧ wr.heap[w.heap.size]? = some (.cells #[.int .i64 6, .string ⟨#[]⟩, .slice A n cap, .slice A' 0 cap'] 26 (0, 0)) ∧ Below w.heap.size w wr)
  case atStart => exact ⟨0, by omega, rfl, congrArg Value.string HOUT0.out.symm, HB0.out, hb0⟩
  case round =>
    obtain ⟨q, hqg, rfl, rfl, hbx, hbw⟩ := hrel
    obtain ⟨p0, p1, p2, p3⟩ := cells_4 hbx
    have HBX := Lib.hid hbx
    have hol := HLONG.out q
    clear hbx
    by_cases hq : q < n
    · obtain ⟨x, hx⟩ : ∃ x, l[q]? = some x := ⟨_, List.getElem?_eq_getElem (by have := HN.out; omega)⟩
      obtain ⟨eg, off, rfl, hgw, hc⟩ := HL.out (by omega)
      have hqi : (q : Int) < (n : Int) := by omega
      have hq0 : (0 : Int) ≤ (q : Int) := by omega
      obtain ⟨y0, y1, y2, y3⟩ := elc4 hc hq
      have hf := below_fr hbw
      have x0 := hf.cell y0 hgw
      have x1 := hf.cell y1 hgw
      have x2 := hf.cell y2 hgw
      have x3 := hf.cell y3 hgw
      have hzx := HE.out q x hx
      have hcall : ∀ W, Below w.heap.size w W → Calls Tryd.prog 47 #[.agg #[c q 0, c q 1, c q 2, c q 3]] W fun e w' => e = .returned (.string (str (core [] x))) ∧ Below W.heap.size W w' := fun W hW =>
        HS.out x (List.mem_of_getElem? hx) W _ _ _ _ ((hzx.fr (below_fr hW) (fun _ h => h)).mono (fun b _ hb => Nat.lt_of_lt_of_le hb hW.size))
      have hxl : (str (core [] x)).size ≤ 63000000 := by
        have h1 := core_long [] (by simp) x
        have h2 := zwL_mem (List.mem_of_getElem? hx)
        rw [qstr_size]; omega
      have HCALL := Lib.hid hcall
      have HNX := Lib.hid (show 0 < q → str (outTx [] false l [] q) ++ (⟨#[44]⟩ : ByteArray) ++ str (core [] x) = str (outTx [] false l [] (q + 1)) from fun h => by
        have := outTx_next [] false (l := l) (ks := []) (q := q) (z := x) (s := ⟨#[]⟩) h hx (fun h => by cases h)
        rw [this, str_lit, str_cat2, str_cat2]
        refine congrArg str ?_
        unfold keyTx
        simp)
      have HFS := Lib.hid (show q = 0 → str (outTx [] false l [] q) ++ str (core [] x) = str (outTx [] false l [] (q + 1)) from fun h => by
        subst h
        have := outTx_first [] false (l := l) (ks := []) (z := x) (s := ⟨#[]⟩) hx (fun h => by cases h)
        rw [this, str_cat2]
        refine congrArg str ?_
        unfold keyTx
        simp)
      generalize str (outTx [] false l [] q) = O at *
      generalize str (core [] x) = X at *
      obtain ⟨g', hg'⟩ : ∃ g', gk = g' + 1 := ⟨gk - 1, by omega⟩
      subst hg'
      clear hc hx y0 y1 y2 y3 hf hcall hzx
      generalize c q 0 = a0 at *
      generalize c q 1 = a1 at *
      generalize c q 2 = a2 at *
      generalize c q 3 = a3 at *
      by_cases hz0 : q = 0
      · have hfs := HFS.out hz0
        have HF1 := Lib.hid hfs
        clear hfs HFS HNX
        subst hz0
        simp only [Nat.zero_mul, Nat.add_zero] at x0 x1 x2 x3
        go_wp2_with fail
        refine (HCALL.out _ hbw).mono ?_
        rintro e w3 ⟨rfl, hb3⟩
        have hbx3 := (below_fr0 hb3).at HBX.out trivial
        have hbw3 : Below w.heap.size w w3 := hbw.trans (hb3.mono hbw.size)
        obtain ⟨r0, r1, r2, r3⟩ := cells_4 hbx3
        go_wp2
        go_roundg g'
        case measure => omega
        case rel => exact ⟨0 + 1, by omega, by go_num, congrArg Value.string HF1.out, hbx3, hbw3⟩
      · have hfs := HNX.out (by omega)
        have HF1 := Lib.hid hfs
        have hz1 : (0 : Int) < (q : Int) := by omega
        clear hfs HFS HNX
        go_wp2_with fail
        refine (HCALL.out _ hbw).mono ?_
        rintro e w3 ⟨rfl, hb3⟩
        have hbx3 := (below_fr0 hb3).at HBX.out trivial
        have hbw3 : Below w.heap.size w w3 := hbw.trans (hb3.mono hbw.size)
        obtain ⟨r0, r1, r2, r3⟩ := cells_4 hbx3
        go_wp2
        go_roundg g'
        case measure => omega
        case rel => exact ⟨q + 1, by omega, by go_num, congrArg Value.string HF1.out, hbx3, hbw3⟩
    · have hqn : q = n := by omega
      subst hqn
      generalize hOO : str (outTx [] false l [] q) = O at *
      have HOO := Lib.hid hOO
      clear hOO
      go_wp2
      go_ret
      exact ⟨by rw [HOO.out]; rfl, hbw⟩
set_option maxHeartbeats 4000000 in
set_option maxRecDepth 100000 in
theorem print_obj (l : List Z) (ks : List ByteArray) (hkn : ks.length = l.length) (hz : zwL l + kw ks ≤ 1048576) (hs : ∀ x, x ∈ l → PrC x) (A A' : Option Addr) (cap cap' : Nat) (c : Nat → Nat → Value) (w : World)
    (hL : 0 < l.length → ∃ g off, A = some ⟨g, off, none⟩ ∧ g < w.heap.size ∧ ∀ i j, i < l.length → j < 4 → w.cell? ⟨g, off + (4 * i + j), none⟩ = some (c i j))
    (hK : 0 < ks.length → ∃ g off, A' = some ⟨g, off, none⟩ ∧ g < w.heap.size ∧ ∀ i s, ks[i]? = some s → w.cell? ⟨g, off + i, none⟩ = some (.string s))
    (hE : ∀ i z, l[i]? = some z → ZIn w (fun b => b < w.heap.size) z (c i 0) (c i 1) (c i 2) (c i 3)) :
    Calls Tryd.prog 47 #[.agg #[.int .i64 7, .string ⟨#[]⟩, .slice A l.length cap, .slice A' l.length cap']] w fun e w' => e = .returned (.string (str (core [] (.mk 7 ⟨#[]⟩ l ks)))) ∧ Below w.heap.size w w' := by
  have hll := zwL_len l
  have hfin : str (core [] (.mk 7 ⟨#[]⟩ l ks)) = str (outTx [] true l ks l.length) ++ (⟨#[125]⟩ : ByteArray) := by
    rw [str_lit, str_cat2]
    refine congrArg str ?_
    unfold outTx
    rw [core, if_neg (by decide), if_pos rfl, List.take_of_length_le (Nat.le_refl _), List.take_of_length_le (by omega)]
    all_goals simp
  have hlong : ∀ q, (str (outTx [] true l ks q)).size ≤ 63000000 := fun q => outTx_long (by simp) true l ks q (by exact hz)
  have hout0 : str (outTx [] true l ks 0) = (⟨#[123]⟩ : ByteArray) := by
    rw [str_lit]
    refine congrArg str ?_
    all_goals (unfold outTx; rw [List.take_zero, List.take_zero, memC])
    all_goals simp
  rw [hfin]
  have HOUT0 := Lib.hid hout0
  have HLONG := Lib.hid hlong
  clear hfin hlong hout0
  generalize hn : l.length = n at *
  have HN := Lib.hid hn
  have hB0 := heap_alloc_new w (.cells #[.int .i64 7, .string ⟨#[]⟩, .slice A n cap, .slice A' n cap'] 26 (0, 0))
  have hb0 : Below w.heap.size w (w.alloc (.cells #[.int .i64 7, .string ⟨#[]⟩, .slice A n cap, .slice A' n cap'] 26)) := (Below.refl _ _).alloc (Nat.le_refl _) _
  obtain ⟨p0, p1, p2, p3⟩ := cells_4 hB0
  have HL := Lib.hid hL
  have HE := Lib.hid hE
  have HS := Lib.hid hs
  have HB0 := Lib.hid hB0
  have HK := Lib.hid hK
  have HKN := Lib.hid hkn
  clear hK hkn
  clear hn hL hE hs hB0
  go_enter Tryd.func47, Tryd.ntmps47
  go_wp2
  clear p0 p1 p2 p3
  generalize (w.alloc (.cells #[.int .i64 7, .string ⟨#[]⟩, .slice A n cap, .slice A' n cap'] 26)) = W0 at *
  go_loopg [3, 4] n (fun gg out i wr => ∃ q : Nat, q + gg = n ∧ i = .int .i64 q ∧ out = .string (str (outTx [] true l ks q)) ∧ wr.heap[w.heap.size]? = some (.cells #[.int .i64 7, .string ⟨#[]⟩, .slice A n cap, .slice A' n cap'] 26 (0, 0)) ∧ Below w.heap.size w wr)
  case atStart => exact ⟨0, by omega, rfl, congrArg Value.string HOUT0.out.symm, HB0.out, hb0⟩
  case round =>
    obtain ⟨q, hqg, rfl, rfl, hbx, hbw⟩ := hrel
    obtain ⟨p0, p1, p2, p3⟩ := cells_4 hbx
    have HBX := Lib.hid hbx
    have hol := HLONG.out q
    clear hbx
    by_cases hq : q < n
    · obtain ⟨x, hx⟩ : ∃ x, l[q]? = some x := ⟨_, List.getElem?_eq_getElem (by have := HN.out; omega)⟩
      obtain ⟨s, hsk⟩ : ∃ s, ks[q]? = some s := ⟨_, List.getElem?_eq_getElem (by have := HKN.out; omega)⟩
      obtain ⟨kg, ko, rfl, hkw, hkc⟩ := HK.out (by have := HKN.out; omega)
      have hssz : s.size ≤ 1048576 := by have := kw_mem (List.mem_of_getElem? hsk); omega
      have hqsz : (str (34 :: (quoL s.data.toList ++ [34]))).size ≤ 6300000 := by
        have := (quoL_len s.data.toList).2
        rw [← size_len] at this
        rw [qstr_size]; simp only [List.length_cons, List.length_append, List.length_nil]; omega
      obtain ⟨eg, off, rfl, hgw, hc⟩ := HL.out (by omega)
      have hqi : (q : Int) < (n : Int) := by omega
      have hq0 : (0 : Int) ≤ (q : Int) := by omega
      obtain ⟨y0, y1, y2, y3⟩ := elc4 hc hq
      have hf := below_fr hbw
      have x0 := hf.cell y0 hgw
      have x1 := hf.cell y1 hgw
      have x2 := hf.cell y2 hgw
      have x3 := hf.cell y3 hgw
      have hzx := HE.out q x hx
      have hcall : ∀ W, Below w.heap.size w W → Calls Tryd.prog 47 #[.agg #[c q 0, c q 1, c q 2, c q 3]] W fun e w' => e = .returned (.string (str (core [] x))) ∧ Below W.heap.size W w' := fun W hW =>
        HS.out x (List.mem_of_getElem? hx) W _ _ _ _ ((hzx.fr (below_fr hW) (fun _ h => h)).mono (fun b _ hb => Nat.lt_of_lt_of_le hb hW.size))
      have hxl : (str (core [] x)).size ≤ 63000000 := by
        have h1 := core_long [] (by simp) x
        have h2 := zwL_mem (List.mem_of_getElem? hx)
        rw [qstr_size]; omega
      have HCALL := Lib.hid hcall
      have k0 := hf.cell (hkc q s hsk) hkw
      have hkt : str (keyTx [] true s ++ ([] ++ (core [] x ++ []))) = str (34 :: (quoL s.data.toList ++ [34])) ++ (⟨#[58]⟩ : ByteArray) ++ str (core [] x) := by
        rw [str_lit, str_cat2, str_cat2]
        refine congrArg str ?_
        unfold keyTx
        simp
      have hfst := outTx_first [] true (l := l) (ks := ks) (z := x) (s := s)
      have hnxt := outTx_next [] true (l := l) (ks := ks) (q := q) (z := x) (s := s)
      have hqc := fun W => quote_big s W (by omega)
      have HQC := Lib.hid hqc
      have HNX := Lib.hid (show 0 < q → str (outTx [] true l ks q) ++ (⟨#[44]⟩ : ByteArray) ++ str (34 :: (quoL s.data.toList ++ [34])) ++ (⟨#[58]⟩ : ByteArray) ++ str (core [] x) = str (outTx [] true l ks (q + 1)) from fun h => by
        rw [hnxt h hx (fun _ => hsk), ← str_cat2, show (44 :: (keyTx [] true s ++ ([] ++ (core [] x ++ []))) : Bs) = [44] ++ (keyTx [] true s ++ ([] ++ (core [] x ++ []))) from rfl, ← str_cat2, hkt, str_lit]
        simp only [ByteArray.append_assoc])
      have HFS := Lib.hid (show q = 0 → str (outTx [] true l ks q) ++ str (34 :: (quoL s.data.toList ++ [34])) ++ (⟨#[58]⟩ : ByteArray) ++ str (core [] x) = str (outTx [] true l ks (q + 1)) from fun h => by
        subst h
        rw [hfst hx (fun _ => hsk), ← str_cat2, hkt]
        simp only [ByteArray.append_assoc])
      generalize str (34 :: (quoL s.data.toList ++ [34])) = Q at *
      clear hkt hfst hnxt hqc hkc hsk
      generalize str (outTx [] true l ks q) = O at *
      generalize str (core [] x) = X at *
      obtain ⟨g', hg'⟩ : ∃ g', gk = g' + 1 := ⟨gk - 1, by omega⟩
      subst hg'
      clear hc hx y0 y1 y2 y3 hf hcall hzx
      generalize c q 0 = a0 at *
      generalize c q 1 = a1 at *
      generalize c q 2 = a2 at *
      generalize c q 3 = a3 at *
      by_cases hz0 : q = 0
      · have hfs := HFS.out hz0
        have HF1 := Lib.hid hfs
        clear hfs HFS HNX
        subst hz0
        simp only [Nat.zero_mul, Nat.add_zero] at x0 x1 x2 x3 k0
        go_wp2_with fail
        refine (HQC.out _).mono ?_
        rintro e w2 ⟨rfl, n2, rfl⟩
        have hbw2 : Below w.heap.size w (wr.drewN n2) := ⟨hbw.os, hbw.tape, hbw.output, hbw.size, hbw.block⟩
        have fr2 : Fr wr (wr.drewN n2) (fun _ => True) := (Fr.refl wr _).drewN n2
        have x0 := fr2.cell x0 trivial
        have x1 := fr2.cell x1 trivial
        have x2 := fr2.cell x2 trivial
        have x3 := fr2.cell x3 trivial
        have p0 := fr2.cell p0 trivial
        have p2 := fr2.cell p2 trivial
        have HBX := Lib.hid (fr2.at HBX.out trivial)
        go_wp2_with fail
        refine (HCALL.out _ hbw2).mono ?_
        rintro e w3 ⟨rfl, hb3⟩
        have hbx3 := (below_fr0 hb3).at HBX.out trivial
        have hbw3 : Below w.heap.size w w3 := hbw2.trans (hb3.mono hbw2.size)
        obtain ⟨r0, r1, r2, r3⟩ := cells_4 hbx3
        go_wp2
        go_roundg g'
        case measure => omega
        case rel => exact ⟨0 + 1, by omega, by go_num, congrArg Value.string HF1.out, hbx3, hbw3⟩
      · have hfs := HNX.out (by omega)
        have HF1 := Lib.hid hfs
        have hz1 : (0 : Int) < (q : Int) := by omega
        clear hfs HFS HNX
        go_wp2_with fail
        refine (HQC.out _).mono ?_
        rintro e w2 ⟨rfl, n2, rfl⟩
        have hbw2 : Below w.heap.size w (wr.drewN n2) := ⟨hbw.os, hbw.tape, hbw.output, hbw.size, hbw.block⟩
        have fr2 : Fr wr (wr.drewN n2) (fun _ => True) := (Fr.refl wr _).drewN n2
        have x0 := fr2.cell x0 trivial
        have x1 := fr2.cell x1 trivial
        have x2 := fr2.cell x2 trivial
        have x3 := fr2.cell x3 trivial
        have p0 := fr2.cell p0 trivial
        have p2 := fr2.cell p2 trivial
        have HBX := Lib.hid (fr2.at HBX.out trivial)
        go_wp2_with fail
        refine (HCALL.out _ hbw2).mono ?_
        rintro e w3 ⟨rfl, hb3⟩
        have hbx3 := (below_fr0 hb3).at HBX.out trivial
        have hbw3 : Below w.heap.size w w3 := hbw2.trans (hb3.mono hbw2.size)
        obtain ⟨r0, r1, r2, r3⟩ := cells_4 hbx3
        go_wp2
        go_roundg g'
        case measure => omega
        case rel => exact ⟨q + 1, by omega, by go_num, congrArg Value.string HF1.out, hbx3, hbw3⟩
    · have hqn : q = n := by omega
      subst hqn
      generalize hOO : str (outTx [] true l ks q) = O at *
      have HOO := Lib.hid hOO
      clear hOO
      go_wp2
      go_ret
      exact ⟨by rw [HOO.out]; rfl, hbw⟩
theorem print_json : ∀ (n : Nat) (z : Z), SizeOf.sizeOf z < n → zn z ≤ 21000 → zw z ≤ 1048576 → ∀ d, Rgt d z → PrC z
  | 0, _, h => by omega
  | n + 1, .mk k t l ks, hsz => fun hz hzw d hr w v0 v1 v2 v3 h => by
    rw [Rgt] at hr
    rw [zn] at hz
    rw [zw] at hzw
    have hlz : ∀ x, x ∈ l → zn x ≤ 21000 ∧ zw x ≤ 1048576 ∧ SizeOf.sizeOf x < n := fun x hx => by
      have h1 := zwL_mem hx
      have h2 := znL_mem hx
      have h3 := List.sizeOf_lt_of_mem hx
      simp only [Z.mk.sizeOf_spec] at hsz
      exact ⟨by omega, by omega, by omega⟩
    cases h with
    | mk _ _ _ _ A A' cap cap' c h1 h2 h3 hcap hcap' hL hK hE =>
      rcases hr with ⟨hl, rfl, rfl⟩ | ⟨⟨rfl, _, hk⟩, hc⟩
      · have h6 : k ≠ 6 := by rcases hl with ⟨h | h | h, _⟩ | ⟨h, _⟩ | ⟨h, _⟩ <;> omega
        have h7 : k ≠ 7 := by rcases hl with ⟨h | h | h, _⟩ | ⟨h, _⟩ | ⟨h, _⟩ <;> omega
        rw [core, if_neg h6, if_neg h7]
        exact print_leaf k t hl (by omega) A A' cap cap' w
      · have hs : ∀ x, x ∈ l → PrC x := fun x hx => print_json n x (hlz x hx).2.2 (hlz x hx).1 (hlz x hx).2.1 (d + 1) (RgtL_mem hc x hx)
        rcases hk with ⟨rfl, rfl⟩ | ⟨rfl, hkl, _, _⟩
        · exact print_arr l (by omega) hs A A' cap cap' c w hL hE
        · have := print_obj l ks hkl (by omega) hs A A' cap cap' c w hL hK hE
          rw [← hkl] at this
          rw [hkl] at this ⊢
          exact this
end Go.Proofs.YtjcnjaebmndeiaaDoor

namespace Go.Proofs.YtjcnjaebmndeiaaDoor
open Go.RowKit

/-- A text: X where R, else none. -/
def TextPost (w : World) (R : Prop) (X : Bs) (e : Ending) (w' : World) : Prop := ∃ s : ByteArray, e = .returned (.string s) ∧ (R → s = str X) ∧ (¬ R → s = ⟨#[]⟩) ∧ Below w.heap.size w w'
theorem tp_yes {w w' : World} {R : Prop} {X : Bs} {e : Ending} (he : e = .returned (.string (str X))) (hb : Below w.heap.size w w') (h : R) : TextPost w R X e w' := ⟨_, he, fun _ => rfl, fun h' => absurd h h', hb⟩
theorem tp_no {w w' : World} {R : Prop} {X : Bs} {e : Ending} (he : e = .returned (.string ⟨#[]⟩)) (hb : Below w.heap.size w w') (h : ¬ R) : TextPost w R X e w' := ⟨_, he, fun h' => absurd h' h, fun _ => rfl, hb⟩
set_option maxHeartbeats 1000000 in
set_option maxRecDepth 100000 in
theorem rprint_any (z : Z) (hz : zn z ≤ 21000) (hzw : zw z ≤ 1048576) (w : World) (hG : Gl w) (v0 v1 v2 v3 : Value) (h : ZIn w (fun b => b < w.heap.size) z v0 v1 v2 v3) :
    Calls Tryd.prog 21 #[.agg #[v0, v1, v2, v3]] w (TextPost w (Rgt 0 z) (core [] z)) := by
  obtain ⟨k, t, A, n1, c1, A', n2, c2, rfl, rfl, rfl, rfl⟩ := zin_agg h
  have hb0 : Below w.heap.size w (w.alloc (.cells #[.int .i64 k, .string t, .slice A n1 c1, .slice A' n2 c2] 26)) := (Below.refl _ _).alloc (Nat.le_refl _) _
  have hB0 := heap_alloc_new w (.cells #[.int .i64 k, .string t, .slice A n1 c1, .slice A' n2 c2] 26 (0, 0))
  have h0 := (h.fr (below_fr hb0) (fun _ h => h)).mono (fun b _ hb => Nat.lt_of_lt_of_le hb hb0.size)
  have hr := rright_any z hz hzw _ (hG.below hb0) _ _ _ _ h0
  have HPR := Lib.hid (show ∀ W, Below (w.alloc (.cells #[.int .i64 k, .string t, .slice A n1 c1, .slice A' n2 c2] 26)).heap.size (w.alloc (.cells #[.int .i64 k, .string t, .slice A n1 c1, .slice A' n2 c2] 26)) W → Rgt 0 z →
      Calls Tryd.prog 47 #[.agg #[.int .i64 k, .string t, .slice A n1 c1, .slice A' n2 c2]] W fun e w' => e = .returned (.string (str (core [] z))) ∧ Below W.heap.size W w' from fun W hW hR =>
    print_json (SizeOf.sizeOf z + 1) z (by omega) hz hzw 0 hR W _ _ _ _ ((h0.fr (below_fr hW) (fun _ h => h)).mono (fun b _ hb => Nat.lt_of_lt_of_le hb hW.size)))
  obtain ⟨p0, p1, p2, p3⟩ := cells_4 hB0
  clear h h0 hz hzw
  generalize Rgt 0 z = R at *
  generalize core [] z = X at *
  go_enter Tryd.func21, Tryd.ntmps21
  go_wp2_with fail
  generalize (w.alloc (.cells #[.int .i64 k, .string t, .slice A n1 c1, .slice A' n2 c2] 26)) = W0 at *
  refine hr.mono ?_
  rintro e w1 ⟨b, rfl, hbi, hb1⟩
  have hB1 := (below_fr0 hb1).at hB0 trivial
  obtain ⟨q0, q1, q2, q3⟩ := cells_4 hB1
  have hb2 : Below w.heap.size w w1 := hb0.trans (hb1.mono hb0.size)
  have HBI := Lib.hid hbi
  clear hbi hr hB0 hB1 p0 p1 p2 p3
  cases b with
  | false =>
    have hn : ¬ R := fun h => Bool.noConfusion (HBI.out.2 h)
    go_wp2_with fail
    go_ret
    exact tp_no rfl hb2 hn
  | true =>
    have hR : R := HBI.out.1 rfl
    have hc := HPR.out w1 hb1 hR
    go_wp2_with fail
    refine hc.mono ?_
    rintro e w2 ⟨rfl, hb3⟩
    go_wp2
    go_ret
    exact tp_yes rfl (hb2.trans (hb3.mono hb2.size)) hR
end Go.Proofs.YtjcnjaebmndeiaaDoor
