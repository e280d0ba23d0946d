/-
  'awake'; a leaf's fits; schemas of one node.
-/
import Derived.Test.YtcmillbjpplfjaaGreatDoorRva
import Derived.Test.YtcmillbjpplfjaaGreatDoorAln
import Derived.Test.YtcmillbjpplfjaaGreatDoorFit
import Derived.Test.YtcmillbjpplfjaaGreatDoorVv
import Derived.Test.YtcmillbjpplfjaaGreatDoorUsm
namespace Go.Proofs.YtcmillbjpplfjaaGreatDoor
open Go.RowKit Go.Shelf

def vbM (b : List Int) : Bool := Lib.validD (b.map fun n => UInt8.ofNat n.toNat)
theorem vb_any (b : List Int) (B : Option Addr) (capb : Nat) (W : World) (hb : ∀ x, x ∈ b → 0 ≤ x ∧ x < 256) (hcap : b.length ≤ capb ∧ capb ≤ maxLen)
    (hB : 0 < b.length → ∃ g off, B = some ⟨g, off, none⟩ ∧ g < W.heap.size ∧ ∀ i x, b[i]? = some x → W.cell? ⟨g, off + i, none⟩ = some (.int .u8 x)) (hT : Lib.Utf8Tabs 0 1 W) :
    Calls Tryz.prog 38 #[.slice B b.length capb] W fun e w' => e = .returned (.bool (vbM b)) ∧ Below W.heap.size W w' := by
  have hs : (strOfNums b).size = b.length := strOfNums_size b
  have h := valid_any (strOfNums b) B capb W (by omega) hcap.2 (fun h0 => by
    obtain ⟨g, off, e, hg, hc⟩ := hB (by omega)
    refine ⟨g, off, e, hg, fun j hj => ?_⟩
    have hj2 : j < b.length := by omega
    rw [hc j _ (List.getElem?_eq_getElem hj2)]
    have hx := hb _ (List.getElem_mem hj2)
    have h1 : (strOfNums b).get! j = UInt8.ofNat (b[j]).toNat := by
      have : (strOfNums b).get! j = (strOfNums b).data[j]! := rfl
      rw [this]
      simp [strOfNums, hj2]
    rw [h1]
    congr 2
    simp
    omega) hT
  rw [hs] at h
  exact h
/-- Plain: which primitives match. -/
def wantB (i k : Int) : Bool := i == k || (i == 3 && k == 4) || (i == 8 && k == 7)
theorem prims : ∀ a b : Fin 8, matchT [kNd (1 + (a.val : Int))] [kNd (1 + (b.val : Int))] 0 0 = wantB (1 + (a.val : Int)) (1 + (b.val : Int)) := by decide +kernel
theorem mod8 (i : Int) : ∃ a : Fin 8, wrap64 (1 + wrap64 ((IntKind.u64.wrap i).tmod 8)) = 1 + (a.val : Int) := by
  rw [IntKind.wrap_u64]
  have h0 : 0 ≤ i % 18446744073709551616 := Int.emod_nonneg _ (by decide)
  generalize i % 18446744073709551616 = m at *
  rw [Int.tmod_eq_emod_of_nonneg h0]
  refine ⟨⟨(m % 8).toNat, by omega⟩, ?_⟩
  unfold wrap64
  simp only
  omega
theorem wf8 : ∀ a : Fin 8, (Lit.int .i64 (1 + (a.val : Int))).wf = true := by decide +kernel

abbrev ubT : List ByteArray → Bool := fun _ => true
/-- A leaf that fits its node. -/
def leafB (i vn : Int) (xs : List Int) : Bool := aloneV vbM ubT (kNd i) (.mk i vn xs [] [])
theorem one_nds' {W : World} {ok : Nat → Prop} {g : Nat} (k : Int) (hk : (Lit.int .i64 k).wf = true) (hg : ok g) (h : W.heap[g]? = some (.cells (kA k) 50 (0, 0))) : NdsAt W ok [kNd k] (.slice (some ⟨g, 0, none⟩) 1 1) := by
  refine nds_arr (ns := [kNd k]) h rfl hg (by simp) (fun i n hi => ?_)
  rcases i with _ | i
  · simp only [List.getElem?_cons_zero, Option.some.injEq] at hi
    subst hi
    exact ⟨rfl, rfl, strs_nil _ _, rows_nil _ _, strs_nil _ _, rfl, rfl, rfl, ints_nil _ _, rfl, hk, wf0, wf0, sz0, sz0⟩
  · simp at hi
theorem uin_leafB {w : World} {ok : Nat → Prop} {k n : Int} {xs : List Int} {B : Option Addr} {nb cb : Nat} (hk : (Lit.int .i64 k).wf = true) (hn : (Lit.int .i64 n).wf = true) (hx : ∀ x, x ∈ xs → 0 ≤ x ∧ x < 256) (hl : xs.length = nb) (hc : nb ≤ cb ∧ cb ≤ maxLen)
    (hB : 0 < nb → ∃ g off, B = some ⟨g, off, none⟩ ∧ ok g ∧ ∀ i x, xs[i]? = some x → w.cell? ⟨g, off + i, none⟩ = some (.int .u8 x)) (A A' : Option Addr) (ca ca' : Nat) (hca : ca ≤ maxLen) (hca' : ca' ≤ maxLen) :
    UIn w ok (.mk k n xs [] []) (.int .i64 k) (.int .i64 n) (.slice B nb cb) (.slice A 0 ca) (.slice A' 0 ca') := by
  subst hl
  exact UIn.mk k n xs [] [] B A A' cb ca ca' (fun _ _ => undef) hk hn hx (by simp) hc ⟨by simp, hca⟩ ⟨by simp, hca'⟩ hB (fun h => by simp at h) (fun h => by simp at h) (fun i z h => by simp at h)
theorem fits_leaf (i vn : Int) (xs : List Int) (hi8 : i ≠ 12) (hw : (Lit.int .i64 i).wf = true) (hn : (Lit.int .i64 vn).wf = true) (hx : ∀ x, x ∈ xs → 0 ≤ x ∧ x < 256) (hf : leafB i vn xs = true) (W : World) (vs : Value) (hS : NdsAt W (fun b => b < W.heap.size) [kNd i] vs) (B : Option Addr) (nb cb : Nat) (hl : xs.length = nb) (hc : nb ≤ cb ∧ cb ≤ maxLen)
    (hB : 0 < nb → ∃ g off, B = some ⟨g, off, none⟩ ∧ g < W.heap.size ∧ ∀ i x, xs[i]? = some x → W.cell? ⟨g, off + i, none⟩ = some (.int .u8 x)) (hT : i = 8 → Lib.Utf8Tabs 0 1 W) :
    Calls Tryz.prog 28 #[.agg #[vs], .int .i64 0, .agg #[.int .i64 i, .int .i64 vn, .slice B nb cb, .slice none 0 0, .slice none 0 0]] W fun e w' => e = .returned (.bool true) ∧ Below W.heap.size W w' := by
  have hu := uin_leafB (ok := fun b => b < W.heap.size) hw hn hx hl hc hB none none 0 0 (by unfold maxLen; omega) (by unfold maxLen; omega)
  have hA : AloneC (aloneV vbM ubT) [kNd i] W := by
    intro W1 hW1 nd c x d0 d1 d2 d3 d4 hnd hN hX
    obtain rfl := List.mem_singleton.1 hnd
    refine alone_any vbM ubT (kNd i) c W1 _ _ hN x d0 d1 d2 d3 d4 hX (fun h8 W2 hW2 => ?_) (fun h12 => absurd h12 hi8)
    cases hX with
    | mk k n b l ks B A A' capb cap cap' cc h1 h2 h3 h4 hcapb hcap hcap' hB hL hK hE =>
      exact vb_any b B capb W2 h3 hcapb (fun h0 => by
        obtain ⟨g, off, e, hg, hc⟩ := hB h0
        exact ⟨g, off, e, by have := hW1.size; have := hW2.size; omega, fun i x hx => (below_fr0 hW2).cell (hc i x hx) trivial⟩) (Utf8Tabs_below (Utf8Tabs_below (hT h8) hW1) hW2)
  have h := fits_any (aloneV vbM ubT) [kNd i] (alone_leaves _ _ _) (by simp) 0 _ (by simp [uc, ucL]) W _ _ _ _ _ vs hu hS hA
  have he : fitsU (aloneV vbM ubT) [kNd i] 0 (.mk i vn xs [] []) = true := by
    unfold fitsU
    unfold leafB at hf
    simp [fitsL, hf]
  rw [he] at h
  exact h
/-- 'resolve.Value' of schemas of one node each. -/
theorem resolve_leaf (i k vn : Int) (xs : List Int) (hi : i ≠ 13 ∧ i ≠ 12) (hk : k ≠ 13 ∧ k ≠ 9 ∧ k ≠ 10) (hiw : (Lit.int .i64 i).wf = true) (hkw : (Lit.int .i64 k).wf = true) (hn : (Lit.int .i64 vn).wf = true) (hx : ∀ x, x ∈ xs → 0 ≤ x ∧ x < 256) (hf : leafB i vn xs = true) (W : World) (g h : Nat)
    (hg : W.heap[g]? = some (.cells (kA i) 50 (0, 0))) (hh : W.heap[h]? = some (.cells (kA k) 50 (0, 0))) (B : Option Addr) (nb cb : Nat) (hl : xs.length = nb) (hb47 : nb ≤ 140737488355328) (hc : nb ≤ cb ∧ cb ≤ maxLen)
    (hB : 0 < nb → ∃ g off, B = some ⟨g, off, none⟩ ∧ g < W.heap.size ∧ ∀ i x, xs[i]? = some x → W.cell? ⟨g, off + i, none⟩ = some (.int .u8 x)) (hT : i = 8 → Lib.Utf8Tabs 0 1 W) :
    Calls Tryz.prog 14 #[.agg #[.slice (some ⟨g, 0, none⟩) 1 1], .agg #[.slice (some ⟨h, 0, none⟩) 1 1], .agg #[.int .i64 i, .int .i64 vn, .slice B nb cb, .slice none 0 0, .slice none 0 0]] W fun e w' => ValLP W (matchT [kNd i] [kNd k] 0 0) k vn nb (xs.map (Value.int .u8)) e w' ∧ Below W.heap.size W w' :=
  value14_leaf [kNd i] [kNd k] W (some ⟨g, 0, none⟩) (some ⟨h, 0, none⟩) 1 1 (one_nds' i hiw (blk_lt hg) hg) (one_nds' k hkw (blk_lt hh) hh) (kNd i) (kNd k) rfl rfl hi.1 hk i vn B nb cb (xs.map (Value.int .u8)) (by rw [List.length_map, hl]) hb47
    (fun h0 => by
      obtain ⟨b, off, e, hb, hcc⟩ := hB h0
      exact ⟨b, off, e, hb, fun j u hu => by
        rw [List.getElem?_map] at hu
        obtain ⟨x, hx2, rfl⟩ := Option.map_eq_some_iff.1 hu
        exact hcc j x hx2⟩)
    (fun u hu => by obtain ⟨x, _, rfl⟩ := List.mem_map.1 hu; rfl)
    (fun W' hW' => fits_leaf i vn xs hi.2 hiw hn hx hf W' _ (nds_mono (nds_fr (ok' := fun _ => True) hW' (fun _ _ => trivial) (one_nds' (ok := fun b => b < W.heap.size) i hiw (blk_lt hg) hg)) (fun b hb => Nat.lt_of_lt_of_le hb hW'.size)) B nb cb hl hc
      (fun h0 => by
        obtain ⟨b, off, e, hb, hcc⟩ := hB h0
        exact ⟨b, off, e, Nat.lt_of_lt_of_le hb hW'.size, fun j x hx2 => hW'.cell (hcc j x hx2) trivial⟩)
      (fun h8 => Utf8Tabs_below (hT h8) (fr_below hW')))
theorem leaf35 : leafB 3 5 [] = true := by decide +kernel
end Go.Proofs.YtcmillbjpplfjaaGreatDoor
