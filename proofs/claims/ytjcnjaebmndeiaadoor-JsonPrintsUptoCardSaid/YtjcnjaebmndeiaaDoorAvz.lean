/-
  'appendValue' of every right value; 'Print' of every small value.
-/
import Derived.Test.YtjcnjaebmndeiaaDoorMez
import Derived.Test.YtjcnjaebmndeiaaDoorZrt
import Derived.Test.YtjcnjaebmndeiaaDoorZpq
namespace Go.Proofs.YtjcnjaebmndeiaaDoor
open Go.RowKit

set_option maxHeartbeats 2000000 in
set_option maxRecDepth 100000 in
theorem value_zarr (B : Nat) (v : Value) (l : Bs) (ls : List Z) (t : ByteArray) (A A' : Option Addr) (c1 c2 : Nat) (c : Nat → Nat → Value) (w : World) (hG : Gl w) (hown : w.ownsRow B 5 1 v l.length (Lib.byteCells l)) (hB : B ≤ w.heap.size) (h4 : 4 ≤ B)
    (hll : l.length + (memC [] false ls []).length + 1 ≤ 190000000) (hn : ls.length ≤ 2000000)
    (hL : 0 < ls.length → ∃ g off, A = some ⟨g, off, none⟩ ∧ g < B ∧ ∀ i j, i < ls.length → j < 4 → w.cell? ⟨g, off + (4 * i + j), none⟩ = some (c i j))
    (hE : ∀ i z, ls[i]? = some z → ZIn w (fun b => b < B) z (c i 0) (c i 1) (c i 2) (c i 3)) (hs : ∀ x, x ∈ ls → AvC x) :
    Calls Tryd.prog 46 #[v, .agg #[.int .i64 6, .string t, .slice A ls.length c1, .slice A' 0 c2]] w (AppPost w B v (l ++ [91] ++ memQ false ls [] ls.length ++ [93])) := by
  have hvlt := hown.lt
  have hmem : ∀ (w1 : World) (v1 : Value), ARel w B w.heap.size v (l ++ [91]) v1 w1 → Calls Tryd.prog 72 #[v1, .agg #[.int .i64 6, .string t, .slice A ls.length c1, .slice A' 0 c2]] w1 (AppPost w1 B v1 (l ++ [91] ++ memQ false ls [] ls.length)) := fun w1 v1 ha => by
    have hfr := ha.fr (fun g e => (hvlt g e).1)
    exact members_zarr B v1 (l ++ [91]) ls t A A' c1 c2 c w1 (hG.kept ha.2.1 (fun k e => by have := (hvlt k e).1; omega)) ha.1 ha.2.2.2.1 h4 (by simp only [List.length_append, List.length_cons, List.length_nil]; omega) hn (fun hp => by obtain ⟨g, off, e, hg, hc⟩ := hL hp; exact ⟨g, off, e, hg, fun i j hi hj => hfr.cell (hc i j hi hj) hg⟩) (fun i z hz => (hE i z hz).fr hfr (fun _ h => h)) hs
  have hml := memQ_le false ls [] ls.length
  have hl2 : l.length ≤ 200000000 := by omega
  have hl3 : (l ++ [91] ++ memQ false ls [] ls.length).length ≤ 200000000 := by simp only [List.length_append, List.length_cons, List.length_nil]; omega
  generalize memQ false ls [] ls.length = mm at *
  generalize hnn : ls.length = n at *
  have hrg := RG.start hown hB (.cells #[.int .i64 6, .string t, .slice A n c1, .slice A' 0 c2] 26)
  have HM := Lib.hid hmem
  clear hmem hll hL hE hs hG hown hB hvlt hml hnn
  go_enter Tryd.func46, Tryd.ntmps46
  go_wp2
  go_region_law ((first
    | (apply step_app1 (B := B) (v := v) (w := w) (l := l ++ [91] ++ mm) (c := 93) (t := 5) (fr := (0, 0)) (hl := hl3)
       case hgd => rfl
       case ho => rfl
       case h => ((repeat (first | with_reducible assumption | with_reducible apply RG.drew | with_reducible apply RG.alloc)); done)
       case hs => rfl
       case hx => rfl
       case hm => (simp [UInt8.toNat]; done)
       intro v4 w4 hrg4)
    | (apply step_app1 (B := B) (v := v) (w := w) (l := l) (c := 91) (t := 5) (fr := (0, 0)) (hl := hl2)
       case hgd => rfl
       case ho => rfl
       case h => ((repeat (first | with_reducible assumption | with_reducible apply RG.drew | with_reducible apply RG.alloc)); done)
       case hs => rfl
       case hx => rfl
       case hm => (simp [UInt8.toNat]; done)
       intro v2 w2 hrg2
       have hc0 : w2.cell? ⟨w.heap.size, 0, none⟩ = some (.int .i64 6) := hrg2.cell (g := w.heap.size) (cs := #[.int .i64 6, .string t, .slice A n c1, .slice A' 0 c2]) (t := 26) (fr := (0, 0)) (by simp) 0
       have hc1 : w2.cell? ⟨w.heap.size, 1, none⟩ = some (.string t) := hrg2.cell (g := w.heap.size) (cs := #[.int .i64 6, .string t, .slice A n c1, .slice A' 0 c2]) (t := 26) (fr := (0, 0)) (by simp) 1
       have hc2 : w2.cell? ⟨w.heap.size, 2, none⟩ = some (.slice A n c1) := hrg2.cell (g := w.heap.size) (cs := #[.int .i64 6, .string t, .slice A n c1, .slice A' 0 c2]) (t := 26) (fr := (0, 0)) (by simp) 2
       have hc3 : w2.cell? ⟨w.heap.size, 3, none⟩ = some (.slice A' 0 c2) := hrg2.cell (g := w.heap.size) (cs := #[.int .i64 6, .string t, .slice A n c1, .slice A' 0 c2]) (t := 26) (fr := (0, 0)) (by simp) 3
       have hlt2 : w.heap.size < w2.heap.size := hrg2.2.1)
    | (go_simp
       apply call_mem HM
       case h => ((repeat (first | with_reducible assumption | with_reducible apply RG.drew | with_reducible apply RG.alloc)); done)
       intro v3 w3 hrg3)
    | fail))
  all_goals go_wp2
  all_goals go_ret
  all_goals exact ⟨v4, rfl, hrg4.1.1, hrg4.1.2.1, hrg4.1.2.2.1⟩
set_option maxHeartbeats 2000000 in
set_option maxRecDepth 100000 in
theorem value_zobj (B : Nat) (v : Value) (l : Bs) (ls : List Z) (ks : List ByteArray) (t : ByteArray) (A A' : Option Addr) (c1 c2 : Nat) (c : Nat → Nat → Value) (w : World) (hG : Gl w) (hown : w.ownsRow B 5 1 v l.length (Lib.byteCells l)) (hB : B ≤ w.heap.size) (h4 : 4 ≤ B)
    (hll : l.length + (memC [] true ls ks).length + 1 ≤ 190000000) (hkn : ks.length = ls.length) (hn : ls.length ≤ 2000000) (hks : ∀ s, s ∈ ks → s.size ≤ 1100000)
    (hL : 0 < ls.length → ∃ g off, A = some ⟨g, off, none⟩ ∧ g < B ∧ ∀ i j, i < ls.length → j < 4 → w.cell? ⟨g, off + (4 * i + j), none⟩ = some (c i j))
    (hK : 0 < ks.length → ∃ g off, A' = some ⟨g, off, none⟩ ∧ g < B ∧ ∀ i s, ks[i]? = some s → w.cell? ⟨g, off + i, none⟩ = some (.string s))
    (hE : ∀ i z, ls[i]? = some z → ZIn w (fun b => b < B) z (c i 0) (c i 1) (c i 2) (c i 3)) (hs : ∀ x, x ∈ ls → AvC x) :
    Calls Tryd.prog 46 #[v, .agg #[.int .i64 7, .string t, .slice A ls.length c1, .slice A' ls.length c2]] w (AppPost w B v (l ++ [123] ++ memQ true ls ks ls.length ++ [125])) := by
  have hvlt := hown.lt
  have hmem : ∀ (w1 : World) (v1 : Value), ARel w B w.heap.size v (l ++ [123]) v1 w1 → Calls Tryd.prog 72 #[v1, .agg #[.int .i64 7, .string t, .slice A ls.length c1, .slice A' ls.length c2]] w1 (AppPost w1 B v1 (l ++ [123] ++ memQ true ls ks ls.length)) := fun w1 v1 ha => by
    have hfr := ha.fr (fun g e => (hvlt g e).1)
    exact members_zobj B v1 (l ++ [123]) ls ks t A A' c1 c2 c w1 (hG.kept ha.2.1 (fun k e => by have := (hvlt k e).1; omega)) ha.1 ha.2.2.2.1 h4 (by simp only [List.length_append, List.length_cons, List.length_nil]; omega) hkn hn hks (fun hp => by obtain ⟨g, off, e, hg, hc⟩ := hL hp; exact ⟨g, off, e, hg, fun i j hi hj => hfr.cell (hc i j hi hj) hg⟩) (fun hp => by obtain ⟨g, off, e, hg, hc⟩ := hK hp; exact ⟨g, off, e, hg, fun i s hi => hfr.cell (hc i s hi) hg⟩) (fun i z hz => (hE i z hz).fr hfr (fun _ h => h)) hs
  have hml := memQ_le true ls ks ls.length
  have hl2 : l.length ≤ 200000000 := by omega
  have hl3 : (l ++ [123] ++ memQ true ls ks ls.length).length ≤ 200000000 := by simp only [List.length_append, List.length_cons, List.length_nil]; omega
  generalize memQ true ls ks ls.length = mm at *
  generalize hnn : ls.length = n at *
  have hrg := RG.start hown hB (.cells #[.int .i64 7, .string t, .slice A n c1, .slice A' n c2] 26)
  have HM := Lib.hid hmem
  clear hmem hll hL hE hs hG hown hB hvlt hml hnn hK hks hkn
  go_enter Tryd.func46, Tryd.ntmps46
  go_wp2
  go_region_law ((first
    | (apply step_app1 (B := B) (v := v) (w := w) (l := l ++ [123] ++ mm) (c := 125) (t := 5) (fr := (0, 0)) (hl := hl3)
       case hgd => rfl
       case ho => rfl
       case h => ((repeat (first | with_reducible assumption | with_reducible apply RG.drew | with_reducible apply RG.alloc)); done)
       case hs => rfl
       case hx => rfl
       case hm => (simp [UInt8.toNat]; done)
       intro v4 w4 hrg4)
    | (apply step_app1 (B := B) (v := v) (w := w) (l := l) (c := 123) (t := 5) (fr := (0, 0)) (hl := hl2)
       case hgd => rfl
       case ho => rfl
       case h => ((repeat (first | with_reducible assumption | with_reducible apply RG.drew | with_reducible apply RG.alloc)); done)
       case hs => rfl
       case hx => rfl
       case hm => (simp [UInt8.toNat]; done)
       intro v2 w2 hrg2
       have hc0 : w2.cell? ⟨w.heap.size, 0, none⟩ = some (.int .i64 7) := hrg2.cell (g := w.heap.size) (cs := #[.int .i64 7, .string t, .slice A n c1, .slice A' n c2]) (t := 26) (fr := (0, 0)) (by simp) 0
       have hc1 : w2.cell? ⟨w.heap.size, 1, none⟩ = some (.string t) := hrg2.cell (g := w.heap.size) (cs := #[.int .i64 7, .string t, .slice A n c1, .slice A' n c2]) (t := 26) (fr := (0, 0)) (by simp) 1
       have hc2 : w2.cell? ⟨w.heap.size, 2, none⟩ = some (.slice A n c1) := hrg2.cell (g := w.heap.size) (cs := #[.int .i64 7, .string t, .slice A n c1, .slice A' n c2]) (t := 26) (fr := (0, 0)) (by simp) 2
       have hc3 : w2.cell? ⟨w.heap.size, 3, none⟩ = some (.slice A' n c2) := hrg2.cell (g := w.heap.size) (cs := #[.int .i64 7, .string t, .slice A n c1, .slice A' n c2]) (t := 26) (fr := (0, 0)) (by simp) 3
       have hlt2 : w.heap.size < w2.heap.size := hrg2.2.1)
    | (go_simp
       apply call_mem HM
       case h => ((repeat (first | with_reducible assumption | with_reducible apply RG.drew | with_reducible apply RG.alloc)); done)
       intro v3 w3 hrg3)
    | fail))
  all_goals go_wp2
  all_goals go_ret
  all_goals exact ⟨v4, rfl, hrg4.1.1, hrg4.1.2.1, hrg4.1.2.2.1⟩
/-- 'appendValue' of every right value. -/
theorem avalue_any : ∀ (m : Nat) (z : Z), SizeOf.sizeOf z < m → ∀ d, Rgt d z → zn z ≤ 21000 → zw z ≤ 1048576 → AvC z
  | 0, _, h => by omega
  | m + 1, .mk k t l ks, hsz => fun d hr hzn hzw => by
    intro B v lo W v0 v1 v2 v3 hz hG h4 hown hB hlen
    have hr' := hr
    rw [Rgt] at hr'
    have hzn' := hzn
    rw [zn] at hzn'
    have hzw' := hzw
    rw [zw] at hzw'
    have hznl := znL_len l
    have hel : ∀ x, x ∈ l → ∀ d', Rgt d' x → AvC x := fun x hx d' hrx => by
      refine avalue_any m x ?_ d' hrx (by have := znL_mem hx; omega) (by have := zwL_mem hx; omega)
      have := List.sizeOf_lt_of_mem hx
      simp only [Z.mk.sizeOf_spec] at hsz
      omega
    cases hz with
    | mk _ _ _ _ A A' cap cap' c hk0 ht0 hs0 hcap hcap' hL hK hE =>
      rcases hr' with ⟨hl, rfl, rfl⟩ | ⟨⟨rfl, hd, hk⟩, hc⟩
      · have h6 : k ≠ 6 := by rcases hl with ⟨h | h | h, _⟩ | ⟨h, _⟩ | ⟨h, _⟩ <;> omega
        have h7 : k ≠ 7 := by rcases hl with ⟨h | h | h, _⟩ | ⟨h, _⟩ | ⟨h, _⟩ <;> omega
        rw [core, if_neg h6, if_neg h7] at hlen ⊢
        exact value_leaf B v lo k t hl A A' 0 cap 0 cap' W hG hown hB (by omega) (by omega)
      · rcases hk with ⟨rfl, rfl⟩ | ⟨rfl, hkl, hkv, hkn⟩
        · have hm := memQ_le false l [] l.length
          have hlm : (memC [] false l []).length ≤ (core [] (.mk 6 ⟨#[]⟩ l [])).length := by
            rw [core, if_pos rfl]
            simp only [List.length_cons, List.length_append, List.length_drop, List.length_nil]
            omega
          have := value_zarr B v lo l ⟨#[]⟩ A A' cap cap' c W hG hown hB h4 (by
            rw [core, if_pos rfl] at hlen
            simp only [List.length_cons, List.length_append, List.length_drop, List.length_nil] at hlen
            omega) (by omega) hL hE (fun x hx => hel x hx _ (RgtL_mem hc x hx))
          have he : lo ++ core [] (.mk 6 ⟨#[]⟩ l []) = lo ++ [91] ++ memQ false l [] l.length ++ [93] := by
            rw [core, if_pos rfl]
            unfold memQ
            rw [List.take_of_length_le (Nat.le_refl _)]
            simp
          rw [he]
          exact this
        · have he : lo ++ core [] (.mk 7 ⟨#[]⟩ l ks) = lo ++ [123] ++ memQ true l ks l.length ++ [125] := by
            rw [core, if_neg (by decide), if_pos rfl]
            unfold memQ
            rw [List.take_of_length_le (Nat.le_refl _), List.take_of_length_le (by omega)]
            simp
          have := value_zobj B v lo l ks ⟨#[]⟩ A A' cap cap' c W hG hown hB h4 (by
            rw [core, if_neg (by decide), if_pos rfl] at hlen
            simp only [List.length_cons, List.length_append, List.length_drop, List.length_nil] at hlen
            omega) hkl (by omega) (fun s hs => by have := kw_mem hs; omega) hL hK hE (fun x hx => hel x hx _ (RgtL_mem hc x hx))
          rw [he]
          rw [hkl]
          exact this
set_option maxHeartbeats 1000000 in
set_option maxRecDepth 100000 in
theorem print_any (z : Z) (hz : zn z ≤ 21000) (hzw : zw z ≤ 1048576) (w : World) (hG : Gl w) (v0 v1 v2 v3 : Value) (h : ZIn w (fun b => b < w.heap.size) z v0 v1 v2 v3) :
    Calls Tryd.prog 20 #[.agg #[v0, v1, v2, v3]] w (TextPost w (Rgt 0 z) (core [] z)) := by
  obtain ⟨k, t, A, n1, c1, A', n2, c2, rfl, rfl, rfl, rfl⟩ := zin_agg h
  have hb0 : Below w.heap.size w (w.alloc (.cells #[.int .i64 k, .string t, .slice A n1 c1, .slice A' n2 c2] 26)) := (Below.refl _ _).alloc (Nat.le_refl _) _
  have hB0 := heap_alloc_new w (.cells #[.int .i64 k, .string t, .slice A n1 c1, .slice A' n2 c2] 26 (0, 0))
  have h0 := (h.fr (below_fr hb0) (fun _ h => h)).mono (fun b _ hb => Nat.lt_of_lt_of_le hb hb0.size)
  have hr := right_any z hz hzw _ (hG.below hb0) _ _ _ _ h0
  have hlc := core_long [] (by simp) z
  have h4 := hG.size
  have HPR := Lib.hid (show ∀ W, Below (w.alloc (.cells #[.int .i64 k, .string t, .slice A n1 c1, .slice A' n2 c2] 26)).heap.size (w.alloc (.cells #[.int .i64 k, .string t, .slice A n1 c1, .slice A' n2 c2] 26)) W → Rgt 0 z →
      Calls Tryd.prog 46 #[.slice none 0 0, .agg #[.int .i64 k, .string t, .slice A n1 c1, .slice A' n2 c2]] W (AppPost W W.heap.size (.slice none 0 0) (core [] z)) from fun W hW hR => by
    have := avalue_any (SizeOf.sizeOf z + 1) z (by omega) 0 hR hz hzw W.heap.size (.slice none 0 0) [] W _ _ _ _ ((h0.fr (below_fr hW) (fun _ h => h)).mono (fun b _ hb => Nat.lt_of_lt_of_le hb hW.size)) (hG.below (hb0.trans (hW.mono hb0.size))) (by have := hb0.size; have := hW.size; omega) (World.ownsRow_nil _ _ _ _) (Nat.le_refl _) (by simp only [List.length_nil]; omega)
    rwa [List.nil_append] at this)
  obtain ⟨p0, p1, p2, p3⟩ := cells_4 hB0
  clear h h0 hz hzw hlc
  generalize Rgt 0 z = R at *
  generalize core [] z = X at *
  go_enter Tryd.func20, Tryd.ntmps20
  go_wp2_with fail
  generalize (w.alloc (.cells #[.int .i64 k, .string t, .slice A n1 c1, .slice A' n2 c2] 26)) = W0 at *
  refine hr.mono ?_
  rintro e w1 ⟨b, rfl, hbi, hb1⟩
  have hB1 := (below_fr0 hb1).at hB0 trivial
  obtain ⟨q0, q1, q2, q3⟩ := cells_4 hB1
  have hb2 : Below w.heap.size w w1 := hb0.trans (hb1.mono hb0.size)
  have HBI := Lib.hid hbi
  clear hbi hr hB0 hB1 p0 p1 p2 p3
  cases b with
  | false =>
    have hn : ¬ R := fun h => Bool.noConfusion (HBI.out.2 h)
    go_wp2_with fail
    go_ret
    exact tp_no rfl hb2 hn
  | true =>
    have hR : R := HBI.out.1 rfl
    have hc := HPR.out w1 hb1 hR
    go_wp2_with fail
    refine hc.mono ?_
    rintro e w2 ⟨v2, rfl, hown2, hg2, _⟩
    have hcv := run_string_own hown2
    go_wp2
    go_ret
    exact tp_yes rfl (hb2.trans ((⟨hg2.os, hg2.tape, hg2.output, hg2.size, fun k hk => hg2.block k hk (by simp [Value.ownBlock])⟩ : Below w1.heap.size w1 w2).mono hb2.size)) hR
end Go.Proofs.YtjcnjaebmndeiaaDoor
