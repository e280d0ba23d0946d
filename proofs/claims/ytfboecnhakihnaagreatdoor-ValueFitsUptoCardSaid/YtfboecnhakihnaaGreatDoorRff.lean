/-
  The reference's Count and Depth of every value.
  The reference's 'bare', 'In', and 'all'.
  'few' of any schema: it answers.
-/
import Derived.Test.YtfboecnhakihnaaGreatDoorUcd
import Derived.Test.YtfboecnhakihnaaGreatDoorVbu
namespace Go.Proofs.YtfboecnhakihnaaGreatDoor
open Go.RowKit Go.Shelf

/-- How deep a value is. -/
theorem maxD_app2 (a b : List (Nat × U)) : maxD (a ++ b) = max (maxD a) (maxD b) := maxD_app a b
def RcC (z : U) : Prop := ∀ (w : World) (v0 v1 v2 v3 v4 : Value), UIn w (fun b => b < w.heap.size) z v0 v1 v2 v3 v4 → uc z ≤ 100000 → Calls Tryz.prog 13 #[.agg #[v0, v1, v2, v3, v4]] w fun e w' => e = .returned (.int .i64 (uc z : Nat)) ∧ Below w.heap.size w w'
def hgt (z : U) : Nat := maxD (pu 1 z)
def hgtL (l : List U) : Nat := maxD (puL 1 l)
theorem maxD_c (x : U) (r : List U) (d : Nat) : maxD (puL d (x :: r)) = max (maxD (pu d x)) (maxD (puL d r)) := by rw [puL, maxD_app]
mutual
theorem maxD_sh : ∀ (z : U) (d : Nat), maxD (pu (d + 1) z) = maxD (pu 1 z) + d
  | .mk k n b l ks, d => by
    rw [pu, pu, maxD, maxD]
    have h := maxD_shL l (d + 1)
    have h1 := maxD_shL l 1
    rw [show d + 1 + 1 = (d + 1) + 1 from rfl, show (1 + 1 : Nat) = 1 + 1 from rfl]
    cases l with
    | nil => simp [puL, maxD]; omega
    | cons x r =>
      rw [h (by simp), h1 (by simp)]
      show max (d + 1) _ = max 1 _ + d
      have : 1 ≤ maxD (puL 1 (x :: r)) := by rw [puL, maxD_app]; have := maxD_sh1 x; omega
      omega
theorem maxD_shL : ∀ (l : List U) (d : Nat), l ≠ [] → maxD (puL (d + 1) l) = maxD (puL 1 l) + d
  | [], d, h => absurd rfl h
  | [x], d, _ => by
    rw [maxD_c, maxD_c, maxD_sh x d]
    simp [puL, maxD]
  | x :: y :: r, d, _ => by
    rw [maxD_c x, maxD_c x, maxD_sh x d, maxD_shL (y :: r) d (by simp)]
    omega
theorem maxD_sh1 : ∀ (z : U), 1 ≤ maxD (pu 1 z)
  | .mk k n b l ks => by rw [pu, maxD]; show 1 ≤ max 1 _; omega
end
theorem hgt_mk (k n : Int) (b : List Int) (l : List U) (ks : List ByteArray) : hgt (.mk k n b l ks) = hgtL l + 1 := by
  unfold hgt hgtL
  rw [pu, maxD]
  cases l with
  | nil => simp [puL, maxD]
  | cons x r =>
    rw [maxD_shL (x :: r) 1 (by simp)]
    show max 1 _ = _
    omega
theorem hgtL_take (l : List U) (q : Nat) (x : U) (h : l[q]? = some x) : hgtL (l.take (q + 1)) = max (hgtL (l.take q)) (hgt x) := by
  unfold hgtL hgt
  rw [List.take_add_one, h, puL_app, maxD_app]
  simp [puL]
theorem ucL_take (l : List U) (q : Nat) (x : U) (h : l[q]? = some x) : ucL (l.take (q + 1)) = ucL (l.take q) + uc x := by
  rw [List.take_add_one, h, ucL_app]
  simp [ucL]
theorem ucL_tle (l : List U) (q : Nat) : ucL (l.take q) ≤ ucL l := by
  have := ucL_app (l.take q) (l.drop q)
  rw [List.take_append_drop] at this
  omega
theorem hgt_le (z : U) : hgt z ≤ uc z := by have := maxD_pu z 1; unfold hgt; omega
theorem hgtL_uc : ∀ (l : List U), hgtL l ≤ ucL l
  | [] => by simp [hgtL, puL, maxD]
  | x :: r => by
    have := hgtL_uc r
    have h2 := hgt_le x
    unfold hgtL hgt at *
    rw [puL, maxD_app, ucL]
    omega
def RdC (z : U) : Prop := ∀ (w : World) (v0 v1 v2 v3 v4 : Value), UIn w (fun b => b < w.heap.size) z v0 v1 v2 v3 v4 → uc z ≤ 100000 → Calls Tryz.prog 15 #[.agg #[v0, v1, v2, v3, v4]] w fun e w' => e = .returned (.int .i64 (hgt z : Nat)) ∧ Below w.heap.size w w'
set_option maxHeartbeats 2000000 in
set_option maxRecDepth 100000 in
theorem rcount_step (k n : Int) (b : List Int) (l : List U) (ks : List ByteArray) (hs : ∀ x, x ∈ l → RcC x) : RcC (.mk k n b l ks) := by
  intro w v0 v1 v2 v3 v4 h hc
  have hcl : uc (.mk k n b l ks) = 1 + ucL l := uc_l _
  have hll := ucL_len l
  skip
  cases h with
  | mk _ _ _ _ _ B A A' capb cap cap' c h1 h2 h3 h4 hcapb hcap hcap' hB hL hK hE =>
    have hB0 := heap_alloc_new w (.cells #[.int .i64 k, .int .i64 n, .slice B b.length capb, .slice A l.length cap, .slice A' ks.length cap'] 29 (0, 0))
    have hb0 : Below w.heap.size w (w.alloc (.cells #[.int .i64 k, .int .i64 n, .slice B b.length capb, .slice A l.length cap, .slice A' ks.length cap'] 29)) := (Below.refl _ _).alloc (Nat.le_refl _) _
    have HL := Lib.hid hL
    have HE := Lib.hid hE
    have HS := Lib.hid hs
    have HC := Lib.hid hcl
    clear hL hK hE hs hB h1 h2 h3 h4 hcl
    go_enter Tryz.func13, Tryz.ntmps13
    go_wp2_with fail
    generalize (w.alloc (.cells #[.int .i64 k, .int .i64 n, .slice B b.length capb, .slice A l.length cap, .slice A' ks.length cap'] 29)) = W0 at *
    go_loopg [3, 4] l.length (fun g t i wr => ∃ q : Nat, q + g = l.length ∧ i = .int .i64 q ∧ t = .int .i64 (1 + ucL (l.take q) : Nat) ∧ wr.heap[w.heap.size]? = some (.cells #[.int .i64 k, .int .i64 n, .slice B b.length capb, .slice A l.length cap, .slice A' ks.length cap'] 29 (0, 0)) ∧ Below w.heap.size w wr)
    case atStart => exact ⟨0, by omega, rfl, by simp [ucL], hB0, hb0⟩
    case round =>
      obtain ⟨q, hqg, rfl, rfl, hbw, hbl⟩ := hrel
      obtain ⟨p0, p1, p2, p3, p4⟩ := cells_5 hbw
      by_cases hq : q < l.length
      · obtain ⟨x, hx⟩ : ∃ x, l[q]? = some x := ⟨_, List.getElem?_eq_getElem hq⟩
        obtain ⟨g, off, rfl, hgp, hcc⟩ := HL.out (by omega)
        have hqi : (q : Int) < (l.length : Int) := by omega
        have HFR := Lib.hid (below_fr0 hbl)
        have x0 : wr.cell? ⟨g, off + q * 5, none⟩ = some (c q 0) := by have := HFR.out.cell (hcc q 0 hq (by omega)) trivial; rwa [show off + (5 * q + 0) = off + q * 5 by omega] at this
        have x1 : wr.cell? ⟨g, off + q * 5 + 1, none⟩ = some (c q 1) := by have := HFR.out.cell (hcc q 1 hq (by omega)) trivial; rwa [show off + (5 * q + 1) = off + q * 5 + 1 by omega] at this
        have x2 : wr.cell? ⟨g, off + q * 5 + 2, none⟩ = some (c q 2) := by have := HFR.out.cell (hcc q 2 hq (by omega)) trivial; rwa [show off + (5 * q + 2) = off + q * 5 + 2 by omega] at this
        have x3 : wr.cell? ⟨g, off + q * 5 + 3, none⟩ = some (c q 3) := by have := HFR.out.cell (hcc q 3 hq (by omega)) trivial; rwa [show off + (5 * q + 3) = off + q * 5 + 3 by omega] at this
        have x4 : wr.cell? ⟨g, off + q * 5 + 4, none⟩ = some (c q 4) := by have := HFR.out.cell (hcc q 4 hq (by omega)) trivial; rwa [show off + (5 * q + 4) = off + q * 5 + 4 by omega] at this
        have htk := ucL_take l q x hx
        have hle := ucL_tle l (q + 1)
        skip
        have hcall := HS.out x (List.mem_of_getElem? hx) wr _ _ _ _ _ (((HE.out q x hx).fr (below_fr hbl) (fun _ h => h)).mono (fun b _ hb => Nat.lt_of_lt_of_le hb hbl.size)) (by have := HC.out; omega)
        have HB := Lib.hid hbw
        have HBL := Lib.hid hbl
        have HCL := Lib.hid (show uc x ≤ 100000 by have := HC.out; omega)
        have hux := HCL.out
        have hsum := HC.out
        obtain ⟨g', hg'⟩ : ∃ g', gk = g' + 1 := ⟨gk - 1, by omega⟩
        subst hg'
        clear hcc hx hbw hbl
        generalize c q 0 = a0 at *
        generalize c q 1 = a1 at *
        generalize c q 2 = a2 at *
        generalize c q 3 = a3 at *
        generalize c q 4 = a4 at *
        generalize hmq : ucL (l.take q) = mq at *
        generalize huq : uc x = xq at *
        go_wp2_with fail
        refine hcall.mono ?_
        rintro e w3 ⟨rfl, hb3⟩
        have hb3w : Below w.heap.size w w3 := HBL.out.trans (hb3.mono HBL.out.size)
        have hB3 := (below_fr0 hb3).at HB.out trivial
        clear hcall x0 x1 x2 x3 x4 p0 p1 p2 p3 p4
        go_wp2
        all_goals (
          go_roundg g'
          case measure => omega
          case rel => exact ⟨q + 1, by omega, by go_num, by rw [htk]; congr 2; push_cast; omega, hB3, hb3w⟩)
      · have hqe : l.take q = l := List.take_of_length_le (by omega)
        have HQ := Lib.hid hqe
        clear hqe
        skip
        go_wp2
        go_ret
        exact ⟨by rw [HQ.out]; rw [HC.out]; rfl, hbl⟩
theorem rcount_all : ∀ (n : Nat) (z : U), SizeOf.sizeOf z < n → RcC z
  | 0, _, h => by omega
  | n + 1, .mk k nn b l ks, h => rcount_step k nn b l ks (fun x hx => rcount_all n x (by
      have := List.sizeOf_lt_of_mem hx
      simp only [U.mk.sizeOf_spec] at h
      omega))
set_option maxHeartbeats 2000000 in
set_option maxRecDepth 100000 in
theorem rdepth_step (k n : Int) (b : List Int) (l : List U) (ks : List ByteArray) (hs : ∀ x, x ∈ l → RdC x) : RdC (.mk k n b l ks) := by
  intro w v0 v1 v2 v3 v4 h hc
  have hcl : uc (.mk k n b l ks) = 1 + ucL l := uc_l _
  have hll := ucL_len l
  have hh := hgt_mk k n b l ks
  have HH := Lib.hid hh
  clear hh
  cases h with
  | mk _ _ _ _ _ B A A' capb cap cap' c h1 h2 h3 h4 hcapb hcap hcap' hB hL hK hE =>
    have hB0 := heap_alloc_new w (.cells #[.int .i64 k, .int .i64 n, .slice B b.length capb, .slice A l.length cap, .slice A' ks.length cap'] 29 (0, 0))
    have hb0 : Below w.heap.size w (w.alloc (.cells #[.int .i64 k, .int .i64 n, .slice B b.length capb, .slice A l.length cap, .slice A' ks.length cap'] 29)) := (Below.refl _ _).alloc (Nat.le_refl _) _
    have HL := Lib.hid hL
    have HE := Lib.hid hE
    have HS := Lib.hid hs
    have HC := Lib.hid hcl
    clear hL hK hE hs hB h1 h2 h3 h4 hcl
    go_enter Tryz.func15, Tryz.ntmps15
    go_wp2_with fail
    generalize (w.alloc (.cells #[.int .i64 k, .int .i64 n, .slice B b.length capb, .slice A l.length cap, .slice A' ks.length cap'] 29)) = W0 at *
    go_loopg [3, 4] l.length (fun g t i wr => ∃ q : Nat, q + g = l.length ∧ i = .int .i64 q ∧ t = .int .i64 (hgtL (l.take q) : Nat) ∧ wr.heap[w.heap.size]? = some (.cells #[.int .i64 k, .int .i64 n, .slice B b.length capb, .slice A l.length cap, .slice A' ks.length cap'] 29 (0, 0)) ∧ Below w.heap.size w wr)
    case atStart => exact ⟨0, by omega, rfl, by simp [hgtL, puL, maxD], hB0, hb0⟩
    case round =>
      obtain ⟨q, hqg, rfl, rfl, hbw, hbl⟩ := hrel
      obtain ⟨p0, p1, p2, p3, p4⟩ := cells_5 hbw
      by_cases hq : q < l.length
      · obtain ⟨x, hx⟩ : ∃ x, l[q]? = some x := ⟨_, List.getElem?_eq_getElem hq⟩
        obtain ⟨g, off, rfl, hgp, hcc⟩ := HL.out (by omega)
        have hqi : (q : Int) < (l.length : Int) := by omega
        have HFR := Lib.hid (below_fr0 hbl)
        have x0 : wr.cell? ⟨g, off + q * 5, none⟩ = some (c q 0) := by have := HFR.out.cell (hcc q 0 hq (by omega)) trivial; rwa [show off + (5 * q + 0) = off + q * 5 by omega] at this
        have x1 : wr.cell? ⟨g, off + q * 5 + 1, none⟩ = some (c q 1) := by have := HFR.out.cell (hcc q 1 hq (by omega)) trivial; rwa [show off + (5 * q + 1) = off + q * 5 + 1 by omega] at this
        have x2 : wr.cell? ⟨g, off + q * 5 + 2, none⟩ = some (c q 2) := by have := HFR.out.cell (hcc q 2 hq (by omega)) trivial; rwa [show off + (5 * q + 2) = off + q * 5 + 2 by omega] at this
        have x3 : wr.cell? ⟨g, off + q * 5 + 3, none⟩ = some (c q 3) := by have := HFR.out.cell (hcc q 3 hq (by omega)) trivial; rwa [show off + (5 * q + 3) = off + q * 5 + 3 by omega] at this
        have x4 : wr.cell? ⟨g, off + q * 5 + 4, none⟩ = some (c q 4) := by have := HFR.out.cell (hcc q 4 hq (by omega)) trivial; rwa [show off + (5 * q + 4) = off + q * 5 + 4 by omega] at this
        have htk := ucL_take l q x hx
        have hle := ucL_tle l (q + 1)
        have hdk := hgtL_take l q x hx
        have hdm := hgtL_uc (l.take q)
        have hdx := hgt_le x
        have hcall := HS.out x (List.mem_of_getElem? hx) wr _ _ _ _ _ (((HE.out q x hx).fr (below_fr hbl) (fun _ h => h)).mono (fun b _ hb => Nat.lt_of_lt_of_le hb hbl.size)) (by have := HC.out; omega)
        have HB := Lib.hid hbw
        have HBL := Lib.hid hbl
        have HCL := Lib.hid (show uc x ≤ 100000 by have := HC.out; omega)
        have hux := HCL.out
        have hsum := HC.out
        obtain ⟨g', hg'⟩ : ∃ g', gk = g' + 1 := ⟨gk - 1, by omega⟩
        subst hg'
        clear hcc hx hbw hbl
        generalize c q 0 = a0 at *
        generalize c q 1 = a1 at *
        generalize c q 2 = a2 at *
        generalize c q 3 = a3 at *
        generalize c q 4 = a4 at *
        have hsq := ucL_tle l q
        generalize hgtL (l.take q) = mq at *
        generalize hgt x = xq at *
        go_wp2_with fail
        refine hcall.mono ?_
        rintro e w3 ⟨rfl, hb3⟩
        have hb3w : Below w.heap.size w w3 := HBL.out.trans (hb3.mono HBL.out.size)
        have hB3 := (below_fr0 hb3).at HB.out trivial
        clear hcall x0 x1 x2 x3 x4 p0 p1 p2 p3 p4
        go_wp2
        all_goals (
          go_roundg g'
          case measure => omega
          case rel => exact ⟨q + 1, by omega, by go_num, by rw [hdk]; congr 2; omega, hB3, hb3w⟩)
      · have hqe : l.take q = l := List.take_of_length_le (by omega)
        have HQ := Lib.hid hqe
        clear hqe
        have hdm := hgtL_uc (l.take q)
        have hsq := ucL_tle l q
        have hsum := HC.out
        go_wp2
        go_ret
        exact ⟨by rw [HQ.out]; rw [HH.out]; rfl, hbl⟩
theorem rdepth_all : ∀ (n : Nat) (z : U), SizeOf.sizeOf z < n → RdC z
  | 0, _, h => by omega
  | n + 1, .mk k nn b l ks, h => rdepth_step k nn b l ks (fun x hx => rdepth_all n x (by
      have := List.sizeOf_lt_of_mem hx
      simp only [U.mk.sizeOf_spec] at h
      omega))
end Go.Proofs.YtfboecnhakihnaaGreatDoor

namespace Go.Proofs.YtfboecnhakihnaaGreatDoor
open Go.RowKit Go.Shelf

def rbareV (pn pb pl pk : Bool) (n : Int) (nb nl nk : Nat) : Bool := (pn || n == 0) && (pb || (nb : Int) == 0) && (pl || (nl : Int) == 0) && (pk || (nk : Int) == 0)
theorem rbare_eq (k n : Int) (nb nl nk : Nat) : bareV k n nb nl nk = rbareV (kNum k) (kOct k) (kLst k) (kKey k) n nb nl nk := rfl
set_option maxRecDepth 100000 in
set_option maxHeartbeats 4000000 in
theorem rbare_any (pn pb pl pk : Bool) (k n : Int) (B A A' : Option Addr) (nb cb nl cl nk ck : Nat) (w : World) :
    Calls Tryz.prog 31 #[.agg #[.int .i64 k, .int .i64 n, .slice B nb cb, .slice A nl cl, .slice A' nk ck], .bool pn, .bool pb, .bool pl, .bool pk] w fun e w' => e = .returned (.bool (rbareV pn pb pl pk n nb nl nk)) ∧ Below w.heap.size w w' := by
  cases pn <;> cases pb <;> cases pl <;> cases pk <;>
  ( go_enter Tryz.func31, Tryz.ntmps31
    go_wp2
    all_goals (go_ret; exact ⟨by simp [rbareV, *], (Below.refl _ _).alloc (Nat.le_refl _) _⟩))
def inB (x : ByteArray) (l : List ByteArray) : Bool := l.any (fun y => bsL y == bsL x)
theorem inB_true {x : ByteArray} {l : List ByteArray} (h : x ∈ l) : inB x l = true := by
  unfold inB; rw [List.any_eq_true]; exact ⟨x, h, by simp⟩
theorem inB_false {x : ByteArray} {l : List ByteArray} (h : ¬ x ∈ l) : inB x l = false := by
  unfold inB; rw [List.any_eq_false]
  intro y hy e
  exact h (bsL_inj (by simpa using e) ▸ hy)
theorem strs_mono {w : World} {ok ok' : Nat → Prop} (hk : ∀ b, ok b → ok' b) {ss : List ByteArray} {v : Value} (h : StrsAt w ok ss v) : StrsAt w ok' ss v := by
  obtain ⟨A, cap, h1, h2, h3, h4, h5⟩ := h
  exact ⟨A, cap, h1, h2, h3, h4, fun hp => by obtain ⟨g, off, e, hg, hc⟩ := h5 hp; exact ⟨g, off, e, hk g hg, hc⟩⟩
theorem ints_mono {w : World} {ok ok' : Nat → Prop} (hk : ∀ b, ok b → ok' b) {xs : List Int} {v : Value} (h : IntsAt w ok xs v) : IntsAt w ok' xs v := by
  obtain ⟨A, cap, h1, h2, h3, h4, h5⟩ := h
  exact ⟨A, cap, h1, h2, h3, h4, fun hp => by obtain ⟨g, off, e, hg, hc⟩ := h5 hp; exact ⟨g, off, e, hk g hg, hc⟩⟩
theorem rows_mono {α : Type} {k : Nat} {one one' : α → (Nat → Value) → Prop} {w : World} {ok ok' : Nat → Prop} (hk : ∀ b, ok b → ok' b) (ho : ∀ x c, one x c → one' x c) {xs : List α} {v : Value} (h : RowsAt k one w ok xs v) : RowsAt k one' w ok' xs v := by
  obtain ⟨A, cap, c, h1, h2, h3, h4, h5⟩ := h
  exact ⟨A, cap, c, h1, h2, h3, fun hp => by obtain ⟨g, off, e, hg, hc⟩ := h4 hp; exact ⟨g, off, e, hk g hg, hc⟩, fun i x hx => ho x _ (h5 i x hx)⟩
theorem nds_mono {w : World} {ok ok' : Nat → Prop} {ns : List Nd} {v : Value} (h : NdsAt w ok ns v) (hk : ∀ b, ok b → ok' b) : NdsAt w ok' ns v :=
  rows_mono hk (fun _ _ hx => ⟨hx.kind, hx.name, strs_mono hk hx.al, rows_mono hk (fun _ _ hf => ⟨hf.name, strs_mono hk hf.al, hf.ty, hf.has, hf.dflt, hf.tyw, hf.namel, hf.dfltl⟩) hx.fs, strs_mono hk hx.sy, hx.has, hx.dflt, hx.items, ints_mono hk hx.br, hx.size, hx.kindw, hx.itemsw, hx.sizew, hx.namel, hx.dfltl⟩) h
theorem ukL_memle : ∀ {l : List U} {x : U}, x ∈ l → uk x ≤ ukL l
  | z :: r, x, h => by
    rw [ukL]
    rcases List.mem_cons.1 h with rfl | h
    · omega
    · have := ukL_memle h; omega
set_option maxHeartbeats 1000000 in
theorem in_any (x : ByteArray) (ks : List ByteArray) (A : Option Addr) (m c : Nat) (w : World) (hm : m ≤ ks.length) (hl : m ≤ 1000000)
    (hK : 0 < ks.length → ∃ g off, A = some ⟨g, off, none⟩ ∧ ∀ i s, ks[i]? = some s → w.cell? ⟨g, off + i, none⟩ = some (.string s)) :
    Calls Tryz.prog 35 #[.slice A m c, .string x] w fun e w' => e = .returned (.bool (inB x (ks.take m))) ∧ w' = w := by
  have HK := Lib.hid hK
  clear hK
  go_enter Tryz.func35, Tryz.ntmps35
  go_wp2
  go_loopg [5] m (fun g i wr => ∃ q : Nat, q + g = m ∧ i = .int .i64 q ∧ ¬ x ∈ ks.take q ∧ wr = w)
  case atStart => exact ⟨0, by omega, rfl, by simp, rfl⟩
  case round =>
    obtain ⟨q, hq, rfl, hn, rfl⟩ := hrel
    have HN := Lib.hid hn
    clear hn
    by_cases hlt : q < m
    · obtain ⟨g, off, rfl, hc⟩ := HK.out (by omega)
      obtain ⟨s, hs⟩ : ∃ s, ks[q]? = some s := ⟨_, List.getElem?_eq_getElem (by omega)⟩
      have hcell := hc q s hs
      have HS := Lib.hid hs
      have hqi : (q : Int) < (m : Int) := by omega
      clear hc hs
      by_cases he : s = x
      · subst he
        have HM : Hid (inB s (ks.take m) = true) := Lib.hid (inB_true (List.mem_take_iff_getElem.2 ⟨q, by omega, (List.getElem?_eq_some_iff.1 HS.out).2⟩))
        go_wp2
        go_ret
        exact ⟨by rw [HM.out]; rfl, rfl⟩
      · have he2 : (s.toList == x.toList) = false := by
          rw [ByteArray.toList_eq, ByteArray.toList_eq]
          exact beq_eq_false_iff_ne.2 (fun e => he (bsL_inj e))
        go_wp2
        go_roundg (m - (q + 1))
        case measure => omega
        case rel =>
          refine ⟨q + 1, by omega, by go_num, fun hmem => ?_, rfl⟩
          rw [List.take_add_one, HS.out] at hmem
          rcases List.mem_append.1 hmem with h | h
          · exact HN.out h
          · simp at h; exact he h.symm
    · have hqm : q = m := by omega
      have HM : Hid (inB x (ks.take m) = false) := Lib.hid (inB_false (hqm ▸ HN.out))
      go_wp2
      go_ret
      exact ⟨by rw [HM.out]; rfl, rfl⟩
/-- The reference's 'Fits' of a value. -/
def RfC (z : U) : Prop := ∀ (S : List Nd) (vs : Value) (a : Int) (w : World) (v0 v1 v2 v3 v4 : Value), NdsAt w (fun b => b < w.heap.size) S vs → UIn w (fun b => b < w.heap.size) z v0 v1 v2 v3 v4 → Lib.Utf8Tabs 0 1 w → uc z ≤ 100000 → uk z ≤ 1000000 →
  Calls Tryz.prog 11 #[.agg #[vs], .int .i64 a, .agg #[v0, v1, v2, v3, v4]] w fun e w' => e = .returned (.bool (fitsU aM1 S a z)) ∧ Below w.heap.size w w'
theorem fr_belowT {w w' : World} (h : Fr w w' (fun _ => True)) : Below w.heap.size w w' := ⟨h.os, h.tape, h.output, h.size, fun k hk => h.block k hk trivial⟩
set_option maxRecDepth 100000 in
set_option maxHeartbeats 4000000 in
theorem rall_any (l : List U) (hs : ∀ x, x ∈ l → RfC x) (S : List Nd) (vs : Value) (a : Int) (A : Option Addr) (cap : Nat) (c : Nat → Nat → Value) (w : World) (hN : NdsAt w (fun b => b < w.heap.size) S vs) (hT : Lib.Utf8Tabs 0 1 w) (hc : ucL l ≤ 100000) (hk : ukL l ≤ 1000000)
    (hL : 0 < l.length → ∃ g off, A = some ⟨g, off, none⟩ ∧ ∀ i j, i < l.length → j < 5 → w.cell? ⟨g, off + (5 * i + j), none⟩ = some (c i j))
    (hE : ∀ i x, l[i]? = some x → UIn w (fun b => b < w.heap.size) x (c i 0) (c i 1) (c i 2) (c i 3) (c i 4)) :
    Calls Tryz.prog 33 #[.agg #[vs], .int .i64 a, .slice A l.length cap] w fun e w' => e = .returned (.bool (l.all (fitsU aM1 S a))) ∧ Below w.heap.size w w' := by
  have hlen : l.length ≤ 100000 := Nat.le_trans (ucL_len l) hc
  have HL := Lib.hid hL
  have HE := Lib.hid hE
  have HS := Lib.hid hs
  have HN := Lib.hid hN
  have HT := Lib.hid hT
  have HC := Lib.hid hc
  have HK := Lib.hid hk
  have hb0 : Below w.heap.size w (w.alloc (.cells #[vs] 24)) := (Below.refl _ _).alloc (Nat.le_refl _) _
  have hbx0 : (w.alloc (.cells #[vs] 24)).heap[w.heap.size]? = some (.cells #[vs] 24 (0, 0)) := new_at rfl _
  clear hL hE hs hN hT hc hk
  go_enter Tryz.func33, Tryz.ntmps33
  go_wp2
  generalize w.alloc (.cells #[vs] 24) = W0 at *
  go_loopg [7] l.length (fun g i wr => ∃ q : Nat, q + g = l.length ∧ i = .int .i64 q ∧ (∀ x, x ∈ l.take q → fitsU aM1 S a x = true) ∧ wr.heap[w.heap.size]? = some (.cells #[vs] 24 (0, 0)) ∧ Below w.heap.size w wr)
  case atStart => exact ⟨0, by omega, rfl, by simp, hbx0, hb0⟩
  case round =>
    obtain ⟨q, hq, rfl, hall, hbx, hb⟩ := hrel
    have HA := Lib.hid hall
    clear hall
    by_cases hlt : q < l.length
    · obtain ⟨x, hx⟩ : ∃ x, l[q]? = some x := ⟨_, List.getElem?_eq_getElem hlt⟩
      obtain ⟨g, off, rfl, hcc⟩ := HL.out (by omega)
      have hqi : (q : Int) < (l.length : Int) := by omega
      have HF := Lib.hid (below_fr0 hb)
      have y0p := fun p : Aft wr => p.fr.cell (cell_of_row _ _ 0 _ _ _ hbx) trivial
      have x0p := fun p : Aft wr => p.fr.cell (show wr.cell? ⟨g, off + q * 5, none⟩ = some (c q 0) by have := HF.out.cell (hcc q 0 hlt (by omega)) trivial; rwa [show off + (5 * q + 0) = off + q * 5 by omega] at this) trivial
      have x1p := fun p : Aft wr => p.fr.cell (show wr.cell? ⟨g, off + q * 5 + 1, none⟩ = some (c q 1) by have := HF.out.cell (hcc q 1 hlt (by omega)) trivial; rwa [show off + (5 * q + 1) = off + q * 5 + 1 by omega] at this) trivial
      have x2p := fun p : Aft wr => p.fr.cell (show wr.cell? ⟨g, off + q * 5 + 2, none⟩ = some (c q 2) by have := HF.out.cell (hcc q 2 hlt (by omega)) trivial; rwa [show off + (5 * q + 2) = off + q * 5 + 2 by omega] at this) trivial
      have x3p := fun p : Aft wr => p.fr.cell (show wr.cell? ⟨g, off + q * 5 + 3, none⟩ = some (c q 3) by have := HF.out.cell (hcc q 3 hlt (by omega)) trivial; rwa [show off + (5 * q + 3) = off + q * 5 + 3 by omega] at this) trivial
      have x4p := fun p : Aft wr => p.fr.cell (show wr.cell? ⟨g, off + q * 5 + 4, none⟩ = some (c q 4) by have := HF.out.cell (hcc q 4 hlt (by omega)) trivial; rwa [show off + (5 * q + 4) = off + q * 5 + 4 by omega] at this) trivial
      have hmem := List.mem_of_getElem? hx
      have huc : uc x ≤ 100000 := by have h1 := ucL_take l q x hx; have h2 := ucL_tle l (q + 1); have := HC.out; omega
      have huk : uk x ≤ 1000000 := by have h1 := ukL_memle hmem; have := HK.out; omega
      have HCALL := Lib.hid (show ∀ p : Aft wr, Calls Tryz.prog 11 #[.agg #[vs], .int .i64 a, .agg #[c q 0, c q 1, c q 2, c q 3, c q 4]] p.w fun e w' => e = .returned (.bool (fitsU aM1 S a x)) ∧ ∃ q : Aft wr, w' = q.w from fun p => by
        have hf := HF.out.trans p.fr
        exact aft_call ((HS.out x hmem S vs a p.w _ _ _ _ _ (nds_mono (nds_fr hf (fun _ _ => trivial) HN.out) (fun b hb => Nat.lt_of_lt_of_le hb hf.size)) (((HE.out q x hx).fr hf (fun _ _ => trivial)).mono (fun b _ hb => Nat.lt_of_lt_of_le hb hf.size)) (Utf8Tabs_below HT.out (fr_belowT hf)) huc huk).mono fun _ _ ⟨h1, h2⟩ => ⟨h1, below_fr0 h2⟩))
      have HX := Lib.hid hx
      have HBX := Lib.hid hbx
      have HB := Lib.hid hb
      clear hcc hx hbx hb
      generalize c q 0 = a0 at *
      generalize c q 1 = a1 at *
      generalize c q 2 = a2 at *
      generalize c q 3 = a3 at *
      generalize c q 4 = a4 at *
      go_upto_region 4 with fail
      refine reg_aft (by kernel_rfl) (by kernel_rfl) ?_
      repeat (go_big_quiet_step ((go_at_call 11; exact HCALL.out _)))
      refine wpQuiet_nil ?_
      rintro ⟨W5, hf5⟩
      show Exit.then _ _ Exit.normal _ W5
      have hb5 : Below w.heap.size w W5 := HB.out.trans ((fr_belowT hf5).mono HB.out.size)
      have hbx5 := hf5.at HBX.out trivial
      have HB5 := Lib.hid hb5
      have HBX5 := Lib.hid hbx5
      clear hb5 hbx5 y0p x0p x1p x2p x3p x4p HCALL hf5
      cases hM : fitsU aM1 S a x with
      | false =>
        have HALL : Hid (l.all (fitsU aM1 S a) = false) := Lib.hid (by rw [List.all_eq_false]; exact ⟨x, hmem, by rw [hM]; simp⟩)
        clear hM hmem
        go_wp2
        go_ret
        exact ⟨by rw [HALL.out]; rfl, HB5.out⟩
      | true =>
        have HM := Lib.hid hM
        clear hM hmem
        go_wp2
        go_roundg (l.length - (q + 1))
        case measure => omega
        case rel =>
          refine ⟨q + 1, by omega, by go_num, fun y hy => ?_, HBX5.out, HB5.out⟩
          rw [List.take_add_one, HX.out] at hy
          rcases List.mem_append.1 hy with h | h
          · exact HA.out y h
          · simp at h; rw [h]; exact HM.out
    · have hql : l.take q = l := List.take_of_length_le (by omega)
      have HALL : Hid (l.all (fitsU aM1 S a) = true) := Lib.hid (by rw [List.all_eq_true]; intro y hy; exact HA.out y (by rw [hql]; exact hy))
      have HB := Lib.hid hb
      clear hql hb hbx
      go_wp2
      go_ret
      exact ⟨by rw [HALL.out]; rfl, HB.out⟩
end Go.Proofs.YtfboecnhakihnaaGreatDoor

namespace Go.Proofs.YtfboecnhakihnaaGreatDoor
open Go.RowKit Go.Shelf

set_option maxRecDepth 100000 in
set_option maxHeartbeats 8000000 in
theorem few_any (S : List Nd) (vs : Value) (w : World) (hN : NdsAt w (fun b => b < w.heap.size) S vs) :
    Calls Tryz.prog 7 #[.agg #[vs]] w fun e w' => (∃ b : Bool, e = .returned (.bool b)) ∧ Below w.heap.size w w' := by
  obtain ⟨As, caps, cs, rfl, hScap, hcapm, hS4, hS5⟩ := id hN
  have hSm : S.length ≤ 9223372036854775807 := Nat.le_trans (Nat.le_trans hScap hcapm) (by unfold maxLen; omega)
  have hb0 : Below w.heap.size w (w.alloc (.cells #[.slice As S.length caps] 24)) := (Below.refl _ _).alloc (Nat.le_refl _) _
  have hbx0 : (w.alloc (.cells #[.slice As S.length caps] 24)).heap[w.heap.size]? = some (.cells #[.slice As S.length caps] 24 (0, 0)) := new_at rfl _
  have HS4 := Lib.hid hS4
  have HS5 := Lib.hid hS5
  clear hN hS4 hS5 hScap hcapm
  go_enter Tryz.func7, Tryz.ntmps7
  go_upto_region 1 with fail
  generalize w.alloc (.cells #[.slice As S.length caps] 24) = W0 at *
  go_wp2
  go_loopg [3, 4] S.length (fun g t i wr => ∃ (n : Int) (q : Nat), t = .int .i64 n ∧ q + g = S.length ∧ i = .int .i64 q ∧ wr.heap[w.heap.size]? = some (.cells #[.slice As S.length caps] 24 (0, 0)) ∧ Below w.heap.size w wr)
  case atStart => exact ⟨0, 0, rfl, by omega, rfl, hbx0, hb0⟩
  case round =>
    obtain ⟨n, q, rfl, hq, rfl, hbx, hb⟩ := hrel
    have s0 : wr.cell? ⟨w.heap.size, 0, none⟩ = some (.slice As S.length caps) := cell_of_row _ _ 0 _ _ _ hbx
    have HB := Lib.hid hb
    have HBX := Lib.hid hbx
    clear hb hbx hb0 hbx0
    by_cases hlt : q < S.length
    · have hd1 : decide ((q : Int) < (S.length : Int)) = true := decide_eq_true (by omega)
      by_cases h100 : q < 100
      · have hd2 : decide ((q : Int) < (100 : Int)) = true := decide_eq_true (by omega)
        have hqi : (q : Int) < (S.length : Int) := by omega
        obtain ⟨nd, hnd⟩ : ∃ nd, S[q]? = some nd := ⟨_, List.getElem?_eq_getElem hlt⟩
        obtain ⟨gS, oS, rfl, _, hcS⟩ := HS4.out (by omega)
        have hin := HS5.out q nd hnd
        have HF := Lib.hid (below_fr0 HB.out)
        have zc : ∀ j, j < 10 → wr.cell? ⟨gS, oS + q * 10 + j, none⟩ = some (cs q j) := fun j hj => by
          have := HF.out.cell (hcS q j hlt hj) trivial
          rwa [show oS + (10 * q + j) = oS + q * 10 + j by omega] at this
        obtain ⟨Af, capf, cf, q3, hfl, hfm, hfc, hfe⟩ := hin.fs
        obtain ⟨Ay, capy, q4, _⟩ := hin.sy
        obtain ⟨Ar, capr, q8, _⟩ := hin.br
        obtain ⟨Al, capl, q2, _⟩ := hin.al
        have z0 := zc 0 (by omega)
        rw [Nat.add_zero, hin.kind] at z0
        have z1 := zc 1 (by omega); rw [hin.name] at z1
        have z2 := zc 2 (by omega); rw [q2] at z2
        have z3 := zc 3 (by omega); rw [q3] at z3
        have z4 := zc 4 (by omega); rw [q4] at z4
        have z5 := zc 5 (by omega); rw [hin.has] at z5
        have z6 := zc 6 (by omega); rw [hin.dflt] at z6
        have z7 := zc 7 (by omega); rw [hin.items] at z7
        have z8 := zc 8 (by omega); rw [q8] at z8
        have z9 := zc 9 (by omega); rw [hin.size] at z9
        have hfm2 : nd.fs.length ≤ 9223372036854775807 := Nat.le_trans (Nat.le_trans hfl hfm) (by unfold maxLen; omega)
        have HFC := Lib.hid hfc
        have HFE := Lib.hid hfe
        clear hcS hin zc q2 q3 q4 q8 hfc hfe hfl hfm hnd
        generalize nd.kind = kd at *
        go_upto_region 6 with fail
        clear z0 z1 z2 z3 z4 z5 z6 z7 z8 z9 s0
        obtain ⟨N, hNN⟩ : ∃ N, wr.heap.size = N := ⟨_, rfl⟩
        rw [hNN]
        obtain ⟨W6, hW6⟩ : ∃ W6, wr.alloc (.cells #[.int .i64 kd, .string nd.name, .slice Al nd.al.length capl, .slice Af nd.fs.length capf, .slice Ay nd.sy.length capy, .bool nd.has, .string nd.dflt, .int .i64 nd.items, .slice Ar nd.br.length capr, .int .i64 nd.size] 61) = W6 := ⟨_, rfl⟩
        rw [hW6]
        have hb6 : Below w.heap.size w W6 := by rw [← hW6]; exact HB.out.alloc HB.out.size _
        have ha6 : W6.heap[w.heap.size]? = some (.cells #[.slice (some ⟨gS, oS, none⟩) S.length caps] 24 (0, 0)) := by rw [← hW6]; exact old_at _ HBX.out
        have hn6 : W6.heap[N]? = some (.cells #[.int .i64 kd, .string nd.name, .slice Al nd.al.length capl, .slice Af nd.fs.length capf, .slice Ay nd.sy.length capy, .bool nd.has, .string nd.dflt, .int .i64 nd.items, .slice Ar nd.br.length capr, .int .i64 nd.size] 61 (0, 0)) := by rw [← hW6]; exact new_at hNN _
        have n3 : W6.cell? ⟨N, 3, none⟩ = some (.slice Af nd.fs.length capf) := cell_of_row _ _ 3 _ _ _ hn6
        have n4 : W6.cell? ⟨N, 4, none⟩ = some (.slice Ay nd.sy.length capy) := cell_of_row _ _ 4 _ _ _ hn6
        have n8 : W6.cell? ⟨N, 8, none⟩ = some (.slice Ar nd.br.length capr) := cell_of_row _ _ 8 _ _ _ hn6
        have n9 : W6.cell? ⟨N, 9, none⟩ = some (.int .i64 nd.size) := cell_of_row _ _ 9 _ _ _ hn6
        have HB6 := Lib.hid hb6
        have HA6 := Lib.hid ha6
        clear hb6 ha6 hn6 hW6 hNN HF HB HBX
        go_wp2
        go_loopg [3, 6] nd.fs.length (fun g t i wx => ∃ (n : Int) (k : Nat), t = .int .i64 n ∧ k + g = nd.fs.length ∧ i = .int .i64 k ∧ wx = W6)
        case atStart => exact ⟨_, 0, rfl, by omega, rfl, rfl⟩
        case round =>
          obtain ⟨n2, k, rfl, hk, rfl, rfl⟩ := hrel
          by_cases hkl : k < nd.fs.length
          · have hd3 : decide ((k : Int) < (nd.fs.length : Int)) = true := decide_eq_true (by omega)
            by_cases hk100 : k < 100
            · have hd4 : decide ((k : Int) < (100 : Int)) = true := decide_eq_true (by omega)
              have hki : (k : Int) < (nd.fs.length : Int) := by omega
              obtain ⟨f, hf⟩ : ∃ f, nd.fs[k]? = some f := ⟨_, List.getElem?_eq_getElem hkl⟩
              obtain ⟨gf, of, rfl, _, hcf⟩ := HFC.out (by omega)
              have hdf := (HFE.out k f hf).dflt
              have f4 : wr.cell? ⟨gf, of + k * 5 + 4, none⟩ = some (.string f.dflt) := by
                have := (below_fr0 HB6.out).cell (hcf k 4 hkl (by omega)) trivial
                rw [hdf] at this
                rwa [show of + (5 * k + 4) = of + k * 5 + 4 by omega] at this
              clear hcf hf hdf
              go_wp2
              go_roundg (nd.fs.length - (k + 1))
              case measure => omega
              case rel => exact ⟨_, k + 1, rfl, by omega, by go_num, rfl⟩
            · have hd4 : decide ((k : Int) < (100 : Int)) = false := decide_eq_false (by omega)
              by_cases hsz : 1000 < nd.size
              · have hs2 : decide ((1000 : Int) < nd.size) = true := decide_eq_true hsz
                go_wp2
                go_ret
                exact ⟨⟨_, rfl⟩, HB6.out⟩
              · have hs2 : decide ((1000 : Int) < nd.size) = false := decide_eq_false hsz
                go_wp2
                go_roundg (S.length - (q + 1))
                case measure => omega
                case rel => exact ⟨_, q + 1, rfl, by omega, by go_num, HA6.out, HB6.out⟩
          · have hd3 : decide ((k : Int) < (nd.fs.length : Int)) = false := decide_eq_false (by omega)
            by_cases hsz : 1000 < nd.size
            · have hs2 : decide ((1000 : Int) < nd.size) = true := decide_eq_true hsz
              go_wp2
              go_ret
              exact ⟨⟨_, rfl⟩, HB6.out⟩
            · have hs2 : decide ((1000 : Int) < nd.size) = false := decide_eq_false hsz
              go_wp2
              go_roundg (S.length - (q + 1))
              case measure => omega
              case rel => exact ⟨_, q + 1, rfl, by omega, by go_num, HA6.out, HB6.out⟩
      · have hd2 : decide ((q : Int) < (100 : Int)) = false := decide_eq_false (by omega)
        go_wp2
        go_ret
        exact ⟨⟨_, rfl⟩, HB.out⟩
    · have hd1 : decide ((q : Int) < (S.length : Int)) = false := decide_eq_false (by omega)
      go_wp2
      go_ret
      exact ⟨⟨_, rfl⟩, HB.out⟩
end Go.Proofs.YtfboecnhakihnaaGreatDoor
