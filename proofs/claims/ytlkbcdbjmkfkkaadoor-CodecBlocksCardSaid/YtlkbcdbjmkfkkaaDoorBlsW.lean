/-
  CodecBlocks holds for every list of longs, cuts, marks and number: in whatever blocks the longs come, Decode tells them, or refuses a block whose bytes are told wrong. No condition but what the card itself ties.
-/
import Derived.Test.YtlkbcdbjmkfkkaaDoorBlsM
import Derived.Test.YtlkbcdbjmkfkkaaDoorBlsF
import Derived.Test.YtlkbcdbjmkfkkaaDoorUsm
import Derived.Deep.CutRange
import Derived.Deep.DeepCutAuto
namespace Go.Proofs.YtlkbcdbjmkfkkaaDoor
open Go.RowKit

theorem umodB (a : Int) (m : Nat) (h0 : 0 < m) : ∃ k : Nat, k < m ∧ (IntKind.u64.wrap a).tmod m = k := by
  have h1 : 0 ≤ IntKind.u64.wrap a := by rw [wrap_u64]; omega
  rw [Int.tmod_eq_emod_of_nonneg h1]
  refine ⟨(IntKind.u64.wrap a % m).toNat, ?_, ?_⟩
  · have := Int.emod_lt_of_pos (IntKind.u64.wrap a) (show (0 : Int) < m by omega)
    have := Int.emod_nonneg (IntKind.u64.wrap a) (show (m : Int) ≠ 0 by omega)
    omega
  · have := Int.emod_nonneg (IntKind.u64.wrap a) (show (m : Int) ≠ 0 by omega)
    omega
theorem blk_wrap (q : Nat) (h : q < 1000) : wrap64 (1 + wrap64 (q : Int)) = ((q + 1 : Nat) : Int) := by
  unfold wrap64; omega
theorem items_next {X : List Int} {i p : Nat} {x : Int} (hip : i ≤ p) (hx : X[p]? = some x) : itemsL ((X.drop i).take (p + 1 - i)) = itemsL ((X.drop i).take (p - i)) ++ numL (zigN x) := by
  have h1 : (X.drop i)[p - i]? = some x := by rw [List.getElem?_drop, show i + (p - i) = p by omega, hx]
  have h2 : p - i < (X.drop i).length := by
    rcases Nat.lt_or_ge (p - i) (X.drop i).length with h | h
    · exact h
    · rw [List.getElem?_eq_none h] at h1; cases h1
  rw [show p + 1 - i = p - i + 1 by omega, List.take_succ_eq_append_getElem h2, itemsL_app]
  rw [List.getElem?_eq_getElem h2] at h1
  cases h1
  simp [itemsL]
theorem ne_own {vK vB : Value} {N0 M : Nat} (h1 : ∀ g, vB.ownBlock = some g → g < N0 ∨ M ≤ g) (h2 : ∀ g, vK.ownBlock = some g → N0 ≤ g ∧ g < M) : vK.ownBlock = none ∨ vK.ownBlock ≠ vB.ownBlock := by
  cases h : vK.ownBlock with
  | none => exact .inl rfl
  | some g =>
    refine .inr fun e => ?_
    have := h1 g e.symm
    have := h2 g h
    omega
theorem longs_len (X : List Int) : (U.mk 11 0 [] (X.map longU) []).l.length = X.length := by simp [U.l]
theorem uin_len2 {w : World} {ok : Nat → Prop} {z : U} {v0 v1 v2 v4 : Value} {A : Option Addr} {n c : Nat} (h : UIn w ok z v0 v1 v2 (.slice A n c) v4) : n = z.l.length := by cases h; rfl
theorem longs_cells {w : World} {ok : Nat → Prop} {X : List Int} {v0 v1 v2 v4 : Value} {A : Option Addr} {n c : Nat} (h : UIn w ok (.mk 11 0 [] (X.map longU) []) v0 v1 v2 (.slice A n c) v4) :
    0 < X.length → ∃ g off, A = some ⟨g, off, none⟩ ∧ ∀ i x, X[i]? = some x → w.cell? ⟨g, off + (5 * i + 1), none⟩ = some (.int .i64 x) := by
  intro h0
  cases h with
  | mk _ _ _ _ _ B A A' capb cap cap' cc hk0 hn0 hby0 hs0 hcapb hcap hcap' hB hL hK hE =>
    obtain ⟨g, off, e, _, hc⟩ := hL (by simpa using h0)
    refine ⟨g, off, e, fun i x hx => ?_⟩
    have hi : i < X.length := by
      rcases Nat.lt_or_ge i X.length with h | h
      · exact h
      · rw [List.getElem?_eq_none h] at hx; cases hx
    have h1 := hc i 1 (by simpa using hi) (by omega)
    have h2 := hE i (longU x) (by rw [List.getElem?_map, hx]; rfl)
    rw [h1]
    generalize cc i 0 = a0 at h2
    generalize cc i 1 = a1 at h2 ⊢
    generalize cc i 2 = a2 at h2
    generalize cc i 3 = a3 at h2
    generalize cc i 4 = a4 at h2
    cases h2
    rfl
/-- What holds ahead of each block. -/
def BlsI (W : World) (X : List Int) (o : Nat) (i k : Nat) (b sp : Value) (wr : World) : Prop :=
  ∃ bs : List (List Int × Bool), GoodB bs ∧ allL bs = X.take i ∧ bs.length = k ∧ sp = .bool (o == 1 && bs.any (·.2)) ∧ wr.ownsRow W.heap.size 5 1 b (encL o bs).length (cellsB (encL o bs)) ∧ Below W.heap.size W wr

set_option maxHeartbeats 4000000 in
set_option maxRecDepth 100000 in
theorem blocks_walk (A0 : Option Addr) (n0 c0 : Nat) (X : List Int) (A1 : Option Addr) (n1 c1 : Nat) (x1 : List Int) (A2 : Option Addr) (n2 c2 : Nat) (x2 : List Bool) (a3 : Int) (w : World) (h0 : IntsB w A0 n0 c0 X) (h1 : IntsB w A1 n1 c1 x1) (h2 : BoolsB w A2 n2 c2 x2) (ha3 : I64 a3) :
    Calls Tryd.prog 3 #[.slice A0 n0 c0, .slice A1 n1 c1, .slice A2 n2 c2, .int .i64 a3] w fun e w' => e = .returned (.bool true) ∧ Below w.heap.size w w' := by
  obtain ⟨i0, hi, hz0, hz1, hz2⟩ := info_parts Tryd.info5
  by_cases h300 : 300 < n0
  · have hd : decide ((300 : Int) < (n0 : Int)) = true := decide_eq_true (by omega)
    go_enter Tryd.func3, Tryd.ntmps3
    go_wp2_with fail
    refine (awake_any w).mono ?_
    rintro e w3 ⟨rfl, hb3⟩
    go_wp2
    go_ret
    exact ⟨rfl, hb3⟩
  · have hd : decide ((300 : Int) < (n0 : Int)) = false := decide_eq_false (by omega)
    have hd2 : decide (300 < n0) = false := decide_eq_false (by omega)
    obtain ⟨hX, _, _, hX64, hXc⟩ := h0
    obtain ⟨hx1, hc1, hc1m, _, h1c⟩ := h1
    obtain ⟨hx2, hc2, hc2m, h2c⟩ := h2
    have HX := Lib.hid hX
    have HX64 := Lib.hid hX64
    have HXC := Lib.hid hXc
    have H1C := Lib.hid h1c
    have H2C := Lib.hid h2c
    have HX1 := Lib.hid hx1
    have HX2 := Lib.hid hx2
    have HA3 := Lib.hid ha3
    clear hX hX64 hXc h1c h2c hx1 hx2 ha3
    go_enter Tryd.func3, Tryd.ntmps3
    go_upto_region 4 with fail
    obtain ⟨W, hW⟩ : ∃ W, (w.alloc (.cells #[.int .i64 11, .string ⟨#[]⟩, .slice none 0 0, .slice none 0 0, .slice none 0 0, .bool false, .string ⟨#[]⟩, .int .i64 1, .slice none 0 0, .int .i64 0, .int .i64 4, .string ⟨#[]⟩, .slice none 0 0, .slice none 0 0, .slice none 0 0, .bool false, .string ⟨#[]⟩, .int .i64 0, .slice none 0 0, .int .i64 0] 29)).alloc (.cells #[.slice (some ⟨w.heap.size, 0, none⟩) 2 2] 32) = W := ⟨_, rfl⟩
    have hbW : Below w.heap.size w W := by rw [← hW]; exact ((Below.refl _ w).alloc (Nat.le_refl _) _).alloc (by simp) _
    have hs : W.heap.size = w.heap.size + 2 := by rw [← hW]; simp
    have hh0 : W.heap[w.heap.size]? = some (.cells (ndc 11 1 ++ ndc 4 0).toArray 29 (0, 0)) := by rw [← hW]; exact old_at _ (new_at rfl _)
    have hh1 : W.heap[w.heap.size + 1]? = some (.cells #[.slice (some ⟨w.heap.size, 0, none⟩) 2 2] 32 (0, 0)) := by rw [← hW]; exact new_at (by simp) _
    have hnds : ∀ W', Fr W W' (fun k => k < W.heap.size) → NdsAt W' (fun g => g < W'.heap.size) SL (.slice (some ⟨w.heap.size, 0, none⟩) 2 2) := fun W' hf => nds_mono (nds_fr hf (fun b hb => by omega) (nds_two (by decide) (by decide) (by decide) (by decide) hh0)) (fun b hb => by have := hf.size; omega)
    have HNDS := Lib.hid hnds
    have HBW := Lib.hid hbW
    have H1 := Lib.hid hh1
    have HS := Lib.hid hs
    rw [hW]
    clear hnds hbW hh1 hs hW hh0
    obtain ⟨o, ho1, ho⟩ : ∃ o : Nat, o ≤ 1 ∧ ((a3.tmod 9 == 1) = (o == 1)) := by
      by_cases h : a3.tmod 9 = 1
      · exact ⟨1, by omega, by simp [h]⟩
      · exact ⟨0, by omega, by simp [h]⟩
    have HO := Lib.hid ho
    clear ho
    go_wp2
    go_loopg [10, 11, 12, 13, 14] n0 (fun g b _ sp i k wr => ∃ i' k' : Nat, i' + g = n0 ∧ i = .int .i64 i' ∧ k = .int .i64 k' ∧ BlsI W X o i' k' b sp wr)
    case atStart => exact ⟨0, 0, by omega, rfl, rfl, [], by simp [GoodB], by simp [allL], rfl, by simp, World.ownsRow_nil _ _ _ _, Below.refl _ _⟩
    case round =>
      obtain ⟨i, k, hig, rfl, rfl, bs, hgood, hall, hk, rfl, hown, hb⟩ := hrel
      obtain ⟨sp, hsp⟩ : ∃ sp : Bool, (o == 1 && bs.any (·.2)) = sp := ⟨_, rfl⟩
      have HSP := Lib.hid hsp
      rw [hsp]
      clear hsp
      have hkn : k ≤ n0 := by have h1 := goodB_len bs hgood; rw [hall, List.length_take] at h1; have := HX.out; omega
      by_cases hlt : i < n0
      · obtain ⟨g0, of0, rfl, hg0, hc0⟩ := HXC.out (by omega)
        have HC0 := Lib.hid hc0
        have HOWN := Lib.hid hown
        have HB := Lib.hid hb
        have HG := Lib.hid hgood
        have HALL := Lib.hid hall
        have HK := Lib.hid hk
        clear hown hb hgood hall hk hc0
        obtain ⟨r, hr⟩ : ∃ r : Nat, (n0 : Int) - i = r := ⟨n0 - i, by omega⟩
        have hr0 : 0 < r := by omega
        have hrn : i + r = n0 := by omega
        have HR := Lib.hid hrn
        have hrw : wrap64 ((n0 : Int) - i) = r := by unfold wrap64; omega
        have HRW := Lib.hid hrw
        clear hrn hrw
        go_upto_if 42 with fail
        have hbw : Below w.heap.size w wr := HBW.out.trans (HB.out.mono HBW.out.size)
        have HBWR := Lib.hid hbw
        clear hbw
        go_cut [15] from 29 to 102 (fun q wx => ∃ m : Nat, 1 ≤ m ∧ m ≤ r ∧ q = .int .i64 m ∧ wx = wr)
        case first =>
          by_cases hk1 : k < n1
          · obtain ⟨g1, of1, rfl, hg1, hc1⟩ := H1C.out (by omega)
            obtain ⟨y, hy⟩ : ∃ y, x1[k]? = some y := ⟨_, List.getElem?_eq_getElem (by have := HX1.out; omega)⟩
            have hcy : wr.cell? ⟨g1, of1 + k, none⟩ = some (.int .i64 y) := (HBWR.out.cell (p := ⟨g1, of1 + k, none⟩) hg1).trans (hc1 k y hy)
            obtain ⟨q, hq, eq⟩ := umodB y r hr0
            have hwr : IntKind.u64.wrap (r : Int) = r := by rw [wrap_u64]; omega
            have hrz : ¬ (r : Int) = 0 := by omega
            have HQ : Hid (wrap64 (1 + wrap64 ((IntKind.u64.wrap y).tmod (r : Int))) = ((q + 1 : Nat) : Int)) := Lib.hid (by rw [eq]; exact blk_wrap q (by omega))
            clear hc1 hy eq
            go_wp2
            go_meet
            exact ⟨q + 1, by omega, by omega, by rw [HQ.out], rfl⟩
          · have hk2 : decide ((k : Int) < (n1 : Int)) = false := decide_eq_false (by omega)
            have hk3 : decide (k < n1) = false := decide_eq_false (by omega)
            go_wp2
            go_meet
            exact ⟨r, by omega, by omega, rfl, rfl⟩
        case rest =>
          obtain ⟨m, hm1, hmr, rfl, rfl⟩ := hcut
          have hims : i + m ≤ n0 := by have := HR.out; omega
          obtain ⟨e, he⟩ : ∃ e : Nat, (i : Int) + (m : Int) = e := ⟨i + m, by omega⟩
          have hsl : ∀ p, (itemsL ((X.drop i).take (p - i))).length ≤ 3000 := fun p => by
            have := itemsL_len ((X.drop i).take (p - i)) (fun x hx => HX64.out x (List.mem_of_mem_drop (List.mem_of_mem_take hx)))
            have h2 : ((X.drop i).take (p - i)).length ≤ n0 := by rw [List.length_take, List.length_drop]; have := HX.out; omega
            omega
          have HSL := Lib.hid hsl
          clear hsl
          go_wp2
          go_loopg [16, 17] m (fun g blk t wx => ∃ p : Nat, p + g = e ∧ i ≤ p ∧ t = .int .i64 p ∧ wx.ownsRow wc.heap.size 5 1 blk (itemsL ((X.drop i).take (p - i))).length (cellsB (itemsL ((X.drop i).take (p - i)))) ∧ Below wc.heap.size wc wx)
          case atStart => exact ⟨i, by omega, Nat.le_refl _, rfl, by simpa [itemsL, cellsB] using World.ownsRow_nil wc wc.heap.size 5 1, Below.refl _ _⟩
          case round =>
            obtain ⟨p, hpg, hip, rfl, hownb, hbb⟩ := hrel
            by_cases hpe : p < e
            · obtain ⟨x, hx⟩ : ∃ x, X[p]? = some x := ⟨_, List.getElem?_eq_getElem (by have := HX.out; omega)⟩
              have hcx : wr.cell? ⟨g0, of0 + p, none⟩ = some (.int .i64 x) := ((below_fr0 hbb).cell ((HBWR.out.cell (p := ⟨g0, of0 + p, none⟩) hg0).trans (HC0.out p x hx)) trivial)
              have hp0 : p < n0 := by omega
              have hzig := refZig_any x (HX64.out x (List.mem_of_getElem? hx)) wr
              have hnx := items_next hip hx
              have hzl := numL_len10 (zigN x) (zigN_lt (HX64.out x (List.mem_of_getElem? hx)))
              have hs1 := HSL.out p
              have HNX := Lib.hid hnx
              have hpd : decide ((p : Int) < (e : Int)) = true := decide_eq_true (by omega)
              have hpd2 : decide (p < e) = true := decide_eq_true (by omega)
              clear hnx hx
              generalize itemsL ((X.drop i).take (p - i)) = P0 at *
              go_wp2_with fail
              refine hzig.mono ?_
              rintro ee w1 ⟨A5, c5, rfl, hown5, hb5⟩
              have hr5 := Rd.of_own hown5 (numL_byte _ _ (Nat.le_refl _))
              have howr := ownsRow_fr hownb (below_fr0 hb5) (fun _ _ => trivial)
              have hbr5 : Below wc.heap.size wc w1 := hbb.trans (hb5.mono hbb.size)
              clear hownb hown5 hb5 hbb hzig
              go_wp2_with (at_builtin; refine wpList_append_rd _ rfl _ _ 33 rfl wc.heap.size 5 i0 Tryd.underlying33 hi hz0 hz1 hz2 _ _ _ rfl howr w1.heap.size A5 _ c5 _ rfl hr5 (by omega) hbr5.size ?_)
              intro v' w2 hown2 hg2 hat2
              have hb2 : Below wc.heap.size wc w2 := hbr5.grown hg2 hbr5.size (fun k hk => (howr.lt k hk).1)
              clear hg2 hat2 howr hr5 hbr5
              go_wp2
              go_roundg (e - (p + 1))
              case measure => omega
              case rel =>
                refine ⟨p + 1, by omega, by omega, by go_num, ?_, hb2⟩
                rw [HNX.out, List.length_append]
                simpa [cellsB] using hown2
            · obtain rfl : p = e := by omega
              have hpd : decide ((p : Int) < (p : Int)) = false := decide_eq_false (by omega)
              go_upto_region 17 with fail
              obtain ⟨Q, hQ⟩ : ∃ Q, (X.drop i).take (p - i) = Q := ⟨_, rfl⟩
              have hQl : Q.length = m := by rw [← hQ, List.length_take, List.length_drop]; have := HX.out; omega
              have hQx : ∀ x ∈ Q, I64 x := fun x hx => HX64.out x (by rw [← hQ] at hx; exact List.mem_of_mem_drop (List.mem_of_mem_take hx))
              have hLs := HSL.out p
              rw [hQ] at hownb hLs
              obtain ⟨Ab, cb, hub⟩ := own_form hownb
              subst hub
              obtain ⟨L, hL⟩ : ∃ L, (itemsL Q).length = L := ⟨_, rfl⟩
              have hBl := encL_len ho1 bs HG.out
              have hal : (allL bs).length ≤ 300 := by rw [HALL.out, List.length_take]; omega
              obtain ⟨BB, hBB⟩ : ∃ BB, encL o bs = BB := ⟨_, rfl⟩
              have howB0 := HOWN.out
              rw [hBB] at howB0 hBl
              obtain ⟨LB, hLB⟩ : ∃ LB, BB.length = LB := ⟨_, rfl⟩
              rw [hLB] at howB0 hBl
              obtain ⟨A9, c9, hu9⟩ := own_form howB0
              subst hu9
              rw [hL] at hownb hLs ⊢
              obtain ⟨N0, hN0⟩ : ∃ N0, wc.heap.size = N0 := ⟨_, rfl⟩
              have howB := ownsRow_fr howB0 (below_fr0 hbb) (fun _ _ => trivial)
              have hneB : ∀ g, (Value.slice A9 LB c9).ownBlock = some g → g < N0 := fun g e => hN0 ▸ (howB0.lt g e).2
              have hbWr : Below W.heap.size W wr := HB.out.trans (hbb.mono HB.out.size)
              have hbwr : Below w.heap.size w wr := HBWR.out.trans (hbb.mono HBWR.out.size)
              rw [hN0] at hownb
              have HQ := Lib.hid hQ
              have HQL := Lib.hid hQl
              have HQX := Lib.hid hQx
              have HL := Lib.hid hL
              have HBB := Lib.hid hBB
              have HLB := Lib.hid hLB
              have HOWB := Lib.hid howB
              have HOWNB := Lib.hid hownb
              have HNEB := Lib.hid hneB
              have HBWW := Lib.hid hbWr
              have HBw := Lib.hid hbwr
              have hLBb : LB ≤ 9000 := by omega
              clear hQ hQl hQx hL hBB hLB howB hownb hneB hbWr hbwr hbb howB0 hN0 HOWN HB hBl hal
              go_cut [77] from 29 to 102 (fun q wx => ∃ sz : Bool, q = .bool sz ∧ wx = wr)
              case first =>
                by_cases hk2 : k < n2
                · obtain ⟨g2, of2, rfl, hg2, hc2⟩ := H2C.out (by omega)
                  obtain ⟨sz, hsz⟩ : ∃ sz, x2[k]? = some sz := ⟨_, List.getElem?_eq_getElem (by have := HX2.out; omega)⟩
                  have hcs : wr.cell? ⟨g2, of2 + k, none⟩ = some (.bool sz) := (HBw.out.cell (p := ⟨g2, of2 + k, none⟩) hg2).trans (hc2 k sz hsz)
                  have hd2 : decide ((k : Int) < (n2 : Int)) = true := decide_eq_true (by omega)
                  clear hc2 hsz
                  go_wp2
                  go_meet
                  exact ⟨sz, rfl, rfl⟩
                · have hd2 : decide ((k : Int) < (n2 : Int)) = false := decide_eq_false (by omega)
                  have hd3 : decide (k < n2) = false := decide_eq_false (by omega)
                  go_wp2
                  go_meet
                  exact ⟨false, rfl, rfl⟩
              case rest =>
                obtain ⟨sz, rfl, rfl⟩ := hcut
                go_upto_if 77 with fail
                go_cut [10, 11, 12] from 29 to 102 (fun b _ s wx => ∃ (A : Option Addr) (l c : Nat) (H : List Int), b = .slice A l c ∧ H ++ itemsL Q = enc1 o (Q, sz) ∧ l = LB + H.length ∧ H.length ≤ 20 ∧ s = .bool (sp || (o == 1 && sz)) ∧ wx.ownsRow W.heap.size 5 1 (.slice A l c) l (cellsB (BB ++ H)) ∧ wx.ownsRow N0 5 1 (.slice Ab L cb) L (cellsB (itemsL Q)) ∧ Below W.heap.size W wx)
                case first =>
                  have HNG : Hid (wrap64 (-(m : Int)) = -(m : Int)) := Lib.hid (by unfold wrap64; omega)
                  cases sz with
                  | true =>
                    have hzig := refZig_any (-(m : Int)) ⟨by omega, by omega⟩ wc
                    have hzl := numL_len10 (zigN (-(m : Int))) (zigN_lt ⟨by omega, by omega⟩)
                    by_cases h1 : o = 1
                    · subst h1
                      have ha : a3.tmod 9 = 1 := by have := HO.out; simpa using this
                      go_wp2_with fail
                      refine hzig.mono ?_
                      rintro ee w1 ⟨A5, c5, rfl, hown5, hb5⟩
                      have hr5 := Rd.of_own hown5 (numL_byte _ _ (Nat.le_refl _))
                      have hoB1 := ownsRow_fr HOWB.out (below_fr0 hb5) (fun _ _ => trivial)
                      have hoK1 := ownsRow_fr HOWNB.out (below_fr0 hb5) (fun _ _ => trivial)
                      have hbW1 : Below W.heap.size W w1 := HBWW.out.trans (hb5.mono HBWW.out.size)
                      go_wp2_with (at_builtin; refine wpList_append_rd _ rfl _ _ 33 rfl W.heap.size 5 i0 Tryd.underlying33 hi hz0 hz1 hz2 _ _ _ rfl hoB1 w1.heap.size A5 _ c5 _ rfl hr5 (by omega) hbW1.size ?_)
                      intro v' w2 hown2 hg2 hat2
                      have hb2 : Below W.heap.size W w2 := hbW1.grown hg2 hbW1.size (fun k hk => (hoB1.lt k hk).1)
                      have hoK2 := hoK1.kept hg2 (ne_own (M := w1.heap.size) (fun g e => .inl (HNEB.out g e)) hoK1.lt)
                      have hne2 : ∀ g, v'.ownBlock = some g → g < N0 ∨ w1.heap.size ≤ g := fun g e => by
                        rcases hat2 with h | h
                        · exact .inl (HNEB.out g (h ▸ e))
                        · rw [h] at e; cases e; exact .inr (Nat.le_refl _)
                      have hKlt := hoK1.lt
                      obtain ⟨A2', c2', rfl⟩ := own_form hown2
                      obtain ⟨Z, hZ⟩ : ∃ Z, numL (zigN (-(m : Int))) = Z := ⟨_, rfl⟩
                      rw [hZ] at hown2 hzl hne2 ⊢
                      obtain ⟨LZ, hLZ⟩ : ∃ LZ, Z.length = LZ := ⟨_, rfl⟩
                      rw [hLZ] at hown2 hzl hne2 ⊢
                      have HZ := Lib.hid hZ
                      have HLZ := Lib.hid hLZ
                      clear hg2 hat2 hoK1 hoB1 hr5 hown5 hb5 hzig hbW1 hZ hLZ
                      go_wp2_with fail
                      refine (refZig_any _ (by constructor <;> omega) w2).mono ?_
                      rintro ee w3 ⟨A6, c6, rfl, hown6, hb6⟩
                      have hzl6 := numL_len10 (zigN ((L : Int) + 1)) (zigN_lt ⟨by omega, by omega⟩)
                      have hr6 := Rd.of_own hown6 (numL_byte _ _ (Nat.le_refl _))
                      have hoB3 := ownsRow_fr hown2 (below_fr0 hb6) (fun _ _ => trivial)
                      have hoK3 := ownsRow_fr hoK2 (below_fr0 hb6) (fun _ _ => trivial)
                      have hbW3 : Below W.heap.size W w3 := hb2.trans (hb6.mono hb2.size)
                      go_wp2_with (at_builtin; refine wpList_append_rd _ rfl _ _ 33 rfl W.heap.size 5 i0 Tryd.underlying33 hi hz0 hz1 hz2 _ _ _ rfl hoB3 w3.heap.size A6 _ c6 _ rfl hr6 (by omega) hbW3.size ?_)
                      intro v' w4 hown4 hg4 hat4
                      have hb4 : Below W.heap.size W w4 := hbW3.grown hg4 hbW3.size (fun k hk => (hoB3.lt k hk).1)
                      have hoK4 := hoK3.kept hg4 (ne_own (M := w1.heap.size) hne2 hKlt)
                      obtain ⟨A4', c4', rfl⟩ := own_form hown4
                      clear hg4 hat4 hoK3 hoB3 hr6 hown6 hb6 hbW3
                      go_wp2
                      go_meet
                      refine ⟨A4', _, c4', Z ++ numL (zigN ((L : Int) + 1)), rfl, ?_, ?_, ?_, by simp, ?_, hoK4, hb4⟩
                      · unfold enc1; rw [HQL.out, HL.out, ← HZ.out]; simp
                      · rw [List.length_append, HLZ.out]; omega
                      · rw [List.length_append, HLZ.out]; omega
                      · have := HLZ.out; simpa [cellsB, Nat.add_assoc] using hown4
                    · obtain rfl : o = 0 := by omega
                      have ha : ¬ a3.tmod 9 = 1 := by have := HO.out; simpa using this
                      have ha3 : (a3.tmod 9 == 1) = false := by simp [ha]
                      go_wp2_with fail
                      refine hzig.mono ?_
                      rintro ee w1 ⟨A5, c5, rfl, hown5, hb5⟩
                      have hr5 := Rd.of_own hown5 (numL_byte _ _ (Nat.le_refl _))
                      have hoB1 := ownsRow_fr HOWB.out (below_fr0 hb5) (fun _ _ => trivial)
                      have hoK1 := ownsRow_fr HOWNB.out (below_fr0 hb5) (fun _ _ => trivial)
                      have hbW1 : Below W.heap.size W w1 := HBWW.out.trans (hb5.mono HBWW.out.size)
                      go_wp2_with (at_builtin; refine wpList_append_rd _ rfl _ _ 33 rfl W.heap.size 5 i0 Tryd.underlying33 hi hz0 hz1 hz2 _ _ _ rfl hoB1 w1.heap.size A5 _ c5 _ rfl hr5 (by omega) hbW1.size ?_)
                      intro v' w2 hown2 hg2 hat2
                      have hb2 : Below W.heap.size W w2 := hbW1.grown hg2 hbW1.size (fun k hk => (hoB1.lt k hk).1)
                      have hoK2 := hoK1.kept hg2 (ne_own (M := w1.heap.size) (fun g e => .inl (HNEB.out g e)) hoK1.lt)
                      have hne2 : ∀ g, v'.ownBlock = some g → g < N0 ∨ w1.heap.size ≤ g := fun g e => by
                        rcases hat2 with h | h
                        · exact .inl (HNEB.out g (h ▸ e))
                        · rw [h] at e; cases e; exact .inr (Nat.le_refl _)
                      have hKlt := hoK1.lt
                      obtain ⟨A2', c2', rfl⟩ := own_form hown2
                      obtain ⟨Z, hZ⟩ : ∃ Z, numL (zigN (-(m : Int))) = Z := ⟨_, rfl⟩
                      rw [hZ] at hown2 hzl hne2 ⊢
                      obtain ⟨LZ, hLZ⟩ : ∃ LZ, Z.length = LZ := ⟨_, rfl⟩
                      rw [hLZ] at hown2 hzl hne2 ⊢
                      have HZ := Lib.hid hZ
                      have HLZ := Lib.hid hLZ
                      clear hg2 hat2 hoK1 hoB1 hr5 hown5 hb5 hzig hbW1 hZ hLZ
                      go_wp2_with fail
                      refine (refZig_any _ (by constructor <;> omega) w2).mono ?_
                      rintro ee w3 ⟨A6, c6, rfl, hown6, hb6⟩
                      have hzl6 := numL_len10 (zigN ((L : Int))) (zigN_lt ⟨by omega, by omega⟩)
                      have hr6 := Rd.of_own hown6 (numL_byte _ _ (Nat.le_refl _))
                      have hoB3 := ownsRow_fr hown2 (below_fr0 hb6) (fun _ _ => trivial)
                      have hoK3 := ownsRow_fr hoK2 (below_fr0 hb6) (fun _ _ => trivial)
                      have hbW3 : Below W.heap.size W w3 := hb2.trans (hb6.mono hb2.size)
                      go_wp2_with (at_builtin; refine wpList_append_rd _ rfl _ _ 33 rfl W.heap.size 5 i0 Tryd.underlying33 hi hz0 hz1 hz2 _ _ _ rfl hoB3 w3.heap.size A6 _ c6 _ rfl hr6 (by omega) hbW3.size ?_)
                      intro v' w4 hown4 hg4 hat4
                      have hb4 : Below W.heap.size W w4 := hbW3.grown hg4 hbW3.size (fun k hk => (hoB3.lt k hk).1)
                      have hoK4 := hoK3.kept hg4 (ne_own (M := w1.heap.size) hne2 hKlt)
                      obtain ⟨A4', c4', rfl⟩ := own_form hown4
                      clear hg4 hat4 hoK3 hoB3 hr6 hown6 hb6 hbW3
                      go_wp2
                      go_meet
                      refine ⟨A4', _, c4', Z ++ numL (zigN ((L : Int))), rfl, ?_, ?_, ?_, by simp, ?_, hoK4, hb4⟩
                      · unfold enc1; rw [HQL.out, HL.out, ← HZ.out]; simp
                      · rw [List.length_append, HLZ.out]; omega
                      · rw [List.length_append, HLZ.out]; omega
                      · have := HLZ.out; simpa [cellsB, Nat.add_assoc] using hown4
                  | false =>
                    have hzig := refZig_any (m : Int) ⟨by omega, by omega⟩ wc
                    have hzl := numL_len10 (zigN (m : Int)) (zigN_lt ⟨by omega, by omega⟩)
                    go_wp2_with fail
                    refine hzig.mono ?_
                    rintro ee w1 ⟨A5, c5, rfl, hown5, hb5⟩
                    have hr5 := Rd.of_own hown5 (numL_byte _ _ (Nat.le_refl _))
                    have hoB1 := ownsRow_fr HOWB.out (below_fr0 hb5) (fun _ _ => trivial)
                    have hoK1 := ownsRow_fr HOWNB.out (below_fr0 hb5) (fun _ _ => trivial)
                    have hbW1 : Below W.heap.size W w1 := HBWW.out.trans (hb5.mono HBWW.out.size)
                    go_wp2_with (at_builtin; refine wpList_append_rd _ rfl _ _ 33 rfl W.heap.size 5 i0 Tryd.underlying33 hi hz0 hz1 hz2 _ _ _ rfl hoB1 w1.heap.size A5 _ c5 _ rfl hr5 (by omega) hbW1.size ?_)
                    intro v' w2 hown2 hg2 hat2
                    have hb2 : Below W.heap.size W w2 := hbW1.grown hg2 hbW1.size (fun k hk => (hoB1.lt k hk).1)
                    have hoK2 := hoK1.kept hg2 (ne_own (M := w1.heap.size) (fun g e => .inl (HNEB.out g e)) hoK1.lt)
                    obtain ⟨A2', c2', rfl⟩ := own_form hown2
                    clear hg2 hat2 hoK1 hoB1 hr5 hown5 hb5 hzig hbW1
                    go_wp2
                    go_meet
                    refine ⟨A2', _, c2', numL (zigN (m : Int)), rfl, ?_, rfl, by omega, by simp, ?_, hoK2, hb2⟩
                    · unfold enc1; rw [HQL.out]; rfl
                    · simpa [cellsB] using hown2
                case rest =>
                  obtain ⟨Ac, lc, cc, H, rfl, hH, hlc, hH20, rfl, hoB, hoK, hbc⟩ := hcut
                  have hrK := Rd.of_own hoK (itemsL_byte Q)
                  have hlcb : lc ≤ 10000 := by omega
                  have HH := Lib.hid hH
                  have HLC := Lib.hid hlc
                  clear hH hlc hoK
                  go_wp2_with (at_builtin; refine wpList_append_rd _ rfl _ _ 33 rfl W.heap.size 5 i0 Tryd.underlying33 hi hz0 hz1 hz2 _ _ _ rfl hoB wc.heap.size Ab L cb _ rfl hrK (by omega) hbc.size ?_)
                  intro v' w2 hown2 hg2 hat2
                  have hb2 : Below W.heap.size W w2 := hbc.grown hg2 hbc.size (fun k hk => (hoB.lt k hk).1)
                  clear hg2 hat2 hrK hoB hbc
                  go_wp2
                  go_roundg (n0 - p)
                  case measure => omega
                  case rel =>
                    have hgood2 : GoodB (bs ++ [(Q, sz)]) := by
                      intro q hq
                      rw [List.mem_append, List.mem_singleton] at hq
                      rcases hq with hq | rfl
                      · exact HG.out q hq
                      · exact ⟨fun e => by have := HQL.out; rw [show Q = [] from e] at this; simp at this; omega, by show Q.length ≤ 1000; have := HQL.out; omega, HQX.out⟩
                    have hall2 : allL (bs ++ [(Q, sz)]) = X.take p := by
                      rw [allL_snoc, HALL.out, ← HQ.out, show p = i + (p - i) by omega, List.take_add, Nat.add_sub_cancel_left]
                    have henc : encL o (bs ++ [(Q, sz)]) = BB ++ H ++ itemsL Q := by rw [encL_snoc, HBB.out, List.append_assoc, HH.out]
                    refine ⟨p, k + 1, by omega, by go_num, by go_num, bs ++ [(Q, sz)], hgood2, hall2, by have := HK.out; simp; omega, ?_, ?_, hb2⟩
                    · have := HSP.out
                      rw [← this]
                      cases o == 1 <;> simp
                    · have hl : (encL o (bs ++ [(Q, sz)])).length = lc + L := by rw [henc, List.length_append, List.length_append, HLB.out, HL.out, HLC.out]
                      rw [hl, henc]
                      simpa [cellsB] using hown2
      · have hin : i = n0 := by omega
        have hlt2 : decide ((i : Int) < (n0 : Int)) = false := decide_eq_false (by omega)
        have hall2 : allL bs = X := by rw [hall, hin, ← HX.out, List.take_length]
        go_upto_region 26 with fail
        have hBl := encL_len ho1 bs hgood
        have hXl := HX.out
        rw [hall2] at hBl
        have hdm := decode_longs o ho1 bs hgood (by rw [hall2]; omega)
        rw [HSP.out, hall2] at hdm
        obtain ⟨BB, hBB⟩ : ∃ BB, encL o bs = BB := ⟨_, rfl⟩
        have hby : ∀ x ∈ BB ++ [0], 0 ≤ x ∧ x < 256 := by
          intro x hx
          rw [List.mem_append, List.mem_singleton] at hx
          rcases hx with hx | rfl
          · rw [← hBB] at hx; exact encL_byte o bs x hx
          · omega
        rw [hBB] at hown hBl hdm
        obtain ⟨LB, hLB⟩ : ∃ LB, BB.length = LB := ⟨_, rfl⟩
        rw [hLB] at hown hBl
        obtain ⟨A9, c9, hu9⟩ := own_form hown
        subst hu9
        have hLBb : LB ≤ 9000 := by omega
        have HB := Lib.hid hb
        have HDM := Lib.hid hdm
        have HBY := Lib.hid hby
        clear hgood hall hk hb hBB hLB hBl hdm hall2 hby hXl hlt2 hlt hkn HSP hig
        subst hin
        go_wp2_with (at_builtin; refine wpList_append_own _ rfl _ _ 33 rfl W.heap.size 5 i0 (.int .u8 0) 1 1 Tryd.underlying33 hi hz0 hz1 hz2 rfl (by decide) _ _ _ rfl (hown.alloc _) ⟨wr.heap.size, 0, none⟩ 1 1 [_] rfl rfl (cell_one_new _ _ _) ?c2 ?c3 ?c4 ?c5 ?_)
        case c2 => intro u hu; simp at hu; subst hu; rfl
        case c3 => unfold maxLen; omega
        case c4 => omega
        case c5 => have := HB.out.size; simp; omega
        intro v' w1 hown' hgrow _
        have hb1 : Below W.heap.size W w1 := below_append HB.out HB.out.size hown hgrow
        obtain ⟨Aq, cq, rfl⟩ := own_form hown'
        have hown2 : w1.ownsRow W.heap.size 5 1 (.slice Aq (LB + 1) cq) (LB + 1) (cellsB (BB ++ [0])) := by simpa [cellsB] using hown'
        have hr1 := Rd.of_own hown2 HBY.out
        have hf1 : Fr W w1 (fun k => k < W.heap.size) := ⟨hb1.os, hb1.tape, hb1.output, hb1.size, fun k hk _ => hb1.block k hk⟩
        have hdec := decode_any SL (fun nd h => by simp at h; rcases h with rfl | rfl <;> simp [nd0]) w1 _ Aq _ cq _ (HNDS.out w1 hf1) hr1 (by omega)
        rw [HDM.out] at hdec
        have k1 : w1.cell? ⟨w.heap.size + 1, 0, none⟩ = some (.slice (some ⟨w.heap.size, 0, none⟩) 2 2) := cell_of_row _ _ 0 _ _ _ (hf1.at H1.out (by have := HS.out; omega))
        have hbw1 : Below w.heap.size w w1 := HBW.out.trans (hb1.mono (by have := HS.out; omega))
        have HBW1 := Lib.hid hbw1
        clear hown hown' hown2 hgrow hr1 hf1 hb1 hbw1
        go_wp2_with fail
        refine hdec.mono ?_
        rintro e w2 ⟨hb2, hr2⟩
        have hbw2 : Below w.heap.size w w2 := HBW1.out.trans (hb2.mono HBW1.out.size)
        have HBW2 := Lib.hid hbw2
        clear hdec k1 hb2 hbw2
        cases sp with
        | true =>
          obtain ⟨_, rfl⟩ := hr2
          go_wp2_with fail
          refine (awake_any _).mono ?_
          rintro e w3 ⟨rfl, hb3⟩
          have hbw3 : Below w.heap.size w w3 := (HBW2.out.alloc HBW2.out.size (.cells #[.int .i64 0, .int .i64 0, .slice none 0 0, .slice none 0 0, .slice none 0 0] 38)).trans (hb3.mono (by have := HBW2.out.size; simp; omega))
          have HBW3 := Lib.hid hbw3
          clear hb3 hbw3
          go_wp2
          go_ret
          exact ⟨rfl, HBW3.out⟩
        | false =>
          obtain ⟨v0, v1, v2, v3, v4, rfl, hz⟩ := hr2
          obtain ⟨k, nn, B, nB, xB, A3, n3, x3, A4, n4, x4, rfl, rfl, rfl, rfl, rfl⟩ := uin_agg hz
          have hl := uin_len2 hz
          rw [longs_len, HX.out] at hl
          obtain rfl : n3 = i := hl
          have hcells := longs_cells hz
          have HCE := Lib.hid hcells
          clear hz hcells
          go_wp2_with fail
          refine (awake_any _).mono ?_
          rintro e w3 ⟨rfl, hb3⟩
          have hfr3 : Fr w2 w3 (fun _ => True) := ((Fr.refl w2 (fun _ => True)).alloc _).trans (below_fr0 hb3)
          have y3 : w3.cell? ⟨w2.heap.size, 3, none⟩ = some (.slice A3 n3 x3) := (below_fr0 hb3).cell (cell_of_row _ _ 3 _ _ _ (new_at rfl _)) trivial
          have hbw3 : Below w.heap.size w w3 := (HBW2.out.alloc HBW2.out.size (.cells #[.int .i64 k, .int .i64 nn, .slice B nB xB, .slice A3 n3 x3, .slice A4 n4 x4] 38)).trans (hb3.mono (by have := HBW2.out.size; simp; omega))
          have HBW3 := Lib.hid hbw3
          have HF3 := Lib.hid hfr3
          clear hb3 hbw3 hfr3
          go_wp2
          go_loopg [20] n3 (fun g i wx => ∃ q n : Nat, q + g = n3 ∧ i = .int .i64 q ∧ w3.drewN n = wx)
          case atStart => exact ⟨0, 0, by omega, rfl, rfl⟩
          case round =>
            obtain ⟨q, n, hq, rfl, hW⟩ := hrel
            by_cases hlt : q < n3
            · obtain ⟨g0, of0, rfl, hg0, hc0⟩ := HXC.out (by omega)
              obtain ⟨x, hx⟩ : ∃ x, X[q]? = some x := ⟨_, List.getElem?_eq_getElem (by have := HX.out; omega)⟩
              obtain ⟨g3, of3, rfl, hc3⟩ := HCE.out (by have := HX.out; omega)
              have hcx : wr.cell? ⟨g0, of0 + q, none⟩ = some (.int .i64 x) := by rw [← hW]; exact (HBW3.out.cell (p := ⟨g0, of0 + q, none⟩) hg0).trans (hc0 q x hx)
              have hcy : wr.cell? ⟨g3, of3 + q * 5 + 1, none⟩ = some (.int .i64 x) := by rw [← hW]; have := HF3.out.cell (hc3 q x hx) trivial; rwa [show of3 + (5 * q + 1) = of3 + q * 5 + 1 by omega] at this
              have hy3 : wr.cell? ⟨w2.heap.size, 3, none⟩ = some (.slice (some ⟨g3, of3, none⟩) n3 x3) := by rw [← hW]; exact y3
              have hqi : (q : Int) < (n3 : Int) := by omega
              have HW := Lib.hid hW
              clear hx hc0 hc3 hW y3
              go_wp2
              go_quiet (fail)
              go_wp2
              go_roundg (n3 - (q + 1))
              case measure => omega
              case rel => exact ⟨q + 1, n + nq, by omega, by go_num, by rw [← HW.out]; simp⟩
            · have hq2 : decide ((q : Int) < (n3 : Int)) = false := decide_eq_false (by omega)
              have HW := Lib.hid hW
              clear hW
              go_wp2
              go_ret
              have hbb := HBW3.out
              rw [← HW.out]
              exact ⟨rfl, hbb.os, hbb.tape, hbb.output, hbb.size, hbb.block⟩
/-- CodecBlocks holds, whatever the longs, the cuts, the marks and the number are. -/
theorem codecBlocks_holds : Rows.CodecBlocksCardSaid := codecBlocks.card fun A0 n0 c0 x0 A1 n1 c1 x1 A2 n2 c2 x2 a3 w h0 h1 h2 h3 _ => blocks_walk A0 n0 c0 x0 A1 n1 c1 x1 A2 n2 c2 x2 a3 w h0 h1 h2 (wf_I64 h3)
end Go.Proofs.YtlkbcdbjmkfkkaaDoor
