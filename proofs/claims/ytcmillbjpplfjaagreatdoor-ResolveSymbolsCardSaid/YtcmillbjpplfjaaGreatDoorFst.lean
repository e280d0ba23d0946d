/-
  'first': the first of some branches that matches a node.
-/
import Derived.Test.YtcmillbjpplfjaaGreatDoorAlk
namespace Go.Proofs.YtcmillbjpplfjaaGreatDoor
open Go.RowKit

/-- Whether the nodes i and k match, with so many steps left. -/
def matchF (ns rs : List Nd) : Nat → Int → Int → Bool
  | 0, _, _ => false
  | g + 1, i, k => if (thereB ns i && thereB rs k) = false then false else if listsB (ndAt ns i) (ndAt rs k) = true then matchF ns rs g (ndAt ns i).items (ndAt rs k).items else alikeB (ndAt ns i) (ndAt rs k)
def matchT (ns rs : List Nd) (i k : Int) : Bool := matchF ns rs (max ns.length rs.length) i k
abbrev twoS (w : World) (vs us : Value) : World := (w.alloc (.cells #[vs] 29)).alloc (.cells #[us] 29)
/-- A node's cells, told by the node and its slices. -/
def ndc (n : Nd) (s2 s3 s4 s8 : Value) (j : Nat) : Value :=
  if j = 0 then .int .i64 n.kind else if j = 1 then .string n.name else if j = 2 then s2 else if j = 3 then s3 else if j = 4 then s4 else if j = 5 then .bool n.has else if j = 6 then .string n.dflt else if j = 7 then .int .i64 n.items else if j = 8 then s8 else .int .i64 n.size
abbrev nda (n : Nd) (s2 s3 s4 s8 : Value) : Array Value := #[.int .i64 n.kind, .string n.name, s2, s3, s4, .bool n.has, .string n.dflt, .int .i64 n.items, s8, .int .i64 n.size]
theorem NdIn.ndc {w : World} {ok : Nat → Prop} {n : Nd} {c : Nat → Value} (h : NdIn w ok n c) : NdIn w ok n (ndc n (c 2) (c 3) (c 4) (c 8)) ∧ ndv c = .agg (nda n (c 2) (c 3) (c 4) (c 8)) :=
  ⟨⟨rfl, rfl, h.al, h.fs, h.sy, rfl, rfl, rfl, h.br, rfl, h.kindw, h.itemsw, h.sizew, h.namel, h.dfltl⟩, by rw [ndv, h.kind, h.name, h.has, h.dflt, h.items, h.size]⟩
/-- What 'node' answers. -/
def NodeQ (w : World) (ok : Nat → Prop) (n : Nd) (b : Bool) (e : Ending) (w' : World) : Prop := ∃ A2 n2 c2 A3 n3 c3 A4 n4 c4 A8 n8 c8,
  e = .returned (.tuple #[.agg (nda n (.slice A2 n2 c2) (.slice A3 n3 c3) (.slice A4 n4 c4) (.slice A8 n8 c8)), .bool b]) ∧ NdIn w ok n (ndc n (.slice A2 n2 c2) (.slice A3 n3 c3) (.slice A4 n4 c4) (.slice A8 n8 c8)) ∧ Below w.heap.size w w'
theorem node_q (ns : List Nd) (vs : Value) (w : World) (ok : Nat → Prop) (h : NdsAt w ok ns vs) (i : Int) :
    Calls Tryz.prog 123 #[.agg #[vs], .int .i64 i] w (NodeQ w ok (ndAt ns i) (thereB ns i)) :=
  (node_any ns vs w ok h i).mono fun e w' ⟨c, h1, h2, h3⟩ => by
    obtain ⟨A2, n2, c2, A3, n3, c3, A4, n4, c4, A8, n8, c8, e2, e3, e4, e8⟩ := h2.shape
    obtain ⟨h4, h5⟩ := h2.ndc
    rw [e2, e3, e4, e8] at h4 h5
    exact ⟨A2, n2, c2, A3, n3, c3, A4, n4, c4, A8, n8, c8, by rw [h1, h5], h4, h3⟩
/-- A node's block. -/
abbrev zeroN : Array Value := #[.int .i64 0, .string ⟨#[]⟩, .slice none 0 0, .slice none 0 0, .slice none 0 0, .bool false, .string ⟨#[]⟩, .int .i64 0, .slice none 0 0, .int .i64 0]
theorem ndc_v (N : Nd) (s2 s3 s4 s8 : Value) : ndv (ndc N s2 s3 s4 s8) = .agg #[.int .i64 N.kind, .string N.name, s2, s3, s4, .bool N.has, .string N.dflt, .int .i64 N.items, s8, .int .i64 N.size] := by simp [ndv, ndc]
theorem lists_q (N M : Nd) (s2 s3 s4 s8 t2 t3 t4 t8 : Value) (w : World) (ok ok' : Nat → Prop) (hn : NdIn w ok N (ndc N s2 s3 s4 s8)) (hm : NdIn w ok' M (ndc M t2 t3 t4 t8)) :
    Calls Tryz.prog 148 #[.agg #[.int .i64 N.kind, .string N.name, s2, s3, s4, .bool N.has, .string N.dflt, .int .i64 N.items, s8, .int .i64 N.size], .agg #[.int .i64 M.kind, .string M.name, t2, t3, t4, .bool M.has, .string M.dflt, .int .i64 M.items, t8, .int .i64 M.size]] w fun e w' => e = .returned (.bool (listsB N M)) ∧ Below w.heap.size w w' := by
  have h := lists_any N M _ _ w ok ok' hn hm
  rwa [ndc_v, ndc_v] at h
theorem alike_r (N M : Nd) (s2 s3 s4 s8 t2 t3 t4 t8 : Value) (w : World) (ok ok' : Nat → Prop) (hn : NdIn w ok N (ndc N s2 s3 s4 s8)) (hm : NdIn w ok' M (ndc M t2 t3 t4 t8)) :
    Calls Tryz.prog 149 #[.agg #[.int .i64 N.kind, .string N.name, s2, s3, s4, .bool N.has, .string N.dflt, .int .i64 N.items, s8, .int .i64 N.size], .agg #[.int .i64 M.kind, .string M.name, t2, t3, t4, .bool M.has, .string M.dflt, .int .i64 M.items, t8, .int .i64 M.size]] w fun e w' => e = .returned (.bool (alikeB N M)) ∧ Below w.heap.size w w' := by
  have h := alike_any N M _ _ w ok ok' hn hm
  rwa [ndc_v, ndc_v] at h
set_option maxRecDepth 100000 in
set_option maxHeartbeats 4000000 in
theorem first_any (ns rs : List Nd) (vs us : Value) (i : Int) (bs : List Int) (bv : Value) (w : World) (ok ok' ok'' : Nat → Prop) (hn : NdsAt w ok ns vs) (hr : NdsAt w ok' rs us) (hb : IntsAt w ok'' bs bv) :
    Calls Tryz.prog 122 #[.agg #[vs], .int .i64 i, .agg #[us], bv] w fun e w' => e = .returned (.int .i64 (firstI (matchT ns rs i) bs 0)) ∧ Below w.heap.size w w' := by
  have hb0 : Below w.heap.size w (twoS w vs us) := ((Below.refl _ w).alloc (Nat.le_refl _) _).alloc (by simp) _
  have h1 : (twoS w vs us).heap[w.heap.size]? = some (.cells #[vs] 29 (0, 0)) := old_at _ (new_at rfl _)
  have h2 : (twoS w vs us).heap[w.heap.size + 1]? = some (.cells #[us] 29 (0, 0)) := new_at (by simp) _
  have HN := Lib.hid hn
  have HR := Lib.hid hr
  obtain ⟨A1, cap1, c1, rfl, hl1, hm1, _, _⟩ := hn
  obtain ⟨A2, cap2, c2, rfl, hl2, hm2, _, _⟩ := hr
  obtain ⟨A3, cap3, rfl, hl3, hm3, hw3, hc3⟩ := hb
  unfold maxLen at hm1 hm2 hm3
  have HB0 := Lib.hid hb0
  have HC3 := Lib.hid hc3
  clear hb0 hc3 hw3
  go_enter Tryz.func122, Tryz.ntmps122
  go_upto_region 1 with fail
  change Code.wp _ _ _ _ (twoS w _ _)
  generalize twoS w (.slice A1 ns.length cap1) (.slice A2 rs.length cap2) = W0 at *
  have p0 := cell_of_row _ _ 0 _ _ _ h1
  have q0 := cell_of_row _ _ 0 _ _ _ h2
  obtain ⟨S, hS⟩ : ∃ S : Nat, max ns.length rs.length = S := ⟨_, rfl⟩
  have HS := Lib.hid hS
  have hS63 : S ≤ 2 ^ 63 - 1 := by rw [← hS]; exact Nat.max_le.2 ⟨by omega, by omega⟩
  clear hS
  go_step3
  go_upto_region 1 with fail
  go_cut [9] (fun s wx => s = .int .i64 (S : Nat) ∧ wx = W0)
  case first =>
    go_wp2
    all_goals
      go_meet
      exact ⟨by rw [← HS.out]; first | rw [Nat.max_eq_left (by omega)] | rw [Nat.max_eq_right (by omega)], rfl⟩
  case rest =>
    obtain ⟨rfl, rfl⟩ := hcut
    have HMT : Hid (∀ b, matchT ns rs i b = matchF ns rs S i b) := fun b => by unfold matchT; rw [HS.out]
    have hcut : True := trivial
    clear p0 q0
    go_wp2
    go_step3
    go_wp2
    go_loopg [27] bs.length (fun g kv wr => ∃ k : Nat, k + g = bs.length ∧ kv = .int .i64 (k : Int) ∧ Hid (firstI (matchT ns rs i) bs 0 = firstI (matchT ns rs i) (bs.drop k) k) ∧ wr.heap[w.heap.size]? = some (.cells #[.slice A1 ns.length cap1] 29 (0, 0)) ∧ wr.heap[w.heap.size + 1]? = some (.cells #[.slice A2 rs.length cap2] 29 (0, 0)) ∧ Below w.heap.size w wr)
    case atStart => exact ⟨0, by omega, rfl, Lib.hid rfl, h1, h2, HB0.out⟩
    case round =>
      obtain ⟨k, hg, rfl, HF, g1, g2, hbw⟩ := hrel
      have HG := Lib.hid hg
      have HBW := Lib.hid hbw
      clear hg h1 h2 hbw
      by_cases hlt : k < bs.length
      · obtain ⟨b, hbk⟩ : ∃ b, bs[k]? = some b := ⟨_, List.getElem?_eq_getElem hlt⟩
        obtain ⟨g, off, rfl, _, hcc⟩ := HC3.out (by omega)
        have hx := (below_fr0 HBW.out).cell (hcc k b hbk) trivial
        have HBK := Lib.hid hbk
        clear hcc hbk
        go_wp2
        go_loopg [12, 13, 35] S (fun g f t c wx => ∃ (x y : Int) (j : Nat), f = .int .i64 x ∧ t = .int .i64 y ∧ j + g = S ∧ c = .int .i64 (j : Int) ∧ Hid (matchF ns rs S i b = matchF ns rs g x y) ∧ wx.heap[w.heap.size]? = some (.cells #[.slice A1 ns.length cap1] 29 (0, 0)) ∧ wx.heap[w.heap.size + 1]? = some (.cells #[.slice A2 rs.length cap2] 29 (0, 0)) ∧ Below w.heap.size w wx)
        case atStart => exact ⟨i, b, 0, rfl, rfl, by omega, rfl, Lib.hid rfl, g1, g2, HBW.out⟩
        case round =>
          obtain ⟨x, y, j, rfl, rfl, hj, rfl, HX, g1', g2', hbx⟩ := hrel
          have HJ := Lib.hid hj
          have HBX := Lib.hid hbx
          clear hj g1 g2 hbx hx
          cases gk with
          | zero =>
            have hjS : j = S := by have := HJ.out; omega
            subst hjS
            have hMb : matchT ns rs i b = false := by rw [HMT.out, HX.out]; rfl
            have HMB := Lib.hid hMb
            clear hMb
            go_wp2
            go_roundg (bs.length - (k + 1))
            case measure => have := HG.out; omega
            case rel => exact ⟨k + 1, by omega, by go_num, Lib.hid (by rw [HF.out, firstI_no HBK.out HMB.out]), g1', g2', HBX.out⟩
          | succ m =>
            have hjS : j < S := by have := HJ.out; omega
            have hfw := below_fr0 HBX.out
            have hnode := node_q ns _ wr ok (nds_fr hfw (fun _ _ => trivial) HN.out) x
            have hnode2 : ∀ p : Aft wr, Calls Tryz.prog 123 #[.agg #[.slice A2 rs.length cap2], .int .i64 y] p.w (NodeQ p.w ok' (ndAt rs y) (thereB rs y)) := fun p => node_q rs _ p.w ok' (nds_fr (hfw.trans p.fr) (fun _ _ => trivial) HR.out) y
            have HND2 := Lib.hid hnode2
            have p0 := cell_of_row _ _ 0 _ _ _ g1'
            have q0 := cell_of_row _ _ 0 _ _ _ g2'
            have G1 := Lib.hid g1'
            have G2 := Lib.hid g2'
            have HFW := Lib.hid hfw
            clear hnode2 g1' g2' hfw
            obtain ⟨N, hN⟩ : ∃ N, ndAt ns x = N := ⟨_, rfl⟩
            obtain ⟨M, hM⟩ : ∃ M, ndAt rs y = M := ⟨_, rfl⟩
            obtain ⟨tn, htn⟩ : ∃ t, thereB ns x = t := ⟨_, rfl⟩
            obtain ⟨tm, htm⟩ : ∃ t, thereB rs y = t := ⟨_, rfl⟩
            have HX2 : Hid (matchF ns rs S i b = if (tn && tm) = false then false else if listsB N M = true then matchF ns rs m N.items M.items else alikeB N M) := Lib.hid (by rw [HX.out, matchF, hN, hM, htn, htm])
            rw [hN, htn] at hnode
            rw [hM, htm] at HND2
            clear HX hN hM htn htm
            go_upto_region 8 with fail
            go_cut [14, 15] (fun a c wx => c = .bool tn ∧ ∃ (g : Nat) (s2 s3 s4 s8 : Value), a = .pointer (some ⟨g, 0, none⟩) ∧ w.heap.size ≤ g ∧ wx.heap[g]? = some (.cells (nda N s2 s3 s4 s8) 50 (0, 0)) ∧ NdIn wr ok N (ndc N s2 s3 s4 s8) ∧ Below wr.heap.size wr wx)
            case first =>
              go_wp2_with fail
              refine hnode.mono ?_
              rintro e w1 ⟨B2, n2, c2, B3, n3, c3, B4, n4, c4, B8, n8, c8, rfl, hnd, hb1⟩
              have HND := Lib.hid hnd
              have HB1 := Lib.hid hb1
              clear hnd hb1 hnode p0 q0
              go_wp2
              go_meet
              exact ⟨rfl, w1.heap.size, .slice B2 n2 c2, .slice B3 n3 c3, .slice B4 n4 c4, .slice B8 n8 c8, rfl, Nat.le_trans HBX.out.size HB1.out.size, new_at rfl _, HND.out, HB1.out.alloc HB1.out.size _⟩
            case rest =>
              obtain ⟨rfl, gN, s2, s3, s4, s8, rfl, hgN, hbN, hND, hbc⟩ := hcut
              obtain ⟨W1, hW1⟩ : ∃ W, W = wc := ⟨_, rfl⟩
              subst hW1
              have q0 := (below_fr0 hbc).cell q0 trivial
              clear hnode
              have hnode : Calls Tryz.prog 123 #[.agg #[.slice A2 rs.length cap2], .int .i64 y] W1 (NodeQ W1 ok' M tm) := HND2.out ⟨W1, below_fr0 hbc⟩
              have HBC := Lib.hid hbc
              have HBN := Lib.hid hbN
              have HND := Lib.hid hND
              have HGN := Lib.hid hgN
              clear hbc hbN hND hgN
              go_upto_region 9 with fail
              go_cut [16, 17] (fun a c wx => c = .bool tm ∧ ∃ (g : Nat) (t2 t3 t4 t8 : Value), a = .pointer (some ⟨g, 0, none⟩) ∧ W1.heap.size ≤ g ∧ wx.heap[g]? = some (.cells (nda M t2 t3 t4 t8) 50 (0, 0)) ∧ NdIn W1 ok' M (ndc M t2 t3 t4 t8) ∧ Below W1.heap.size W1 wx)
              case first =>
                go_wp2_with fail
                refine hnode.mono ?_
                rintro e w1 ⟨B2, n2, c2, B3, n3, c3, B4, n4, c4, B8, n8, c8, rfl, hnd, hb1⟩
                have HND := Lib.hid hnd
                have HB1 := Lib.hid hb1
                clear hnd hb1 hnode p0 q0
                go_wp2
                go_meet
                exact ⟨rfl, w1.heap.size, .slice B2 n2 c2, .slice B3 n3 c3, .slice B4 n4 c4, .slice B8 n8 c8, rfl, HB1.out.size, new_at rfl _, HND.out, HB1.out.alloc HB1.out.size _⟩
              case rest =>
                obtain ⟨rfl, gM, t2, t3, t4, t8, rfl, hgM, hbM, hMD, hbc2⟩ := hcut
                obtain ⟨W2, hW2⟩ : ∃ W, W = wc := ⟨_, rfl⟩
                subst hW2
                have hfc := below_fr0 hbc2
                have hbN2 := hfc.at HBN.out trivial
                have hb2 : Below w.heap.size w W2 := HBX.out.trans (((HBC.out.trans (hbc2.mono HBC.out.size))).mono HBX.out.size)
                have HB2 := Lib.hid hb2
                have HG1 := Lib.hid (hfc.at ((below_fr0 HBC.out).at G1.out trivial) trivial)
                have HG2 := Lib.hid (hfc.at ((below_fr0 HBC.out).at G2.out trivial) trivial)
                have hL := lists_q N M s2 s3 s4 s8 t2 t3 t4 t8 W2 ok ok' (HND.out.fr ((below_fr0 HBC.out).trans hfc) (fun _ _ => trivial)) (hMD.fr hfc (fun _ _ => trivial))
                have hA : ∀ W, Fr W2 W (fun _ => True) → Calls Tryz.prog 149 #[.agg #[.int .i64 N.kind, .string N.name, s2, s3, s4, .bool N.has, .string N.dflt, .int .i64 N.items, s8, .int .i64 N.size], .agg #[.int .i64 M.kind, .string M.name, t2, t3, t4, .bool M.has, .string M.dflt, .int .i64 M.items, t8, .int .i64 M.size]] W (fun e w' => e = .returned (.bool (alikeB N M)) ∧ Below W.heap.size W w') := fun W hW => alike_r N M s2 s3 s4 s8 t2 t3 t4 t8 W ok ok' (HND.out.fr (((below_fr0 HBC.out).trans hfc).trans hW) (fun _ _ => trivial)) (hMD.fr (hfc.trans hW) (fun _ _ => trivial))
                have HA := Lib.hid hA
                have a0 := cell_of_row _ _ 0 _ _ _ hbN2
                have b0 := cell_of_row _ _ 0 _ _ _ hbM
                have a1 := cell_of_row _ _ 1 _ _ _ hbN2
                have b1 := cell_of_row _ _ 1 _ _ _ hbM
                have a2 := cell_of_row _ _ 2 _ _ _ hbN2
                have b2 := cell_of_row _ _ 2 _ _ _ hbM
                have a3 := cell_of_row _ _ 3 _ _ _ hbN2
                have b3 := cell_of_row _ _ 3 _ _ _ hbM
                have a4 := cell_of_row _ _ 4 _ _ _ hbN2
                have b4 := cell_of_row _ _ 4 _ _ _ hbM
                have a5 := cell_of_row _ _ 5 _ _ _ hbN2
                have b5 := cell_of_row _ _ 5 _ _ _ hbM
                have a6 := cell_of_row _ _ 6 _ _ _ hbN2
                have b6 := cell_of_row _ _ 6 _ _ _ hbM
                have a7 := cell_of_row _ _ 7 _ _ _ hbN2
                have b7 := cell_of_row _ _ 7 _ _ _ hbM
                have a8 := cell_of_row _ _ 8 _ _ _ hbN2
                have b8 := cell_of_row _ _ 8 _ _ _ hbM
                have a9 := cell_of_row _ _ 9 _ _ _ hbN2
                have b9 := cell_of_row _ _ 9 _ _ _ hbM
                have HBN2 := Lib.hid hbN2
                have HBM := Lib.hid hbM
                clear hA hbN2 hbM hMD hgM hb2 hbc2 hfc hnode q0
                cases tn with
                | false =>
                  have hMb : matchT ns rs i b = false := by rw [HMT.out, HX2.out, if_pos (by rfl)]
                  have HMB := Lib.hid hMb
                  clear hMb hL a0 a1 a2 a3 a4 a5 a6 a7 a8 a9 b0 b1 b2 b3 b4 b5 b6 b7 b8 b9
                  go_wp2
                  go_roundg (bs.length - (k + 1))
                  case measure => have := HG.out; omega
                  case rel => exact ⟨k + 1, by omega, by go_num, Lib.hid (by rw [HF.out, firstI_no HBK.out HMB.out]), HG1.out, HG2.out, HB2.out⟩
                | true =>
                  cases tm with
                  | false =>
                    have hMb : matchT ns rs i b = false := by rw [HMT.out, HX2.out, if_pos (by rfl)]
                    have HMB := Lib.hid hMb
                    clear hMb hL a0 a1 a2 a3 a4 a5 a6 a7 a8 a9 b0 b1 b2 b3 b4 b5 b6 b7 b8 b9
                    go_wp2
                    go_roundg (bs.length - (k + 1))
                    case measure => have := HG.out; omega
                    case rel => exact ⟨k + 1, by omega, by go_num, Lib.hid (by rw [HF.out, firstI_no HBK.out HMB.out]), HG1.out, HG2.out, HB2.out⟩
                  | true =>
                    have HX3 : Hid (matchF ns rs S i b = if listsB N M = true then matchF ns rs m N.items M.items else alikeB N M) := Lib.hid (by rw [HX2.out, if_neg (by simp)])
                    clear HX2
                    go_wp2_with fail
                    refine hL.mono ?_
                    rintro e W3 ⟨rfl, hb3⟩
                    have hf3 := below_fr0 hb3
                    have HB3 := Lib.hid (HB2.out.trans (hb3.mono HB2.out.size))
                    have HG13 := Lib.hid (hf3.at HG1.out trivial)
                    have HG23 := Lib.hid (hf3.at HG2.out trivial)
                    have hbN3 := hf3.at HBN2.out trivial
                    have hbM3 := hf3.at HBM.out trivial
                    have hA := HA.out W3 hf3
                    clear a0 a1 a2 a3 a4 a5 a6 a7 a8 a9 b0 b1 b2 b3 b4 b5 b6 b7 b8 b9 hL hb3 hf3
                    cases hll : listsB N M with
                    | true =>
                      have a7 := cell_of_row _ _ 7 _ _ _ hbN3
                      have b7 := cell_of_row _ _ 7 _ _ _ hbM3
                      have HX4 : Hid (matchF ns rs S i b = matchF ns rs m N.items M.items) := Lib.hid (by rw [HX3.out, if_pos hll])
                      clear hA HA hll hbN3 hbM3
                      go_wp2
                      go_quiet (fail)
                      go_wp2
                      go_roundg m
                      case measure => omega
                      case rel => exact ⟨N.items, M.items, j + 1, rfl, rfl, by have := HJ.out; omega, by go_num, HX4, HG13.out, HG23.out, ⟨HB3.out.os, HB3.out.tape, HB3.out.output, HB3.out.size, HB3.out.block⟩⟩
                    | false =>
                      have HX4 : Hid (matchF ns rs S i b = alikeB N M) := Lib.hid (by rw [HX3.out, if_neg (by rw [hll]; simp)])
                      clear HX3 HA hll
                      have a0 := cell_of_row _ _ 0 _ _ _ hbN3
                      have b0 := cell_of_row _ _ 0 _ _ _ hbM3
                      have a1 := cell_of_row _ _ 1 _ _ _ hbN3
                      have b1 := cell_of_row _ _ 1 _ _ _ hbM3
                      have a2 := cell_of_row _ _ 2 _ _ _ hbN3
                      have b2 := cell_of_row _ _ 2 _ _ _ hbM3
                      have a3 := cell_of_row _ _ 3 _ _ _ hbN3
                      have b3 := cell_of_row _ _ 3 _ _ _ hbM3
                      have a4 := cell_of_row _ _ 4 _ _ _ hbN3
                      have b4 := cell_of_row _ _ 4 _ _ _ hbM3
                      have a5 := cell_of_row _ _ 5 _ _ _ hbN3
                      have b5 := cell_of_row _ _ 5 _ _ _ hbM3
                      have a6 := cell_of_row _ _ 6 _ _ _ hbN3
                      have b6 := cell_of_row _ _ 6 _ _ _ hbM3
                      have a7 := cell_of_row _ _ 7 _ _ _ hbN3
                      have b7 := cell_of_row _ _ 7 _ _ _ hbM3
                      have a8 := cell_of_row _ _ 8 _ _ _ hbN3
                      have b8 := cell_of_row _ _ 8 _ _ _ hbM3
                      have a9 := cell_of_row _ _ 9 _ _ _ hbN3
                      have b9 := cell_of_row _ _ 9 _ _ _ hbM3
                      clear hbN3 hbM3
                      go_wp2_with fail
                      refine hA.mono ?_
                      rintro e W4 ⟨rfl, hb4⟩
                      have hf4 := below_fr0 hb4
                      have HB4 := Lib.hid (HB3.out.trans (hb4.mono HB3.out.size))
                      have HG14 := Lib.hid (hf4.at HG13.out trivial)
                      have HG24 := Lib.hid (hf4.at HG23.out trivial)
                      clear hA hb4 hf4 a0 a1 a2 a3 a4 a5 a6 a7 a8 a9 b0 b1 b2 b3 b4 b5 b6 b7 b8 b9
                      cases hal : alikeB N M with
                      | true =>
                        have HMB : Hid (matchT ns rs i b = true) := Lib.hid (by rw [HMT.out, HX4.out, hal])
                        clear hal
                        go_wp2
                        rw [Exit.noGoto_ret]
                        go_ret
                        exact ⟨by rw [HF.out, firstI_yes HBK.out HMB.out]; rfl, HB4.out⟩
                      | false =>
                        have HMB : Hid (matchT ns rs i b = false) := Lib.hid (by rw [HMT.out, HX4.out, hal])
                        clear hal
                        go_wp2
                        go_roundg (bs.length - (k + 1))
                        case measure => have := HG.out; omega
                        case rel => exact ⟨k + 1, by omega, by go_num, Lib.hid (by rw [HF.out, firstI_no HBK.out HMB.out]), HG14.out, HG24.out, HB4.out⟩
      · have hk := HG.out
        go_wp2
        rw [Exit.noGoto_ret]
        go_ret
        exact ⟨by rw [HF.out, firstI_end (by omega)]; rfl, HBW.out⟩
set_option maxHeartbeats 1000000 in
theorem types_any (ns rs : List Nd) (vs us : Value) (i k : Int) (w : World) (ok ok' : Nat → Prop) (hk : (Lit.int .i64 k).wf = true) (hn : NdsAt w ok ns vs) (hr : NdsAt w ok' rs us) :
    Calls Tryz.prog 85 #[.agg #[vs], .int .i64 i, .agg #[us], .int .i64 k] w fun e w' => e = .returned (.bool (matchT ns rs i k)) ∧ Below w.heap.size w w' := by
  have hb0 : Below w.heap.size w (twoS w vs us) := ((Below.refl _ w).alloc (Nat.le_refl _) _).alloc (by simp) _
  have h1 : (twoS w vs us).heap[w.heap.size]? = some (.cells #[vs] 29 (0, 0)) := old_at _ (new_at rfl _)
  have h2 : (twoS w vs us).heap[w.heap.size + 1]? = some (.cells #[us] 29 (0, 0)) := new_at (by simp) _
  have hF : ∀ W, Below w.heap.size w W → ∀ b, W.cell? ⟨b, 0, none⟩ = some (.int .i64 k) → Calls Tryz.prog 122 #[.agg #[vs], .int .i64 i, .agg #[us], .slice (some ⟨b, 0, none⟩) 1 1] W fun e w' => e = .returned (.int .i64 (firstI (matchT ns rs i) [k] 0)) ∧ Below W.heap.size W w' := fun W hW b hb =>
    first_any ns rs vs us i [k] _ W ok ok' (fun _ => True) (nds_fr (below_fr0 hW) (fun _ _ => trivial) hn) (nds_fr (below_fr0 hW) (fun _ _ => trivial) hr)
      ⟨some ⟨b, 0, none⟩, 1, rfl, Nat.le_refl _, by decide, fun x hx => by simp at hx; rw [hx]; exact hk, fun _ => ⟨b, 0, rfl, trivial, fun j x hj => by
        rcases j with _ | j
        · simp only [List.getElem?_cons_zero, Option.some.injEq] at hj
          rw [← hj]; exact hb
        · simp at hj⟩⟩
  have HFI : Hid (∀ R, firstI (matchT ns rs i) [k] 0 = R → (!(R == -1)) = matchT ns rs i k) := fun R h => by
    rw [← h]
    cases hm : matchT ns rs i k with
    | true => rw [firstI, if_pos hm]; rfl
    | false => rw [firstI, if_neg (by rw [hm]; simp)]; rfl
  have HF := Lib.hid hF
  have HB0 := Lib.hid hb0
  clear hF hb0 hn hr hk
  obtain ⟨R, hR⟩ : ∃ R, firstI (matchT ns rs i) [k] 0 = R := ⟨_, rfl⟩
  have HR := Lib.hid hR
  rw [hR] at HF
  clear hR
  go_enter Tryz.func85, Tryz.ntmps85
  go_upto_region 1 with fail
  change Code.wp _ _ _ _ (twoS w _ _)
  generalize twoS w vs us = W0 at *
  have p0 := cell_of_row _ _ 0 _ _ _ h1
  have q0 := cell_of_row _ _ 0 _ _ _ h2
  clear h1 h2
  go_wp2_with fail
  refine (HF.out _ (HB0.out.alloc HB0.out.size _) W0.heap.size (cell_of_row _ _ 0 _ _ _ (new_at rfl _))).mono ?_
  rintro e w1 ⟨rfl, hb1⟩
  have HB1 : Hid (Below w.heap.size w w1) := Lib.hid ((HB0.out.alloc HB0.out.size (.cells #[.int .i64 k] 3)).trans (hb1.mono (by have := HB0.out.size; simp; omega)))
  clear hb1
  go_wp2
  go_ret
  exact ⟨by rw [← HFI.out R HR.out]; rfl, HB1.out⟩
/-- The place of the first branch of a union that matches. -/
def branchM (ns rs : List Nd) (i k : Int) : Int := if (thereB rs k && (ndAt rs k).kind == 13) = true then firstI (matchT ns rs i) (ndAt rs k).br 0 else -1
set_option maxHeartbeats 1000000 in
set_option maxRecDepth 100000 in
theorem branch_any (ns rs : List Nd) (vs us : Value) (i k : Int) (w : World) (ok ok' : Nat → Prop) (hn : NdsAt w ok ns vs) (hr : NdsAt w ok' rs us) :
    Calls Tryz.prog 86 #[.agg #[vs], .int .i64 i, .agg #[us], .int .i64 k] w fun e w' => e = .returned (.int .i64 (branchM ns rs i k)) ∧ Below w.heap.size w w' := by
  have hb0 : Below w.heap.size w (twoS w vs us) := ((Below.refl _ w).alloc (Nat.le_refl _) _).alloc (by simp) _
  have h1 : (twoS w vs us).heap[w.heap.size]? = some (.cells #[vs] 29 (0, 0)) := old_at _ (new_at rfl _)
  have h2 : (twoS w vs us).heap[w.heap.size + 1]? = some (.cells #[us] 29 (0, 0)) := new_at (by simp) _
  have hnode := node_q rs us (twoS w vs us) ok' (nds_fr (below_fr0 hb0) (fun _ _ => trivial) hr) k
  have HN := Lib.hid hn
  have HR := Lib.hid hr
  obtain ⟨M, hM⟩ : ∃ M, ndAt rs k = M := ⟨_, rfl⟩
  obtain ⟨t, ht⟩ : ∃ t, thereB rs k = t := ⟨_, rfl⟩
  have HBR : Hid (branchM ns rs i k = if (t && M.kind == 13) = true then firstI (matchT ns rs i) M.br 0 else -1) := Lib.hid (by rw [branchM, hM, ht])
  rw [hM, ht] at hnode
  have HB0 := Lib.hid hb0
  clear hb0 hn hr hM ht
  go_enter Tryz.func86, Tryz.ntmps86
  go_upto_region 1 with fail
  change Code.wp _ _ _ _ (twoS w _ _)
  generalize twoS w vs us = W0 at *
  have p0 := cell_of_row _ _ 0 _ _ _ h1
  have q0 := cell_of_row _ _ 0 _ _ _ h2
  go_wp2_with fail
  refine hnode.mono ?_
  rintro e w1 ⟨B2, n2, c2, B3, n3, c3, B4, n4, c4, B8, n8, c8, rfl, hnd, hb1⟩
  have p0a : ∀ o, (w1.alloc o).cell? ⟨w.heap.size, 0, none⟩ = some vs := fun o => (below_fr0 ((Below.refl _ w1).alloc (Nat.le_refl _) o)).cell ((below_fr0 hb1).cell p0 trivial) trivial
  have q0a : ∀ o, (w1.alloc o).cell? ⟨w.heap.size + 1, 0, none⟩ = some us := fun o => (below_fr0 ((Below.refl _ w1).alloc (Nat.le_refl _) o)).cell ((below_fr0 hb1).cell q0 trivial) trivial
  clear p0 q0
  have HB1 := Lib.hid (HB0.out.trans (hb1.mono HB0.out.size))
  have hbr := hnd.br
  have HF : Hid (∀ W, Fr w1 W (fun _ => True) → Calls Tryz.prog 122 #[.agg #[vs], .int .i64 i, .agg #[us], .slice B8 n8 c8] W (fun e w' => e = .returned (.int .i64 (firstI (matchT ns rs i) M.br 0)) ∧ Below W.heap.size W w')) := Lib.hid fun W hW =>
    have hw := (below_fr0 HB1.out).trans hW
    first_any ns rs vs us i M.br _ W ok ok' ok' (nds_fr hw (fun _ _ => trivial) HN.out) (nds_fr hw (fun _ _ => trivial) HR.out) (hbr.fr ((below_fr0 hb1).trans hW) (fun _ _ => trivial))
  obtain ⟨R, hR⟩ : ∃ R, firstI (matchT ns rs i) M.br 0 = R := ⟨_, rfl⟩
  rw [hR] at HF HBR
  clear hnode hb1 hnd hbr h1 h2 hR
  cases t with
  | false =>
    go_wp2
    go_ret
    exact ⟨by rw [HBR.out]; rfl, HB1.out.alloc (by have := HB1.out.size; omega) _⟩
  | true =>
    cases hk : (M.kind == 13) with
    | false =>
      have hk' : (M.kind != 13) = true := by unfold bne; rw [hk]; rfl
      have HK := Lib.hid hk
      clear hk
      go_wp2
      go_ret
      exact ⟨by rw [HBR.out, HK.out]; rfl, HB1.out.alloc (by have := HB1.out.size; omega) _⟩
    | true =>
      have hk' : (M.kind != 13) = false := by unfold bne; rw [hk]; rfl
      have HK := Lib.hid hk
      clear hk
      go_wp2_with fail
      refine (HF.out _ (below_fr0 ((Below.refl _ w1).alloc (Nat.le_refl _) _))).mono ?_
      rintro e w2 ⟨rfl, hb2⟩
      have HB2 := Lib.hid hb2
      clear hb2 p0a q0a
      go_wp2
      go_ret
      refine ⟨by rw [HBR.out, HK.out]; rfl, (HB1.out.alloc (by have := HB1.out.size; omega) _).trans (HB2.out.mono ?_)⟩
      have := HB1.out.size
      simp
      omega
end Go.Proofs.YtcmillbjpplfjaaGreatDoor
