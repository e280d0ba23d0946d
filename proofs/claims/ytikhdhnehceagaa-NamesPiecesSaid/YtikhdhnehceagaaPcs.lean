/-
  'pieces' of the program, and its function value.
-/
import Derived.Test.YtikhdhnehceagaaRng
namespace Go.Proofs.Ytikhdhnehceagaa
open Go.RowKit Go.Shelf
attribute [local go_sem] Oper.semAt_some

def encP (x : Bs) : Array Value := #[.string (str x)]
theorem pcs_len (l : Bs) : ∀ x, x ∈ pcs l → x.length ≤ l.length := by
  induction l with
  | nil => intro x hx; simp [pcs] at hx; simp [hx]
  | cons c r ih =>
    intro x hx
    rw [pcs] at hx
    split at hx
    · rcases List.mem_cons.1 hx with rfl | h
      · simp
      · have := ih x h; simp; omega
    · split at hx
      · rename_i p ps hp
        rcases List.mem_cons.1 hx with rfl | h
        · have := ih p (by rw [hp]; simp); simp; omega
        · have := ih x (by rw [hp]; simp [h]); simp; omega
      · rename_i hp; exact absurd hp (pcs_ne r)
theorem drewN_grown (w : World) (n : Nat) : w.grownBy (w.drewN n) none := ⟨rfl, rfl, rfl, Nat.le_refl _, fun _ _ _ => rfl⟩
set_option maxHeartbeats 1000000 in
theorem pieces_call (n : Nat) (s : ByteArray) (w : World) :
    CallsIn Fence.wide n Try.prog 24 #[.string s] w fun e w' => e = .returned (.func (.func 29) #[] #[.pointer (some ⟨w.heap.size, 0, none⟩)]) ∧ w' = w.alloc (.cells #[.string s] 9) := by
  refine callsIn_of_wp Try.func24 rfl trivial ?_ rfl
  simp only [Try.ntmps24, List.size_toArray, List.length_cons, List.length_nil, Nat.reduceAdd, Nat.reduceSub, Array.replicate_succ, Array.replicate_zero, List.push_toArray, List.append_toArray, List.nil_append, List.cons_append]
  gi_wp2
  go_ret
  exact ⟨rfl, rfl⟩
theorem cut_len {r a b : Bs} {f : Bool} (h : CutP r a b f) : b.length ≤ r.length := by
  cases f with
  | true => rw [(h.yes rfl).1]; simp; omega
  | false => rw [(h.no rfl).2.1]; simp
def restP (m : Bool) (r : Bs) : List Bs := if m then pcs r else []
theorem cut_rest {r a b : Bs} {f : Bool} (h : CutP r a b f) : pcs r = a :: restP f b := by
  cases f with
  | true => obtain ⟨h1, h2⟩ := h.yes rfl; rw [h1, pcs_point a b h2]; rfl
  | false => obtain ⟨h1, h2, h3⟩ := h.no rfl; rw [h1, pcs_none r h3]; rfl
theorem cut_less {r a b : Bs} {f : Bool} (h : CutP r a b f) : (if f then b.length + 1 else 0) < r.length + 1 := by
  cases f with
  | true => rw [(h.yes rfl).1]; simp; omega
  | false => simp
theorem lt_of_lt_eq {a b c : Nat} (h : a < b) (e : c = b) : a < c := e ▸ h
def PRel (xs : List Bs) (J : List Bs → World → Prop) (g : Nat) (vr vm : Value) (wr : World) : Prop :=
  ∃ (pre : List Bs) (r : Bs) (m : Bool), vr = .string (str r) ∧ vm = .bool m ∧ Hid (xs = pre ++ restP m r) ∧ J pre wr ∧ r.length ≤ 1000000 ∧ Hid (g = if m then r.length + 1 else 0)
set_option maxRecDepth 100000 in
set_option maxHeartbeats 4000000 in
theorem pieces_it (n : Nat) (hn : 1 ≤ n) (Bv : Nat) (l0 : Bs) (w : World) (hB : Bv < w.heap.size) (hbox : w.heap[Bv]? = some (.cells #[.string (str l0)] 9 (0, 0))) (hlen : l0.length ≤ 1000000) :
    ItC Fence.wide n Try.prog 29 #[.pointer (some ⟨Bv, 0, none⟩)] encP (pcs l0) w := by
  intro l J Jx W hW hl hwl hJ hJx hY h0
  have hbx : W.heap[Bv]? = some (.cells #[.string (str l0)] 9 (0, 0)) := (hW.block Bv hB).trans hbox
  have c0 : W.cell? ⟨Bv, 0, none⟩ = some (.string (str l0)) := by rw [cell_of_row _ _ _ _ _ _ hbx]; rfl
  refine callsIn_of_wp Try.func29 rfl trivial ?_ rfl
  simp only [Try.ntmps29, List.size_toArray, List.length_cons, List.length_nil, Nat.reduceAdd, Nat.reduceSub, Array.replicate_succ, Array.replicate_zero, List.push_toArray, List.append_toArray, List.nil_append, List.cons_append]
  have HY := Lib.hid hY
  have HJ := Lib.hid hJ
  have HJx := Lib.hid hJx
  clear hY hJ hJx hbx
  gi_wp2
  clear c0
  gi_loopg [3, 4] (l0.length + 1) (fun g vr vm wr => PRel (pcs l0) J g vr vm wr)
  case atStart => exact ⟨[], l0, true, rfl, rfl, rfl, h0, hlen, rfl⟩
  case round =>
    obtain ⟨pre, r, m, rfl, rfl, HX, hj, hrl, HG⟩ := hrel
    cases m with
    | false =>
      gi_wp2
      go_end0
      refine ⟨⟨_, rfl⟩, .inl ?_⟩
      have := HX.out
      rw [restP, if_neg (by simp), List.append_nil] at this
      rw [this]; exact hj
    | true =>
      have hcut := cut_any r wr hrl
      gi_wp2_with (
        refine ⟨trivial, ?_⟩
        gi_at_call 30
        refine (callsIn_wide.2 hcut).mono ?_
        rintro e w5 ⟨a, b, f, rfl, hp, nn, rfl⟩
        have hj1 : J pre (wr.drewN nn) := HJ.out _ _ _ none hj (drewN_grown wr nn) (fun r e => by cases e)
        have hx : pcs l0 = pre ++ a :: restP f b := (by rw [HX.out, ← cut_rest hp]; rfl)
        obtain ⟨fn, tmps, assign, body, hy, hR⟩ := HY.out pre a _ _ hj1 hx
        have hbl : b.length ≤ 1000000 := Nat.le_trans (cut_len hp) hrl
        have HM : Hid ((if f then b.length + 1 else 0) < gk) := lt_of_lt_eq (cut_less hp) HG.out
        have HX2 : Hid (pcs l0 = (pre ++ [a]) ++ restP f b) := hx.trans (by simp)
        have HRd := Lib.hid hR
        clear hR hx hcut hp HX HG
        simp only [encP] at hy)
      refine HRd.out.mono ?_
      rintro e W3 (⟨rfl, hJ3, hk3⟩ | ⟨rfl, hJx3⟩)
      · gi_wp2
        gi_roundg (if f then b.length + 1 else 0)
        case measure => exact HM.out
        case rel => exact ⟨pre ++ [a], b, f, rfl, rfl, HX2, hJ3, hbl, rfl⟩
      · gi_wp2
        refine bodyPost_ret (results_none rfl _ _ _) rfl ?_
        exact ⟨⟨_, rfl⟩, .inr ⟨pre ++ [a], restP f b, HX2.out, hJx3⟩⟩
end Go.Proofs.Ytikhdhnehceagaa
