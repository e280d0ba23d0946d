/-
  A region that draws its order, inside a round of a range over a function: walked once, in the text's order, where its operations only read (its callees may lay blocks of their own), or read and then do the rest one behind the other.
-/
import Derived.Test.YtpajccehkcgoaaaDoorRgw
import Derived.OrdersHeld
import Derived.OrdersIn
import Derived.StillTail
import Derived.Deep.Quiet
import Derived.Deep.QuietTactic
namespace Go.Proofs.YtpajccehkcgoaaaDoor
open Go

theorem rows_in_wide {n l : Nat} {P : Program} {row : String} {args : Array Value} {w : World} {R : Value → World → Prop} (h : Rows P row args w R) : RowsIn (Fence.wide.inRound l) n P row args w R :=
  fun c cs _ => let ⟨v, w', r, s⟩ := h c cs; ⟨v, w', r, stepsIn_wide.2 s⟩
theorem upon_in_round {P : Program} {o : Oper} {a : Act} {w : World} {l n : Nat} {K : Act → World → Prop} {Q : Exit → Act → World → Prop} (hnd : ∀ c, o.op ≠ .defer c) (h : o.wp P a w K Q) : o.wpIn (Fence.wide.inRound l) n P a w K Q := by
  unfold Oper.wpIn
  refine ⟨fun f _ => trivial, ?_⟩
  have hs : o.semAt (Fence.wide.inRound l).round a.eval = execOp a.eval o := Oper.semAt_some l _ _ hnd
  rw [hs]
  unfold Oper.wp at h
  generalize (execOp a.eval o).run P w = r at h
  cases r with
  | ok x w' =>
    have hdep : (Fence.wide.inRound l).depth.isSome = true → 1 ≤ n := fun e => by simp [Fence.wide] at e
    cases x with
    | value v => exact h
    | skip => exact h
    | defer d => exact h
    | enter f args => exact ⟨hdep, (CallsIn.inRound l (callsIn_wide.2 h)).mono (fun e w'' he => by cases e <;> exact he)⟩
    | row row args => exact ⟨hdep, rows_in_wide h⟩
    | _ => exact False.elim h
  | halt x w' => cases x <;> simp only [Oper.upon, Oper.uponIn] at h ⊢ <;> exact h
theorem any_in_round {P : Program} {md : Region.Mode} {ops : Array Oper} {Q : Exit → Act → World → Prop} {l n : Nat} (hQ : ¬ LetsOut Q) (hnd : ∀ (i : Nat) (o : Oper), ops[i]? = some o → ∀ c, o.op ≠ .defer c) : ∀ (fuel : Nat) (listed : Array Bool) (a : Act) (w : World),
    wpAny P md ops Q fuel listed a w → wpAnyIn (Fence.wide.inRound l) n P md ops Q fuel listed a w
  | 0, _, _, _, h => h
  | fuel + 1, listed, a, w, h => by
    refine ⟨h.1, fun i hi => ?_⟩
    have h1 := h.2 i hi
    unfold wpOpIn
    unfold wpOp at h1
    cases ho : ops[i]? with
    | none =>
      rw [ho] at h1
      exact any_in_round hQ hnd fuel _ _ _ h1
    | some o =>
      rw [ho] at h1
      simp only at h1 ⊢
      split
      · rename_i hw
        rw [if_pos hw] at h1
        exact Oper.wpIn_mono (fun a w hh => any_in_round hQ hnd fuel _ _ _ hh) (upon_in_round (hnd i o ho) (h1.resolve_right (fun h => hQ h.2)))
      · rename_i hw
        rw [if_neg hw] at h1
        exact ⟨fun f _ => trivial, any_in_round hQ hnd fuel _ _ _ h1⟩
/-- No operation is a defer. -/
def noDefer (l : List Oper) : Bool := l.all fun o => match o.op with | .defer _ => false | _ => true
theorem noDefer_spec {l : List Oper} (h : noDefer l = true) (i : Nat) (o : Oper) (ho : l.toArray[i]? = some o) : ∀ c, o.op ≠ .defer c := by
  intro c e
  rw [List.getElem?_toArray] at ho
  have := List.all_eq_true.1 h o (List.mem_of_getElem? ho)
  rw [e] at this
  cases this
/-- Operations that only read; callees that leave the class. -/
theorem rin_quiet {P : Program} {l : List Oper} {Q : Exit → Act → World → Prop} {lr n id : Nat} {a : Act} {w : World} (C : World → Prop) (hm : P.follows .mixedOrders = true) (hB : Region.lexB .any l.toArray = true) (hd : noDefer l = true) (hQ : ¬ LetsOut Q) (hC : C w.drew)
    (h : wpQuiet P l.toArray C (fun a' => ∀ w', C w' → Q .normal a' w') l a) : (Code.region id l.toArray true).wpIn (Fence.wide.inRound lr) n P Q a w := by
  simp only [Region.lexB, Bool.and_eq_true] at hB
  refine wpIn_region_any hm (any_in_round hQ (noDefer_spec hd) _ _ _ _ ?_)
  refine wpAny_of_quiet (Q := fun a' => ∀ w', C w' → Q .normal a' w') (fun _ w' hw' h => h w' hw') _ _ _ _ hC ?_
  have := wpAnyQ_lex (C := C) (md := .any) hB.1 l 0 (Array.replicate l.toArray.size false) a (by simp) (by simpa using hB.2) h
  simpa using this
/-- Operations that only read, then the rest, which stand one behind the other. -/
theorem rin_tail {P : Program} {l : List Oper} {Q : Exit → Act → World → Prop} {lr m id : Nat} {a : Act} {w : World} (n : Nat) (hm : P.follows .mixedOrders = true) (hB : Region.lexTailB .any l.toArray n = true) (hd : noDefer l = true) (hQ : ¬ LetsOut Q)
    (h : wpStill P l.toArray w.drew (fun a' => wpList P l.toArray Q (l.drop n) a' w.drew) (l.take n) a) : (Code.region id l.toArray true).wpIn (Fence.wide.inRound lr) m P Q a w := by
  refine wpIn_region_any hm (any_in_round hQ (noDefer_spec hd) _ _ _ _ ?_)
  have hB' := hB
  unfold Region.lexTailB at hB'
  simp only [Bool.and_eq_true, decide_eq_true_eq, List.size_toArray] at hB'
  have hn : n < l.length := hB'.1.1.1.2
  have hlen : (l.take n).length = n := List.length_take_of_le (Nat.le_of_lt hn)
  have hrest : (l.drop n).length = l.length - n := List.length_drop
  have start : HeadInv .any l.toArray n (Array.replicate l.length false) :=
    ⟨by simp, fun j _ _ hl => absurd hl (by rw [getD_replicate_false]; simp), fun t _ ht => getD_in (by simpa using ht) (getD_replicate_false _ _)⟩
  have head := wpAnyL_lex (w := w.drew) (md := .any) (g := l.length - n) hB'.1.1.1.1 hB'.1.1.2 hB'.1.2 (by simpa using hn) (l.take n) 0 (Array.replicate l.length false) a
    (fun j hj => by rw [hlen] at hj; simp [hj]) (by omega) start (by rw [hlen]; exact hB'.2) h
  have all := wpAny_of_head (Q' := Q) (g := l.length - n) (fun L b hb => by
    have := wpAny_of_seq (md := .any) (Q' := Q) (l.drop n) n L b w.drew (fun j => by simp [List.getElem?_drop]) (by rw [hrest]; simpa using hb.1) hb.2
    rwa [hrest] at this) _ _ _ head
  rw [hlen] at all
  have e : n + (l.length - n) = l.toArray.size := by simp; omega
  rw [e] at all
  simpa using all
/-- The same outside a round. -/
theorem reg_quiet {P : Program} {l : List Oper} {Q : Exit → Act → World → Prop} {id : Nat} {a : Act} {w : World} (C : World → Prop) (hm : P.follows .mixedOrders = true) (hB : Region.lexB .any l.toArray = true) (hC : C w.drew)
    (h : wpQuiet P l.toArray C (fun a' => ∀ w', C w' → Q .normal a' w') l a) : (Code.region id l.toArray true).wp P Q a w :=
  wp_region_quiet hm hB hC (by simpa using h)
/-- A world behind another one: what was there is there. -/
structure Aft (W : World) where
  w : World
  fr : Fr W w (fun _ => True)
instance (W : World) : Inhabited (Aft W) := ⟨⟨W, Fr.refl W _⟩⟩
theorem rin_aft {P : Program} {l : List Oper} {Q : Exit → Act → World → Prop} {lr n id : Nat} {a : Act} {w : World} (hm : P.follows .mixedOrders = true) (hB : Region.lexB .any l.toArray = true) (hd : noDefer l = true) (hQ : ¬ LetsOut Q)
    (h : wpQuiet P l.toArray (fun w' => ∃ p : Aft w, w' = p.w) (fun a' => ∀ p : Aft w, Q .normal a' p.w) l a) : (Code.region id l.toArray true).wpIn (Fence.wide.inRound lr) n P Q a w :=
  rin_quiet (fun w' => ∃ p : Aft w, w' = p.w) hm hB hd hQ ⟨⟨w.drew, (Fr.refl w _).drewN 1⟩, rfl⟩ (by
    have e : (fun a' => ∀ w', (∃ p : Aft w, w' = p.w) → Q .normal a' w') = fun a' => ∀ p : Aft w, Q .normal a' p.w := by
      funext a'
      exact propext ⟨fun h p => h _ ⟨p, rfl⟩, fun h w' ⟨p, e⟩ => by rw [e]; exact h p⟩
    rw [e]
    exact h)
theorem reg_aft {P : Program} {l : List Oper} {Q : Exit → Act → World → Prop} {id : Nat} {a : Act} {w : World} (hm : P.follows .mixedOrders = true) (hB : Region.lexB .any l.toArray = true)
    (h : wpQuiet P l.toArray (fun w' => ∃ p : Aft w, w' = p.w) (fun a' => ∀ p : Aft w, Q .normal a' p.w) l a) : (Code.region id l.toArray true).wp P Q a w :=
  reg_quiet (fun w' => ∃ p : Aft w, w' = p.w) hm hB ⟨⟨w.drew, (Fr.refl w _).drewN 1⟩, rfl⟩ (by
    have e : (fun a' => ∀ w', (∃ p : Aft w, w' = p.w) → Q .normal a' w') = fun a' => ∀ p : Aft w, Q .normal a' p.w := by
      funext a'
      exact propext ⟨fun h p => h _ ⟨p, rfl⟩, fun h w' ⟨p, e⟩ => by rw [e]; exact h p⟩
    rw [e]
    exact h)
theorem aft_call {P : Program} {W : World} {f : FuncId} {args : Array Value} {p : Aft W} {v : Value} (h : Calls P f args p.w fun e w' => e = .returned v ∧ Fr p.w w' (fun _ => True)) : Calls P f args p.w fun e w'' => e = .returned v ∧ ∃ q : Aft W, w'' = q.w :=
  h.mono fun _ w'' ⟨he, hf⟩ => ⟨he, ⟨⟨w'', p.fr.trans hf⟩, rfl⟩⟩
end Go.Proofs.YtpajccehkcgoaaaDoor
