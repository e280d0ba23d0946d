/-
  Plain: which nodes of any nodes are live: by rounds of steps that wait for each other, and by ranks, round by round.
-/
import Derived.Test.YtpajccehkcgoaaaDoorProg
namespace Go.Proofs.YtpajccehkcgoaaaDoor
namespace Lv

/-- Plain: a node's kind, its fields' types, its branches. -/
structure N where
  k : Int
  ft : List Int
  br : List Int

abbrev nv : Int := 9223372036854775807

structure St where
  rk : Nat → Int
  wt : Nat → List (Nat × Nat)

def upd {α : Type} (f : Nat → α) (i : Nat) (v : α) : Nat → α := fun j => if j = i then v else f j
theorem upd_same {α : Type} (f : Nat → α) (i : Nat) (v : α) : upd f i v i = v := by simp [upd]
theorem upd_ne {α : Type} (f : Nat → α) {i j : Nat} (v : α) (h : j ≠ i) : upd f i v j = f j := by simp [upd, h]

/-- Plain: 'asked'. -/
def askM (n : Nat) (rank : Int) (x : Nat × Nat) (a : Int) (s : St) : Bool × St :=
  if 0 ≤ a ∧ a < n then
    if s.rk a.toNat < rank then (true, s) else (false, ⟨s.rk, upd s.wt a.toNat (s.wt a.toNat ++ [x])⟩)
  else (false, s)
/-- Plain: 'some', from a part on. -/
def someM (n : Nat) (rank : Int) (node : Nat) : Nat → List Int → St → Bool × St
  | _, [], s => (false, s)
  | p, b :: bs, s => if (askM n rank (node, p) b s).1 then (true, (askM n rank (node, p) b s).2) else someM n rank node (p + 1) bs (askM n rank (node, p) b s).2
/-- Plain: the fields of a record, from a part on. -/
def allM (n : Nat) (rank : Int) (node : Nat) : Nat → List Int → St → Bool × St
  | _, [], s => (true, s)
  | p, b :: bs, s => if (askM n rank (node, p) b s).1 then allM n rank node (p + 1) bs (askM n rank (node, p) b s).2 else (false, (askM n rank (node, p) b s).2)
/-- Plain: whether a step comes through, and what is behind it. -/
def goM (n : Nat) (ns : Nat → N) (rank : Int) (x : Nat × Nat) (s : St) : Bool × St :=
  if s.rk x.1 ≠ nv then (false, s)
  else if (ns x.1).k = 13 then someM n rank x.1 x.2 ((ns x.1).br.drop x.2) s
  else if (ns x.1).k = 9 then allM n rank x.1 x.2 ((ns x.1).ft.drop x.2) s
  else (true, s)
/-- Plain: 'round'. -/
def roundM (n : Nat) (ns : Nat → N) (rank : Int) : List (Nat × Nat) → St → List Nat → St × List Nat
  | [], s, f => (s, f)
  | x :: xs, s, f => if (goM n ns rank x s).1 then roundM n ns rank xs ⟨upd (goM n ns rank x s).2.rk x.1 rank, (goM n ns rank x s).2.wt⟩ (f ++ [x.1]) else roundM n ns rank xs (goM n ns rank x s).2 f
/-- Plain: 'woken'. -/
def wokenM (s : St) (f : List Nat) : List (Nat × Nat) := f.flatMap s.wt

/-- Plain: what a node is told to be, by those that are. -/
def Der (n : Nat) (x : N) (S : Nat → Prop) : Prop :=
  if x.k = 9 then ∀ a ∈ x.ft, 0 ≤ a ∧ a < n ∧ S a.toNat
  else if x.k = 13 then ∃ a ∈ x.br, 0 ≤ a ∧ a < n ∧ S a.toNat
  else 1 ≤ x.k ∧ x.k ≤ 14
def Closed (n : Nat) (ns : Nat → N) (S : Nat → Prop) : Prop := ∀ i, i < n → Der n (ns i) S → S i
def Live (n : Nat) (ns : Nat → N) (i : Nat) : Prop := ∀ S, Closed n ns S → S i
theorem Der.mono {n : Nat} {x : N} {S T : Nat → Prop} (h : ∀ i, i < n → S i → T i) (hd : Der n x S) : Der n x T := by
  unfold Der at *
  split at hd
  · rw [if_pos (by assumption)]
    intro a ha
    obtain ⟨h0, h1, h2⟩ := hd a ha
    exact ⟨h0, h1, h _ (by omega) h2⟩
  · rw [if_neg (by assumption)]
    split at hd
    · rw [if_pos (by assumption)]
      obtain ⟨a, ha, h0, h1, h2⟩ := hd
      exact ⟨a, ha, h0, h1, h _ (by omega) h2⟩
    · rw [if_neg (by assumption)]
      exact hd
theorem live_closed (n : Nat) (ns : Nat → N) : Closed n ns (Live n ns) := fun i hi hd S hS => hS i hi (hd.mono (fun _ _ h => h S hS))

/-- How many wait. -/
def tot (n : Nat) (s : St) : Nat := ((List.range n).map fun i => (s.wt i).length).sum
section
variable {n : Nat} {rank : Int}
theorem tot_upd {s : St} {i : Nat} {l : List (Nat × Nat)} (hi : i < n) : tot n ⟨s.rk, upd s.wt i l⟩ + (s.wt i).length = tot n s + l.length := by
  unfold tot
  induction n with
  | zero => omega
  | succ n ih =>
    rw [List.range_succ, List.map_append, List.map_append, List.sum_append, List.sum_append]
    simp only [List.map_cons, List.map_nil, List.sum_cons, List.sum_nil]
    rcases Nat.lt_or_ge i n with h | h
    · have h1 := ih h
      have h2 : upd s.wt i l n = s.wt n := upd_ne _ _ (show n ≠ i by omega)
      rw [h2]
      simp only at h1
      omega
    · obtain rfl : i = n := by omega
      rw [upd_same]
      have : List.map (fun j => (upd s.wt i l j).length) (List.range i) = List.map (fun j => (s.wt j).length) (List.range i) := by
        apply List.map_congr_left
        intro j hj
        rw [upd_ne _ _ (by have := List.mem_range.1 hj; omega)]
      rw [this]
      omega
theorem tot_rk {s : St} {f : Nat → Int} : tot n ⟨f, s.wt⟩ = tot n s := rfl
theorem wt_le_tot {s : St} {i : Nat} (hi : i < n) : (s.wt i).length ≤ tot n s := by
  have := tot_upd (n := n) (s := s) (l := []) hi
  simp only [List.length_nil] at this
  omega

/-- What asking leaves. -/
structure Grown (n : Nat) (node : Nat) (parts : List Int) (s s' : St) : Prop where
  rk : s'.rk = s.rk
  mono : ∀ j t, t ∈ s.wt j → t ∈ s'.wt j
  new : ∀ j t, t ∈ s'.wt j → t ∈ s.wt j ∨ (t.1 = node ∧ parts[t.2]? = some (j : Int) ∧ j < n)
theorem Grown.refl (n node : Nat) (parts : List Int) (s : St) : Grown n node parts s s := ⟨rfl, fun _ _ h => h, fun _ _ h => .inl h⟩
theorem Grown.trans {node : Nat} {parts : List Int} {s s' s'' : St} (h : Grown n node parts s s') (k : Grown n node parts s' s'') : Grown n node parts s s'' :=
  ⟨k.rk.trans h.rk, fun j t ht => k.mono j t (h.mono j t ht), fun j t ht => by
    rcases k.new j t ht with h1 | h1
    · exact h.new j t h1
    · exact .inr h1⟩
theorem ask_grown {node p : Nat} {parts : List Int} {a : Int} {s : St} (hp : parts[p]? = some a) : Grown n node parts s (askM n rank (node, p) a s).2 := by
  unfold askM
  split
  · rename_i h
    split
    · exact Grown.refl _ _ _ _
    · refine ⟨rfl, fun j t ht => ?_, fun j t ht => ?_⟩
      · by_cases e : j = a.toNat
        · subst e
          simp only [upd_same]
          exact List.mem_append_left _ ht
        · simp only [upd_ne _ _ e]
          exact ht
      · by_cases e : j = a.toNat
        · subst e
          simp only [upd_same] at ht
          rcases List.mem_append.1 ht with h1 | h1
          · exact .inl h1
          · obtain rfl := List.mem_singleton.1 h1
            exact .inr ⟨rfl, by rw [hp]; congr 1; omega, by omega⟩
        · simp only [upd_ne _ _ e] at ht
          exact .inl ht
  · exact Grown.refl _ _ _ _
theorem ask_tot (x : Nat × Nat) (a : Int) (s : St) : tot n (askM n rank x a s).2 ≤ tot n s + 1 := by
  unfold askM
  split
  · split
    · show tot n s ≤ _
      omega
    · rename_i h _
      have := tot_upd (n := n) (s := s) (i := a.toNat) (l := s.wt a.toNat ++ [x]) (by omega)
      simp only [List.length_append, List.length_cons, List.length_nil] at this
      show tot n ⟨s.rk, upd s.wt a.toNat (s.wt a.toNat ++ [x])⟩ ≤ _
      omega
  · show tot n s ≤ _
    omega
theorem ask_yes {x : Nat × Nat} {a : Int} {s : St} (h : (askM n rank x a s).1 = true) : (0 ≤ a ∧ a < n ∧ s.rk a.toNat < rank) ∧ (askM n rank x a s).2 = s := by
  unfold askM at h ⊢
  split at h
  · rename_i h1
    split at h
    · rename_i h2
      rw [if_pos h1, if_pos h2]
      exact ⟨⟨h1.1, h1.2, h2⟩, rfl⟩
    · cases h
  · cases h
theorem ask_is {x : Nat × Nat} {a : Int} {s : St} (h0 : 0 ≤ a) (h1 : a < n) (h2 : s.rk a.toNat < rank) : askM n rank x a s = (true, s) := by
  unfold askM
  rw [if_pos ⟨h0, h1⟩, if_pos h2]
theorem ask_no {x : Nat × Nat} {a : Int} {s : St} (h : (askM n rank x a s).1 = false) (h0 : 0 ≤ a) (h1 : a < n) : rank ≤ s.rk a.toNat ∧ x ∈ (askM n rank x a s).2.wt a.toNat := by
  unfold askM at h ⊢
  rw [if_pos ⟨h0, h1⟩] at h ⊢
  split at h
  · cases h
  · rename_i h2
    rw [if_neg h2]
    refine ⟨by omega, ?_⟩
    simp only [upd_same]
    exact List.mem_append_right _ (List.mem_singleton.2 rfl)

theorem some_grown {node : Nat} {parts : List Int} : ∀ (bs : List Int) (p : Nat) (s : St), parts.drop p = bs → Grown n node parts s (someM n rank node p bs s).2
  | [], p, s, _ => Grown.refl _ _ _ _
  | b :: bs, p, s, h => by
    have hp : parts[p]? = some b := by
      have := congrArg (fun l : List Int => l[0]?) h
      simpa using this
    have hd : parts.drop (p + 1) = bs := by
      have := congrArg List.tail h
      simpa using this
    unfold someM
    split
    · exact ask_grown hp
    · exact (ask_grown hp).trans (some_grown bs (p + 1) _ hd)
theorem some_tot {node : Nat} : ∀ (bs : List Int) (p : Nat) (s : St), tot n (someM n rank node p bs s).2 ≤ tot n s + bs.length
  | [], p, s => by unfold someM; simp
  | b :: bs, p, s => by
    have h1 := ask_tot (n := n) (rank := rank) (node, p) b s
    unfold someM
    simp only [List.length_cons]
    split
    · show tot n (askM n rank (node, p) b s).2 ≤ _
      omega
    · have := some_tot (node := node) bs (p + 1) (askM n rank (node, p) b s).2
      omega
theorem ask_rk (x : Nat × Nat) (a : Int) (s : St) : (askM n rank x a s).2.rk = s.rk := by
  unfold askM
  split
  · split <;> rfl
  · rfl
theorem some_rk {node : Nat} : ∀ (bs : List Int) (p : Nat) (s : St), (someM n rank node p bs s).2.rk = s.rk
  | [], p, s => rfl
  | b :: bs, p, s => by
    unfold someM
    split
    · exact ask_rk _ _ _
    · rw [some_rk bs, ask_rk]
theorem some_yes {node : Nat} : ∀ (bs : List Int) (p : Nat) (s : St), (someM n rank node p bs s).1 = true → ∃ b ∈ bs, 0 ≤ b ∧ b < n ∧ (s.rk b.toNat < rank)
  | [], p, s, h => by cases h
  | b :: bs, p, s, h => by
    unfold someM at h
    split at h
    · rename_i h1
      exact ⟨b, by simp, (ask_yes h1).1⟩
    · obtain ⟨c, hc, h2⟩ := some_yes bs (p + 1) _ h
      rw [ask_rk] at h2
      exact ⟨c, by simp [hc], h2⟩
theorem some_mono {node : Nat} : ∀ (bs : List Int) (p : Nat) (s : St) (j : Nat) (t : Nat × Nat), t ∈ s.wt j → t ∈ (someM n rank node p bs s).2.wt j
  | [], p, s, j, t, h => h
  | b :: bs, p, s, j, t, h => by
    have h1 : t ∈ (askM n rank (node, p) b s).2.wt j := (ask_grown (parts := List.replicate p 0 ++ [b]) (by simp)).mono j t h
    unfold someM
    split
    · exact h1
    · exact some_mono bs _ _ j t h1
theorem some_no {node : Nat} : ∀ (bs : List Int) (p : Nat) (s : St), (someM n rank node p bs s).1 = false → ∀ (q : Nat) (a : Int), bs[q]? = some a → 0 ≤ a → a < n → rank ≤ s.rk a.toNat ∧ (node, p + q) ∈ (someM n rank node p bs s).2.wt a.toNat
  | [], p, s, _, q, a, h, _, _ => by simp at h
  | b :: bs, p, s, h, q, a, hq, h0, h1 => by
    unfold someM at h ⊢
    split at h
    · exact absurd h (by simp_all)
    · rename_i hb
      rw [if_neg hb]
      rcases q with _ | q
      · simp only [List.getElem?_cons_zero, Option.some.injEq] at hq
        subst hq
        have := ask_no (Bool.eq_false_iff.2 hb) h0 h1
        exact ⟨this.1, some_mono _ _ _ _ _ this.2⟩
      · rw [List.getElem?_cons_succ] at hq
        have := some_no bs (p + 1) _ h q a hq h0 h1
        rw [ask_rk] at this
        refine ⟨this.1, ?_⟩
        have e : p + (q + 1) = p + 1 + q := by omega
        rw [e]
        exact this.2
theorem some_woken {node p : Nat} {bs : List Int} {s : St} {a : Int} (h : bs[0]? = some a) (h0 : 0 ≤ a) (h1 : a < n) (h2 : s.rk a.toNat < rank) : someM n rank node p bs s = (true, s) := by
  rcases bs with _ | ⟨b, bs⟩
  · simp at h
  · simp only [List.getElem?_cons_zero, Option.some.injEq] at h
    subst h
    unfold someM
    rw [ask_is h0 h1 h2]
    rfl

theorem all_grown {node : Nat} {parts : List Int} : ∀ (bs : List Int) (p : Nat) (s : St), parts.drop p = bs → Grown n node parts s (allM n rank node p bs s).2
  | [], p, s, _ => Grown.refl _ _ _ _
  | b :: bs, p, s, h => by
    have hp : parts[p]? = some b := by
      have := congrArg (fun l : List Int => l[0]?) h
      simpa using this
    have hd : parts.drop (p + 1) = bs := by
      have := congrArg List.tail h
      simpa using this
    unfold allM
    split
    · exact (ask_grown hp).trans (all_grown bs (p + 1) _ hd)
    · exact ask_grown hp
theorem all_tot {node : Nat} : ∀ (bs : List Int) (p : Nat) (s : St), tot n (allM n rank node p bs s).2 ≤ tot n s + 1
  | [], p, s => by unfold allM; simp
  | b :: bs, p, s => by
    have h1 := ask_tot (n := n) (rank := rank) (node, p) b s
    unfold allM
    split
    · rename_i h
      rw [(ask_yes h).2]
      exact all_tot bs (p + 1) s
    · omega
theorem all_yes {node : Nat} : ∀ (bs : List Int) (p : Nat) (s : St), (allM n rank node p bs s).1 = true → (∀ b ∈ bs, 0 ≤ b ∧ b < n ∧ (s.rk b.toNat < rank)) ∧ (allM n rank node p bs s).2 = s
  | [], p, s, h => ⟨by simp, rfl⟩
  | b :: bs, p, s, h => by
    unfold allM at h ⊢
    split at h
    · rename_i h1
      rw [if_pos h1]
      obtain ⟨h2, h3⟩ := ask_yes h1
      rw [h3] at h ⊢
      obtain ⟨h4, h5⟩ := all_yes bs (p + 1) s h
      exact ⟨fun c hc => by
        rcases List.mem_cons.1 hc with rfl | hc
        · exact h2
        · exact h4 c hc, h5⟩
    · exact absurd h (by simp_all)
theorem all_no {node : Nat} : ∀ (bs : List Int) (p : Nat) (s : St), (allM n rank node p bs s).1 = false → ∃ (q : Nat) (a : Int), bs[q]? = some a ∧ (∀ (q' : Nat) (a' : Int), q' < q → bs[q']? = some a' → 0 ≤ a' ∧ a' < n ∧ s.rk a'.toNat < rank) ∧ (0 ≤ a → a < n → rank ≤ s.rk a.toNat ∧ (node, p + q) ∈ (allM n rank node p bs s).2.wt a.toNat) ∧
    (∀ (j : Nat) (t : Nat × Nat), t ∈ (allM n rank node p bs s).2.wt j → t ∈ s.wt j ∨ t = (node, p + q))
  | [], p, s, h => by cases h
  | b :: bs, p, s, h => by
    unfold allM at h ⊢
    split at h
    · rename_i hb
      rw [if_pos hb]
      obtain ⟨h2, h3⟩ := ask_yes hb
      rw [h3] at h ⊢
      obtain ⟨q, a, hq, hb', hw, hn⟩ := all_no bs (p + 1) s h
      have e : p + (q + 1) = p + 1 + q := by omega
      refine ⟨q + 1, a, by rw [List.getElem?_cons_succ]; exact hq, fun q' a' hq' ha' => ?_, by rw [e]; exact hw, by rw [e]; exact hn⟩
      rcases q' with _ | q'
      · simp only [List.getElem?_cons_zero, Option.some.injEq] at ha'
        subst ha'
        exact h2
      · exact hb' q' a' (by omega) (by rwa [List.getElem?_cons_succ] at ha')
    · rename_i hb
      rw [if_neg hb]
      refine ⟨0, b, rfl, fun q' _ h _ => by omega, fun h0 h1 => ask_no (Bool.eq_false_iff.2 hb) h0 h1, fun j t ht => ?_⟩
      rcases (ask_grown (n := n) (rank := rank) (node := node) (p := p) (parts := List.replicate p 0 ++ [b]) (a := b) (s := s) (by simp)).new j t ht with h1 | h1
      · exact .inl h1
      · unfold askM at ht
        split at ht
        · split at ht
          · exact .inl ht
          · by_cases e : j = b.toNat
            · subst e
              simp only [upd_same] at ht
              rcases List.mem_append.1 ht with h | h
              · exact .inl h
              · exact .inr (List.mem_singleton.1 h)
            · simp only [upd_ne _ _ e] at ht
              exact .inl ht
        · exact .inl ht
theorem all_woken {node p : Nat} {bs : List Int} {s : St} : tot n (allM n rank node p bs s).2 ≤ tot n s + 1 := all_tot bs p s
end
def parts (x : N) : List Int := if x.k = 13 then x.br else x.ft
/-- A step that may be asked. -/
structure Tk (n : Nat) (ns : Nat → N) (s : St) (t : Nat × Nat) : Prop where
  lt : t.1 < n
  kd : (ns t.1).k = 9 ∨ (ns t.1).k = 13
  pre : (ns t.1).k = 9 → ∀ (q : Nat) (a : Int), q < t.2 → (ns t.1).ft[q]? = some a → 0 ≤ a ∧ a < n ∧ s.rk a.toNat ≠ nv
/-- Whether a node waits. -/
structure Wait (n : Nat) (ns : Nat → N) (rank : Int) (s : St) (i : Nat) : Prop where
  un : (ns i).k = 13 → ∀ (q : Nat) (a : Int), (ns i).br[q]? = some a → 0 ≤ a → a < n → rank ≤ s.rk a.toNat ∧ (i, q) ∈ s.wt a.toNat
  re : (ns i).k = 9 → ∃ (q : Nat) (a : Int), (ns i).ft[q]? = some a ∧ (0 ≤ a → a < n → rank ≤ s.rk a.toNat ∧ (i, q) ∈ s.wt a.toNat)
/-- What holds in a round. -/
structure RI (n : Nat) (ns : Nat → N) (rank : Int) (rest : List (Nat × Nat)) (s : St) (f : List Nat) : Prop where
  lo : rank < nv
  rkOk : ∀ i, i < n → s.rk i = nv ∨ s.rk i < rank ∨ (s.rk i = rank ∧ i ∈ f)
  sound : ∀ i, i < n → s.rk i ≠ nv → Live n ns i
  wt : ∀ (j : Nat) (t : Nat × Nat), t ∈ s.wt j → Tk n ns s t ∧ (parts (ns t.1))[t.2]? = some (j : Int) ∧ j < n
  todo : ∀ t, t ∈ rest → Tk n ns s t ∧ ((t.2 = 0 ∧ rank = 1) ∨ ∃ j : Nat, j < n ∧ (parts (ns t.1))[t.2]? = some (j : Int) ∧ s.rk j < rank)
  f : f.Nodup ∧ ∀ i, i ∈ f → i < n ∧ s.rk i = rank
  comp : ∀ i, i < n → s.rk i = nv → ((ns i).k ≠ 9 → (ns i).k ≠ 13 → ¬ (1 ≤ (ns i).k ∧ (ns i).k ≤ 14)) ∧ ((ns i).k = 9 ∨ (ns i).k = 13 → (∃ t, t ∈ rest ∧ t.1 = i) ∨ Wait n ns rank s i)
section
variable {n : Nat} {ns : Nat → N} {rank : Int}
theorem Wait.grow {s s' : St} {i : Nat} (h : Wait n ns rank s i) (hr : ∀ j, rank ≤ s.rk j → rank ≤ s'.rk j) (hm : ∀ j t, t ∈ s.wt j → t ∈ s'.wt j) : Wait n ns rank s' i :=
  ⟨fun hk q a ha h0 h1 => ⟨hr _ (h.un hk q a ha h0 h1).1, hm _ _ (h.un hk q a ha h0 h1).2⟩, fun hk => by
    obtain ⟨q, a, ha, h2⟩ := h.re hk
    exact ⟨q, a, ha, fun h0 h1 => ⟨hr _ (h2 h0 h1).1, hm _ _ (h2 h0 h1).2⟩⟩⟩
theorem Tk.grow {s s' : St} {t : Nat × Nat} (h : Tk n ns s t) (hr : ∀ j, s.rk j ≠ nv → s'.rk j ≠ nv) : Tk n ns s' t :=
  ⟨h.lt, h.kd, fun hk q a hq ha => ⟨(h.pre hk q a hq ha).1, (h.pre hk q a hq ha).2.1, hr _ (h.pre hk q a hq ha).2.2⟩⟩
/-- All that a step that does not come through leaves. -/
theorem go_no {x : Nat × Nat} {rest : List (Nat × Nat)} {s : St} {f : List Nat} (hg : (goM n ns rank x s).1 = false) (h : RI n ns rank (x :: rest) s f) : RI n ns rank rest (goM n ns rank x s).2 f := by
  obtain ⟨hx, hw⟩ := h.todo x (by simp)
  have hres : ∀ t, t ∈ rest → t ∈ x :: rest := fun t ht => List.mem_cons_of_mem _ ht
  unfold goM at hg ⊢
  split at hg
  · rename_i h1
    rw [if_pos h1]
    refine ⟨h.lo, h.rkOk, h.sound, h.wt, fun t ht => h.todo t (hres t ht), h.f, fun i hi hn => ⟨(h.comp i hi hn).1, fun hk => ?_⟩⟩
    rcases (h.comp i hi hn).2 hk with ⟨t, ht, hti⟩ | hwt
    · rcases List.mem_cons.1 ht with rfl | ht
      · subst hti; exact absurd hn h1
      · exact .inl ⟨t, ht, hti⟩
    · exact .inr hwt
  · rename_i h1
    rw [if_neg h1]
    split at hg
    · rename_i hk
      rw [if_pos hk]
      rcases hw with ⟨h0, _⟩ | ⟨j, hj, hp, hr⟩
      · rw [h0, List.drop_zero] at hg ⊢
        have hgr : Grown n x.1 (ns x.1).br s (someM n rank x.1 0 (ns x.1).br s).2 := some_grown _ 0 s rfl
        have hno := some_no (ns x.1).br 0 s hg
        generalize (someM n rank x.1 0 (ns x.1).br s).2 = s2 at *
        have e := hgr.rk
        refine ⟨h.lo, by rw [e]; exact h.rkOk, by rw [e]; exact h.sound, fun j t ht => ?_, fun t ht => ?_, by rw [e]; exact h.f, fun i hi hn => ?_⟩
        · rcases hgr.new j t ht with h2 | ⟨h2, h3, h4⟩
          · exact ⟨(h.wt j t h2).1.grow (by rw [e]; exact fun _ h => h), (h.wt j t h2).2⟩
          · refine ⟨⟨by rw [h2]; exact hx.lt, by rw [h2]; exact hx.kd, fun hk9 => ?_⟩, ?_, h4⟩
            · rw [h2] at hk9; omega
            · rw [h2]; unfold parts; rw [if_pos hk]; exact h3
        · obtain ⟨h2, h3⟩ := h.todo t (hres t ht)
          exact ⟨h2.grow (by rw [e]; exact fun _ h => h), by rw [e]; exact h3⟩
        · rw [e] at hn
          refine ⟨(h.comp i hi hn).1, fun hki => ?_⟩
          rcases (h.comp i hi hn).2 hki with ⟨t, ht, hti⟩ | hwt
          · rcases List.mem_cons.1 ht with rfl | ht
            · subst hti
              refine .inr ⟨fun _ q a ha h0 h1 => ?_, fun h9 => by omega⟩
              rw [e]
              have := hno q a ha h0 h1
              rw [Nat.zero_add] at this
              exact this
            · exact .inl ⟨t, ht, hti⟩
          · exact .inr (hwt.grow (by rw [e]; exact fun _ h => h) hgr.mono)
      · unfold parts at hp
        rw [if_pos hk] at hp
        rw [some_woken (a := (j : Int)) (by rw [List.getElem?_drop]; simpa using hp) (by omega) (by omega) (by simpa using hr)] at hg
        cases hg
    · rename_i hk
      rw [if_neg hk]
      split at hg
      · rename_i hk9
        rw [if_pos hk9]
        have hgr : Grown n x.1 (ns x.1).ft s (allM n rank x.1 x.2 ((ns x.1).ft.drop x.2) s).2 := all_grown _ _ s rfl
        obtain ⟨q, a, hqa, hbef, hat, hnew⟩ := all_no _ _ _ hg
        rw [List.getElem?_drop] at hqa
        generalize (allM n rank x.1 x.2 ((ns x.1).ft.drop x.2) s).2 = s2 at *
        have e := hgr.rk
        refine ⟨h.lo, by rw [e]; exact h.rkOk, by rw [e]; exact h.sound, fun j t ht => ?_, fun t ht => ?_, by rw [e]; exact h.f, fun i hi hn => ?_⟩
        · by_cases h2 : t ∈ s.wt j
          · exact ⟨(h.wt j t h2).1.grow (by rw [e]; exact fun _ h => h), (h.wt j t h2).2⟩
          · have h3 := (hgr.new j t ht).resolve_left h2
            obtain rfl := (hnew j t ht).resolve_left h2
            refine ⟨⟨hx.lt, hx.kd, fun _ q' a' hq' ha' => ?_⟩, ?_, h3.2.2⟩
            · simp only at hq' ha'
              rw [e]
              rcases Nat.lt_or_ge q' x.2 with hl | hl
              · exact hx.pre hk9 q' a' hl ha'
              · have := hbef (q' - x.2) a' (by omega) (by rw [List.getElem?_drop, show x.2 + (q' - x.2) = q' by omega]; exact ha')
                have := h.lo
                exact ⟨by omega, by omega, by omega⟩
            · unfold parts; simp only; rw [if_neg hk]; exact h3.2.1
        · obtain ⟨h2, h3⟩ := h.todo t (hres t ht)
          exact ⟨h2.grow (by rw [e]; exact fun _ h => h), by rw [e]; exact h3⟩
        · rw [e] at hn
          refine ⟨(h.comp i hi hn).1, fun hki => ?_⟩
          rcases (h.comp i hi hn).2 hki with ⟨t, ht, hti⟩ | hwt
          · rcases List.mem_cons.1 ht with rfl | ht
            · subst hti
              exact .inr ⟨fun h13 => by omega, fun _ => ⟨_, a, hqa, fun h0 h1 => by rw [e]; exact hat h0 h1⟩⟩
            · exact .inl ⟨t, ht, hti⟩
          · exact .inr (hwt.grow (by rw [e]; exact fun _ h => h) hgr.mono)
      · cases hg
theorem go_rk (x : Nat × Nat) (s : St) : (goM n ns rank x s).2.rk = s.rk := by
  unfold goM
  split
  · rfl
  · split
    · exact some_rk _ _ _
    · split
      · exact (all_grown (parts := (ns x.1).ft) _ _ s rfl).rk
      · rfl
theorem go_grown (x : Nat × Nat) (s : St) : Grown n x.1 (parts (ns x.1)) s (goM n ns rank x s).2 := by
  unfold goM parts
  by_cases h1 : s.rk x.1 ≠ nv
  · rw [if_pos h1]; exact Grown.refl _ _ _ _
  · rw [if_neg h1]
    by_cases hk : (ns x.1).k = 13
    · rw [if_pos hk, if_pos hk]; exact some_grown _ _ s rfl
    · rw [if_neg hk, if_neg hk]
      split
      · exact all_grown _ _ s rfl
      · exact Grown.refl _ _ _ _
theorem go_yes {x : Nat × Nat} {rest : List (Nat × Nat)} {s : St} {f : List Nat} (hg : (goM n ns rank x s).1 = true) (h : RI n ns rank (x :: rest) s f) : RI n ns rank rest ⟨upd (goM n ns rank x s).2.rk x.1 rank, (goM n ns rank x s).2.wt⟩ (f ++ [x.1]) := by
  obtain ⟨hx, hw⟩ := h.todo x (by simp)
  have hres : ∀ t, t ∈ rest → t ∈ x :: rest := fun t ht => List.mem_cons_of_mem _ ht
  have hgr := go_grown (n := n) (ns := ns) (rank := rank) x s
  have hfact : s.rk x.1 = nv ∧ Der n (ns x.1) (fun i => s.rk i ≠ nv) ∧ (∀ j t, t ∈ (goM n ns rank x s).2.wt j → t ∈ s.wt j ∨ (t.1 = x.1 ∧ (ns x.1).k = 13)) := by
    have hlo := h.lo
    unfold goM at hg ⊢
    split at hg
    · cases hg
    · rename_i h1
      rw [if_neg h1]
      refine ⟨by simpa using h1, ?_⟩
      split at hg
      · rename_i hk
        rw [if_pos hk]
        obtain ⟨b, hb, h2, h3, h4⟩ := some_yes _ _ _ hg
        refine ⟨?_, fun j t ht => ?_⟩
        · unfold Der
          rw [if_neg (by omega), if_pos hk]
          exact ⟨b, List.mem_of_mem_drop hb, h2, h3, by omega⟩
        · rcases (some_grown (parts := (ns x.1).br) _ _ s rfl).new j t ht with h5 | h5
          · exact .inl h5
          · exact .inr ⟨h5.1, hk⟩
      · rename_i hk
        rw [if_neg hk]
        have hk9 := hx.kd.resolve_right hk
        rw [if_pos hk9] at hg ⊢
        obtain ⟨h2, h3⟩ := all_yes _ _ _ hg
        refine ⟨?_, fun j t ht => .inl (by rw [h3] at ht; exact ht)⟩
        unfold Der
        rw [if_pos hk9]
        intro a ha
        obtain ⟨q, hq⟩ := List.mem_iff_getElem?.1 ha
        rcases Nat.lt_or_ge q x.2 with hl | hl
        · exact hx.pre hk9 q a hl hq
        · have := h2 a (List.mem_iff_getElem?.2 ⟨q - x.2, by rw [List.getElem?_drop, show x.2 + (q - x.2) = q by omega]; exact hq⟩)
          exact ⟨this.1, this.2.1, by omega⟩
  obtain ⟨hnv, hder, hnew⟩ := hfact
  have e := hgr.rk
  have hlo := h.lo
  generalize (goM n ns rank x s).2 = s2 at *
  have hup : ∀ j, s.rk j ≠ nv → (upd s2.rk x.1 rank) j ≠ nv := fun j hj => by
    by_cases hjx : j = x.1
    · subst hjx; rw [upd_same]; omega
    · rw [upd_ne _ _ hjx, e]; exact hj
  refine ⟨h.lo, fun i hi => ?_, fun i hi hne => ?_, fun j t ht => ?_, fun t ht => ?_, ⟨?_, fun i hi => ?_⟩, fun i hi hn => ?_⟩
  · by_cases hix : i = x.1
    · subst hix; exact .inr (.inr ⟨upd_same _ _ _, by simp⟩)
    · simp only [upd_ne _ _ hix, e]
      rcases h.rkOk i hi with h1 | h1 | h1
      · exact .inl h1
      · exact .inr (.inl h1)
      · exact .inr (.inr ⟨h1.1, List.mem_append_left _ h1.2⟩)
  · by_cases hix : i = x.1
    · subst hix
      exact live_closed n ns x.1 hi (hder.mono (fun i hi hs => h.sound i hi hs))
    · simp only [upd_ne _ _ hix, e] at hne
      exact h.sound i hi hne
  · by_cases h2 : t ∈ s.wt j
    · exact ⟨(h.wt j t h2).1.grow hup, (h.wt j t h2).2⟩
    · have h3 := (hgr.new j t ht).resolve_left h2
      have h4 := (hnew j t ht).resolve_left h2
      refine ⟨⟨by rw [h3.1]; exact hx.lt, by rw [h3.1]; exact hx.kd, fun hk9 => ?_⟩, by rw [h3.1]; exact h3.2.1, h3.2.2⟩
      rw [h3.1] at hk9; omega
  · obtain ⟨h2, h3⟩ := h.todo t (hres t ht)
    refine ⟨h2.grow hup, h3.imp id ?_⟩
    rintro ⟨j, hj, hp, hr⟩
    refine ⟨j, hj, hp, ?_⟩
    simp only [upd_ne _ _ (show j ≠ x.1 from fun he => by rw [he] at hr; omega), e]
    exact hr
  · refine List.nodup_append.2 ⟨h.f.1, by simp, fun a ha b hb => ?_⟩
    obtain rfl := List.mem_singleton.1 hb
    intro he
    subst he
    have := (h.f.2 _ ha).2
    omega
  · rcases List.mem_append.1 hi with h1 | h1
    · have h2 := h.f.2 i h1
      refine ⟨h2.1, ?_⟩
      simp only [upd_ne _ _ (show i ≠ x.1 from fun he => by rw [he] at h2; omega), e]
      exact h2.2
    · obtain rfl := List.mem_singleton.1 h1
      exact ⟨hx.lt, upd_same _ _ _⟩
  · by_cases hix : i = x.1
    · subst hix
      simp only [upd_same] at hn
      omega
    · simp only [upd_ne _ _ hix, e] at hn
      refine ⟨(h.comp i hi hn).1, fun hki => ?_⟩
      rcases (h.comp i hi hn).2 hki with ⟨t, ht, hti⟩ | hwt
      · rcases List.mem_cons.1 ht with rfl | ht
        · exact absurd hti.symm hix
        · exact .inl ⟨t, ht, hti⟩
      · refine .inr (hwt.grow (fun j hj => ?_) hgr.mono)
        by_cases hjx : j = x.1
        · subst hjx; simp only [upd_same]; omega
        · simp only [upd_ne _ _ hjx, e]; exact hj
theorem round_ri : ∀ (l : List (Nat × Nat)) (s : St) (f : List Nat), RI n ns rank l s f → RI n ns rank [] (roundM n ns rank l s f).1 (roundM n ns rank l s f).2
  | [], s, f, h => h
  | x :: xs, s, f, h => by
    unfold roundM
    split
    · exact round_ri xs _ _ (go_yes (by assumption) h)
    · exact round_ri xs _ _ (go_no (Bool.eq_false_iff.2 (by assumption)) h)
/-- From one round to the next. -/
theorem ri_next {s : St} {f : List Nat} (h : RI n ns rank [] s f) (hl : rank + 1 < nv) : RI n ns (rank + 1) (wokenM s f) s [] := by
  have hlo := h.lo
  refine ⟨hl, fun i hi => ?_, h.sound, h.wt, fun t ht => ?_, ⟨by simp, by simp⟩, fun i hi hn => ⟨(h.comp i hi hn).1, fun hk => ?_⟩⟩
  · rcases h.rkOk i hi with h1 | h1 | h1
    · exact .inl h1
    · exact .inr (.inl (by omega))
    · exact .inr (.inl (by omega))
  · obtain ⟨j, hj, ht⟩ := List.mem_flatMap.1 ht
    obtain ⟨h1, h2, h3⟩ := h.wt j t ht
    exact ⟨h1, .inr ⟨j, h3, h2, by have := (h.f.2 j hj).2; omega⟩⟩
  · rcases (h.comp i hi hn).2 hk with ⟨t, ht, _⟩ | hw
    · simp at ht
    · rcases hk with hk | hk
      · obtain ⟨q, a, hqa, hat⟩ := hw.re hk
        by_cases hin : 0 ≤ a ∧ a < n
        · obtain ⟨h1, h2⟩ := hat hin.1 hin.2
          rcases h.rkOk a.toNat (by omega) with h3 | h3 | h3
          · exact .inr ⟨fun h13 => by omega, fun _ => ⟨q, a, hqa, fun _ _ => ⟨by omega, h2⟩⟩⟩
          · omega
          · exact .inl ⟨(i, q), List.mem_flatMap.2 ⟨_, h3.2, h2⟩, rfl⟩
        · exact .inr ⟨fun h13 => by omega, fun _ => ⟨q, a, hqa, fun h0 h1 => absurd ⟨h0, h1⟩ hin⟩⟩
      · by_cases hex : ∃ (q : Nat) (a : Int), (ns i).br[q]? = some a ∧ 0 ≤ a ∧ a < n ∧ s.rk a.toNat ≠ nv
        · obtain ⟨q, a, hqa, h0, h1, h2⟩ := hex
          have h3 := hw.un hk q a hqa h0 h1
          rcases h.rkOk a.toNat (by omega) with h4 | h4 | h4
          · exact absurd h4 h2
          · omega
          · exact .inl ⟨(i, q), List.mem_flatMap.2 ⟨_, h4.2, h3.2⟩, rfl⟩
        · refine .inr ⟨fun _ q a ha h0 h1 => ⟨?_, (hw.un hk q a ha h0 h1).2⟩, fun h9 => by omega⟩
          have : s.rk a.toNat = nv := Classical.byContradiction fun hc => hex ⟨q, a, ha, h0, h1, hc⟩
          omega
/-- At the end. -/
theorem ri_end {s : St} (h : RI n ns rank [] s []) : ∀ i, i < n → (s.rk i ≠ nv ↔ Live n ns i) := by
  have hcl : Closed n ns (fun i => i < n → s.rk i ≠ nv) := by
    intro i hi hd _ hn
    have hc := h.comp i hi hn
    have hlo := h.lo
    unfold Der at hd
    split at hd
    · rename_i hk
      rcases hc.2 (.inl hk) with ⟨t, ht, _⟩ | hw
      · simp at ht
      · obtain ⟨q, a, hqa, hat⟩ := hw.re hk
        obtain ⟨h0, h1, h2⟩ := hd a (List.mem_iff_getElem?.2 ⟨q, hqa⟩)
        have h3 := (hat h0 h1).1
        have h2 := h2 (by omega)
        rcases h.rkOk a.toNat (by omega) with h4 | h4 | h4
        · exact h2 h4
        · omega
        · simp at h4
    · split at hd
      · rename_i hk9 hk
        rcases hc.2 (.inr hk) with ⟨t, ht, _⟩ | hw
        · simp at ht
        · obtain ⟨a, ha, h0, h1, h2⟩ := hd
          obtain ⟨q, hqa⟩ := List.mem_iff_getElem?.1 ha
          have h3 := (hw.un hk q a hqa h0 h1).1
          have h2 := h2 (by omega)
          rcases h.rkOk a.toNat (by omega) with h4 | h4 | h4
          · exact h2 h4
          · omega
          · simp at h4
      · rename_i h9 h13
        exact hc.1 h9 h13 hd
  exact fun i hi => ⟨h.sound i hi, fun hL => hL _ hcl hi⟩
end
/-- How many have no rank. -/
def cnt (n : Nat) (f : Nat → Bool) : Nat := ((List.range n).filter f).length
theorem cnt_le (n : Nat) (f : Nat → Bool) : cnt n f ≤ n := by
  unfold cnt
  have := List.length_filter_le f (List.range n)
  rwa [List.length_range] at this
theorem cnt_succ (n : Nat) (f : Nat → Bool) : cnt (n + 1) f = cnt n f + (if f n then 1 else 0) := by
  unfold cnt
  rw [List.range_succ, List.filter_append, List.length_append]
  congr 1
  simp only [List.filter_cons, List.filter_nil]
  split <;> rfl
theorem cnt_congr {n : Nat} {f g : Nat → Bool} (h : ∀ i, i < n → f i = g i) : cnt n f = cnt n g := by
  unfold cnt
  congr 1
  apply List.filter_congr
  intro i hi
  exact h i (List.mem_range.1 hi)
theorem cnt_off {n : Nat} {f g : Nat → Bool} {x : Nat} (hx : x < n) (h1 : f x = true) (h2 : g x = false) (h : ∀ i, i ≠ x → f i = g i) : cnt n f = cnt n g + 1 := by
  induction n with
  | zero => omega
  | succ n ih =>
    rw [cnt_succ, cnt_succ]
    rcases Nat.lt_or_ge x n with hl | hl
    · rw [ih hl, h n (by omega)]
      omega
    · obtain rfl : x = n := by omega
      rw [cnt_congr (fun i hi => h i (by omega)), h1, h2]
      simp
theorem cnt_mono {n : Nat} {f g : Nat → Bool} (h : ∀ i, i < n → f i = true → g i = true) : cnt n f ≤ cnt n g := by
  induction n with
  | zero => simp [cnt]
  | succ n ih =>
    rw [cnt_succ, cnt_succ]
    have := ih (fun i hi => h i (by omega))
    have h2 := h n (by omega)
    cases hf : f n
    · simp; omega
    · rw [h2 hf]; simp; omega
theorem cnt_less {n : Nat} {f g : Nat → Bool} (h : ∀ i, i < n → f i = true → g i = true) {x : Nat} (hx : x < n) (h1 : f x = false) (h2 : g x = true) : cnt n f < cnt n g := by
  induction n with
  | zero => omega
  | succ n ih =>
    rw [cnt_succ, cnt_succ]
    have h3 := cnt_mono (n := n) (f := f) (g := g) (fun i hi => h i (by omega))
    have h4 := h n (by omega)
    rcases Nat.lt_or_ge x n with hl | hl
    · have := ih (fun i hi => h i (by omega)) hl
      cases hf : f n
      · simp; omega
      · rw [h4 hf]; simp; omega
    · obtain rfl : x = n := by omega
      rw [h1, h2]
      simp; omega
def never (s : St) (i : Nat) : Bool := decide (s.rk i = nv)
section
variable {n : Nat} {ns : Nat → N} {rank : Int}
theorem go_nv {x : Nat × Nat} {s : St} (hg : (goM n ns rank x s).1 = true) : s.rk x.1 = nv := by
  unfold goM at hg
  split at hg
  · cases hg
  · rename_i h; simpa using h
theorem round_cnt : ∀ (l : List (Nat × Nat)) (s : St) (f : List Nat), RI n ns rank l s f → cnt n (never (roundM n ns rank l s f).1) + (roundM n ns rank l s f).2.length = cnt n (never s) + f.length
  | [], s, f, h => rfl
  | x :: xs, s, f, h => by
    unfold roundM
    split
    · rename_i hg
      rw [round_cnt xs _ _ (go_yes hg h), List.length_append]
      have hlo := h.lo
      have hx := (h.todo x (by simp)).1.lt
      have : cnt n (never s) = cnt n (never ⟨upd (goM n ns rank x s).2.rk x.1 rank, (goM n ns rank x s).2.wt⟩) + 1 := by
        refine cnt_off hx (by unfold never; simp [go_nv hg]) ?_ (fun i hi => ?_)
        · unfold never
          simp only [upd_same, decide_eq_false_iff_not]
          omega
        · unfold never
          simp only [upd_ne _ _ hi, go_rk]
      rw [this]
      simp only [List.length_cons, List.length_nil]
      omega
    · rw [round_cnt xs _ _ (go_no (Bool.eq_false_iff.2 (by assumption)) h)]
      unfold never
      rw [go_rk]
theorem go_tot (hb : ∀ i, (ns i).br.length ≤ 20) (x : Nat × Nat) (s : St) : tot n (goM n ns rank x s).2 ≤ tot n s + 20 := by
  unfold goM
  by_cases h1 : s.rk x.1 ≠ nv
  · rw [if_pos h1]; simp
  · rw [if_neg h1]
    by_cases hk : (ns x.1).k = 13
    · rw [if_pos hk]
      have h2 := some_tot (n := n) (rank := rank) (node := x.1) ((ns x.1).br.drop x.2) x.2 s
      have h3 := hb x.1
      rw [List.length_drop] at h2
      omega
    · rw [if_neg hk]
      split
      · have h2 := all_tot (n := n) (rank := rank) (node := x.1) ((ns x.1).ft.drop x.2) x.2 s
        omega
      · simp
theorem go_tot1 {x : Nat × Nat} {s : St} (hw : ∃ j : Nat, j < n ∧ (parts (ns x.1))[x.2]? = some (j : Int) ∧ s.rk j < rank) : tot n (goM n ns rank x s).2 ≤ tot n s + 1 := by
  obtain ⟨j, hj, hp, hr⟩ := hw
  unfold goM
  by_cases h1 : s.rk x.1 ≠ nv
  · rw [if_pos h1]; simp
  · rw [if_neg h1]
    by_cases hk : (ns x.1).k = 13
    · unfold parts at hp
      rw [if_pos hk] at hp ⊢
      rw [some_woken (a := (j : Int)) (by rw [List.getElem?_drop]; simpa using hp) (by omega) (by omega) (by simpa using hr)]
      simp
    · rw [if_neg hk]
      split
      · exact all_tot _ _ _
      · simp
theorem round_tot (hb : ∀ i, (ns i).br.length ≤ 20) : ∀ (l : List (Nat × Nat)) (s : St) (f : List Nat), tot n (roundM n ns rank l s f).1 ≤ tot n s + 20 * l.length
  | [], s, f => by simp [roundM]
  | x :: xs, s, f => by
    have h1 := go_tot (n := n) (rank := rank) hb x s
    unfold roundM
    simp only [List.length_cons]
    split
    · have := round_tot hb xs ⟨upd (goM n ns rank x s).2.rk x.1 rank, (goM n ns rank x s).2.wt⟩ (f ++ [x.1])
      have e : tot n ⟨upd (goM n ns rank x s).2.rk x.1 rank, (goM n ns rank x s).2.wt⟩ = tot n (goM n ns rank x s).2 := rfl
      rw [e] at this
      omega
    · have := round_tot hb xs (goM n ns rank x s).2 f
      omega
theorem round_tot1 (hr : rank ≠ 1) : ∀ (l : List (Nat × Nat)) (s : St) (f : List Nat), RI n ns rank l s f → tot n (roundM n ns rank l s f).1 ≤ tot n s + l.length
  | [], s, f, h => by simp [roundM]
  | x :: xs, s, f, h => by
    have h1 := go_tot1 (n := n) (ns := ns) (rank := rank) (x := x) (s := s) ((h.todo x (by simp)).2.resolve_left (fun h => hr h.2))
    unfold roundM
    simp only [List.length_cons]
    split
    · have := round_tot1 hr xs _ _ (go_yes (by assumption) h)
      have e : tot n ⟨upd (goM n ns rank x s).2.rk x.1 rank, (goM n ns rank x s).2.wt⟩ = tot n (goM n ns rank x s).2 := rfl
      rw [e] at this
      omega
    · have := round_tot1 hr xs _ _ (go_no (Bool.eq_false_iff.2 (by assumption)) h)
      omega
theorem woken_len : ∀ (f : List Nat) (s : St), f.Nodup → (∀ i, i ∈ f → i < n) → (wokenM s f).length ≤ tot n s
  | [], s, _, _ => by simp [wokenM]
  | x :: xs, s, hd, hn => by
    obtain ⟨h1, h2⟩ := List.nodup_cons.1 hd
    have h3 := woken_len xs ⟨s.rk, upd s.wt x []⟩ h2 (fun i hi => hn i (List.mem_cons_of_mem _ hi))
    have h4 := tot_upd (n := n) (s := s) (i := x) (l := []) (hn x (by simp))
    have h5 : wokenM ⟨s.rk, upd s.wt x []⟩ xs = wokenM s xs := by
      unfold wokenM
      rw [List.flatMap_def, List.flatMap_def]
      congr 1
      apply List.map_congr_left
      intro j hj
      exact upd_ne _ _ (fun e => h1 (e ▸ hj))
    have h6 : wokenM s (x :: xs) = s.wt x ++ wokenM s xs := by simp [wokenM]
    rw [h6, List.length_append]
    rw [h5] at h3
    simp only [List.length_nil] at h4
    omega
/-- The waiting lists of those that are not live by lesser ranks. -/
def hot (rank : Int) (s : St) : St := ⟨s.rk, fun i => if rank ≤ s.rk i then s.wt i else []⟩
def act (n : Nat) (rank : Int) (s : St) : Nat := tot n (hot rank s)
theorem sum_le {f g : Nat → Nat} : ∀ l : List Nat, (∀ i, i ∈ l → f i ≤ g i) → (l.map f).sum ≤ (l.map g).sum
  | [], _ => by simp
  | x :: xs, h => by
    have h1 := h x (by simp)
    have h2 := sum_le xs (fun i hi => h i (List.mem_cons_of_mem _ hi))
    simp only [List.map_cons, List.sum_cons]
    omega
theorem sum_two {f g h : Nat → Nat} : ∀ l : List Nat, (∀ i, i ∈ l → f i + g i ≤ h i) → (l.map f).sum + (l.map g).sum ≤ (l.map h).sum
  | [], _ => by simp
  | x :: xs, hh => by
    have h1 := hh x (by simp)
    have h2 := sum_two xs (fun i hi => hh i (List.mem_cons_of_mem _ hi))
    simp only [List.map_cons, List.sum_cons]
    omega
theorem act_le (s : St) : act n rank s ≤ tot n s := sum_le _ (fun i _ => by
  show (if rank ≤ s.rk i then s.wt i else []).length ≤ _
  split <;> simp)
theorem ask_act (x : Nat × Nat) (a : Int) (s : St) : act n rank (askM n rank x a s).2 ≤ act n rank s + 1 := by
  unfold askM
  split
  · rename_i h
    split
    · show act n rank s ≤ _
      omega
    · have h1 := tot_upd (n := n) (s := hot rank s) (i := a.toNat) (l := if rank ≤ s.rk a.toNat then s.wt a.toNat ++ [x] else []) (by omega)
      have e : (⟨(hot rank s).rk, upd (hot rank s).wt a.toNat (if rank ≤ s.rk a.toNat then s.wt a.toNat ++ [x] else [])⟩ : St) = hot rank ⟨s.rk, upd s.wt a.toNat (s.wt a.toNat ++ [x])⟩ := by
        unfold hot
        congr 1
        funext j
        by_cases hj : j = a.toNat
        · subst hj; simp only [upd_same]
        · simp only [upd_ne _ _ hj]
      rw [e] at h1
      have e2 : (hot rank s).wt a.toNat = if rank ≤ s.rk a.toNat then s.wt a.toNat else [] := rfl
      rw [e2] at h1
      unfold act
      show tot n (hot rank ⟨s.rk, upd s.wt a.toNat (s.wt a.toNat ++ [x])⟩) ≤ _
      split at h1
      · simp only [List.length_append, List.length_cons, List.length_nil] at h1; omega
      · omega
  · show act n rank s ≤ _
    omega
theorem all_act {node : Nat} : ∀ (bs : List Int) (p : Nat) (s : St), act n rank (allM n rank node p bs s).2 ≤ act n rank s + 1
  | [], p, s => by unfold allM; simp
  | b :: bs, p, s => by
    have h1 := ask_act (n := n) (rank := rank) (node, p) b s
    unfold allM
    split
    · rename_i h
      rw [(ask_yes h).2]
      exact all_act bs (p + 1) s
    · exact h1
theorem go_act {x : Nat × Nat} {s : St} (hw : ∃ j : Nat, j < n ∧ (parts (ns x.1))[x.2]? = some (j : Int) ∧ s.rk j < rank) : act n rank (goM n ns rank x s).2 ≤ act n rank s + 1 := by
  obtain ⟨j, hj, hp, hr⟩ := hw
  unfold goM
  by_cases h1 : s.rk x.1 ≠ nv
  · rw [if_pos h1]; simp
  · rw [if_neg h1]
    by_cases hk : (ns x.1).k = 13
    · unfold parts at hp
      rw [if_pos hk] at hp ⊢
      rw [some_woken (a := (j : Int)) (by rw [List.getElem?_drop]; simpa using hp) (by omega) (by omega) (by simpa using hr)]
      simp
    · rw [if_neg hk]
      split
      · exact all_act _ _ _
      · simp
theorem round_act (hr : rank ≠ 1) : ∀ (l : List (Nat × Nat)) (s : St) (f : List Nat), RI n ns rank l s f → act n rank (roundM n ns rank l s f).1 ≤ act n rank s + l.length
  | [], s, f, h => by simp [roundM]
  | x :: xs, s, f, h => by
    have h1 := go_act (n := n) (ns := ns) (rank := rank) (x := x) (s := s) ((h.todo x (by simp)).2.resolve_left (fun h => hr h.2))
    unfold roundM
    simp only [List.length_cons]
    split
    · rename_i hg
      have := round_act hr xs _ _ (go_yes hg h)
      have hlo := h.lo
      have e : act n rank ⟨upd (goM n ns rank x s).2.rk x.1 rank, (goM n ns rank x s).2.wt⟩ = act n rank (goM n ns rank x s).2 := by
        unfold act hot tot
        congr 1
        apply List.map_congr_left
        intro j _
        by_cases hj : j = x.1
        · subst hj
          have hv := go_nv hg
          simp only [upd_same, go_rk, hv]
          rw [if_pos (Int.le_refl _), if_pos (by omega)]
        · simp only [upd_ne _ _ hj]
      rw [e] at this
      omega
    · have := round_act hr xs _ _ (go_no (Bool.eq_false_iff.2 (by assumption)) h)
      omega
theorem woken_act {s : St} {f : List Nat} (hd : f.Nodup) (hf : ∀ i, i ∈ f → i < n ∧ s.rk i = rank) : (wokenM s f).length + act n (rank + 1) s ≤ act n rank s := by
  have h1 := woken_len (n := n) f ⟨s.rk, fun i => if s.rk i = rank then s.wt i else []⟩ hd (fun i hi => (hf i hi).1)
  have e : wokenM ⟨s.rk, fun i => if s.rk i = rank then s.wt i else []⟩ f = wokenM s f := by
    unfold wokenM
    rw [List.flatMap_def, List.flatMap_def]
    congr 1
    apply List.map_congr_left
    intro j hj
    simp only [(hf j hj).2, if_true]
  rw [e] at h1
  refine Nat.le_trans (Nat.add_le_add_right h1 _) ?_
  refine sum_two _ (fun i _ => ?_)
  show (if s.rk i = rank then s.wt i else []).length + (if rank + 1 ≤ s.rk i then s.wt i else []).length ≤ (if rank ≤ s.rk i then s.wt i else []).length
  by_cases h2 : s.rk i = rank
  · rw [if_pos h2, if_neg (by omega), if_pos (by omega)]
    simp
  · rw [if_neg h2]
    by_cases h3 : rank + 1 ≤ s.rk i
    · rw [if_pos h3, if_pos (by omega)]
      simp
    · rw [if_neg h3]
      simp
/-- What holds ahead of each round. -/
structure LI (n : Nat) (ns : Nat → N) (r : Nat) (steps : List (Nat × Nat)) (s : St) : Prop where
  ri : RI n ns r steps s []
  r1 : 1 ≤ r
  up : r + cnt n (never s) ≤ n + 1 + (if steps = [] then 1 else 0)
  tt : tot n s ≤ 800 * r
  ac : act n r s + steps.length ≤ 800
  one : r = 1 → tot n s = 0 ∧ steps.length ≤ 40
theorem LI.next (hn : n ≤ 40) (hb : ∀ i, (ns i).br.length ≤ 20) {r : Nat} {steps : List (Nat × Nat)} {s : St} (h : LI n ns r steps s) (hs : steps ≠ []) :
    LI n ns (r + 1) (wokenM (roundM n ns r steps s []).1 (roundM n ns r steps s []).2) (roundM n ns r steps s []).1 ∧
    cnt n (never (roundM n ns r steps s []).1) + (roundM n ns r steps s []).2.length = cnt n (never s) ∧ ((roundM n ns r steps s []).2 = [] → wokenM (roundM n ns r steps s []).1 (roundM n ns r steps s []).2 = []) ∧
    (∀ i, i ∈ (roundM n ns r steps s []).2 → i < n) ∧ ∀ k, (wokenM (roundM n ns r steps s []).1 ((roundM n ns r steps s []).2.take k)).length ≤ 40000 := by
  have hR := round_ri steps s [] h.ri
  have hc := round_cnt steps s [] h.ri
  have ht := round_tot (n := n) (rank := r) hb steps s []
  have ht1 : r ≠ 1 → _ := fun hr => round_tot1 (n := n) (ns := ns) (rank := r) (by omega) steps s [] h.ri
  have ha1 : r ≠ 1 → _ := fun hr => round_act (n := n) (ns := ns) (rank := r) (by omega) steps s [] h.ri
  have hup := h.up
  rw [if_neg hs] at hup
  generalize (roundM n ns r steps s []).1 = s' at *
  generalize (roundM n ns r steps s []).2 = f' at *
  have hw := woken_act (n := n) (rank := (r : Int)) (s := s') hR.f.1 hR.f.2
  have ha := act_le (n := n) (rank := (r : Int)) s'
  have he : f' = [] → wokenM s' f' = [] := fun e => by subst e; rfl
  have hac := h.ac
  have htot := h.tt
  have hr1 := h.r1
  have htot' : tot n s' ≤ 800 * (r + 1) := by
    by_cases hr : r = 1
    · have := h.one hr
      subst hr
      omega
    · have := ht1 hr
      omega
  have hact' : act n r s' ≤ 800 := by
    by_cases hr : r = 1
    · have := h.one hr
      omega
    · have := ha1 hr
      omega
  have hcast : ((r + 1 : Nat) : Int) = (r : Int) + 1 := by omega
  simp only [List.length_nil, Nat.add_zero] at hc
  refine ⟨⟨?_, by omega, ?_, htot', by rw [hcast]; omega, fun e => by omega⟩, by omega, he, fun i hi => (hR.f.2 i hi).1, fun k => ?_⟩
  · have := ri_next hR (by unfold nv; omega)
    rwa [hcast]
  · by_cases hf : f' = []
    · rw [he hf, if_pos rfl]
      omega
    · have : 0 < f'.length := List.length_pos_iff.2 hf
      omega
  · have := woken_len (n := n) (f'.take k) s' (hR.f.1.sublist (List.take_sublist _ _)) (fun i hi => (hR.f.2 i (List.mem_of_mem_take hi)).1)
    omega

/-- What there is at the beginning. -/
def rk0 (x : N) : Int := if x.k = 9 ∨ x.k = 13 then nv else if x.k < 1 ∨ 14 < x.k then nv else 0
def s0 (n : Nat) (ns : Nat → N) (m : Nat) : St := ⟨fun i => if i < m then rk0 (ns i) else 0, fun _ => []⟩
def steps0 (ns : Nat → N) : Nat → List (Nat × Nat)
  | 0 => []
  | i + 1 => steps0 ns i ++ (if (ns i).k = 9 ∨ (ns i).k = 13 then [(i, 0)] else [])
theorem steps0_mem {ns : Nat → N} : ∀ {m : Nat} {t : Nat × Nat}, t ∈ steps0 ns m ↔ t.1 < m ∧ t.2 = 0 ∧ ((ns t.1).k = 9 ∨ (ns t.1).k = 13)
  | 0, t => by simp [steps0]
  | m + 1, t => by
    unfold steps0
    rw [List.mem_append, steps0_mem (m := m)]
    constructor
    · rintro (⟨h1, h2, h3⟩ | h)
      · exact ⟨by omega, h2, h3⟩
      · split at h
        · obtain rfl := List.mem_singleton.1 h
          exact ⟨by simp, rfl, by assumption⟩
        · simp at h
    · rintro ⟨h1, h2, h3⟩
      rcases Nat.lt_or_ge t.1 m with hl | hl
      · exact .inl ⟨hl, h2, h3⟩
      · refine .inr ?_
        have e : t.1 = m := by omega
        rw [e] at h3
        rw [if_pos h3]
        exact List.mem_singleton.2 (by rw [← e, ← h2])
theorem steps0_len {ns : Nat → N} : ∀ m : Nat, (steps0 ns m).length ≤ m
  | 0 => by simp [steps0]
  | m + 1 => by
    unfold steps0
    have := steps0_len (ns := ns) m
    rw [List.length_append]
    split <;> simp <;> omega
theorem li_0 (hn : n ≤ 40) : LI n ns 1 (steps0 ns n) (s0 n ns n) := by
  have hrk : ∀ i, i < n → (s0 n ns n).rk i = rk0 (ns i) := fun i hi => if_pos hi
  have hl := steps0_len (ns := ns) n
  have ht : tot n (s0 n ns n) = 0 := by
    have : ∀ k : Nat, ((List.range k).map fun _ => 0).sum = 0 := fun k => by
      induction k with
      | zero => rfl
      | succ k ih => rw [List.range_succ, List.map_append, List.sum_append, ih]; rfl
    exact this n
  refine ⟨⟨by unfold nv; omega, fun i hi => ?_, fun i hi hne => ?_, fun j t h => by simp [s0] at h, fun t ht => ?_, ⟨by simp, by simp⟩, fun i hi hn => ?_⟩, by omega, ?_, by omega, by have := act_le (n := n) (rank := ((1 : Nat) : Int)) (s0 n ns n); omega, fun _ => ⟨ht, by omega⟩⟩
  · rw [hrk i hi]
    unfold rk0
    split
    · exact .inl rfl
    · split
      · exact .inl rfl
      · exact .inr (.inl (by omega))
  · rw [hrk i hi] at hne
    unfold rk0 at hne
    split at hne
    · exact absurd rfl hne
    · split at hne
      · exact absurd rfl hne
      · refine live_closed n ns i hi ?_
        unfold Der
        rw [if_neg (by omega), if_neg (by omega)]
        omega
  · obtain ⟨h1, h2, h3⟩ := steps0_mem.1 ht
    exact ⟨⟨h1, h3, fun _ q a hq => by omega⟩, .inl ⟨h2, rfl⟩⟩
  · rw [hrk i hi] at hn
    refine ⟨fun h9 h13 hr => ?_, fun hk => .inl ⟨(i, 0), steps0_mem.2 ⟨hi, rfl, hk⟩, rfl⟩⟩
    unfold rk0 at hn
    rw [if_neg (by omega), if_neg (by omega)] at hn
    cases hn
  · have := cnt_le n (never (s0 n ns n))
    split <;> omega
end

/-- Plain: the reference's. -/
def ofM (n : Nat) (l : Nat → Int) (a : Int) : Int := if 0 ≤ a ∧ a < n then l a.toNat else -1
def recM (n : Nat) (l : Nat → Int) : List Int → Int → Int
  | [], top => top + 1
  | a :: ys, top => if ofM n l a < 0 then -1 else recM n l ys (max top (ofM n l a))
def bestM (n : Nat) (l : Nat → Int) : List Int → Int → Int
  | [], best => best
  | a :: ys, best => bestM n l ys (if 0 ≤ ofM n l a ∧ (best < 0 ∨ ofM n l a < best) then ofM n l a else best)
def rankM (n : Nat) (x : N) (l : Nat → Int) : Int :=
  if x.k = 9 then recM n l x.ft 0 else if x.k = 13 then (if bestM n l x.br (-1) < 0 then -1 else bestM n l x.br (-1) + 1) else if x.k < 1 ∨ 14 < x.k then -1 else 0
def refM (n : Nat) (ns : Nat → N) : Nat → Nat → Int
  | 0, _ => -1
  | j + 1, i => if refM n ns j i < 0 then rankM n (ns i) (refM n ns j) else refM n ns j i
section
variable {n : Nat} {ns : Nat → N} {l : Nat → Int}
theorem of_pos {a : Int} : 0 ≤ ofM n l a ↔ 0 ≤ a ∧ a < n ∧ 0 ≤ l a.toNat := by
  unfold ofM
  split
  · rename_i h; exact ⟨fun h2 => ⟨h.1, h.2, h2⟩, fun h2 => h2.2.2⟩
  · rename_i h; exact ⟨fun h2 => by omega, fun h2 => absurd ⟨h2.1, h2.2.1⟩ h⟩
theorem of_le {m : Int} (hl : ∀ i, l i ≤ m) (hm : -1 ≤ m) (a : Int) : ofM n l a ≤ m := by
  unfold ofM
  split
  · exact hl _
  · exact hm
theorem of_ge (hl : ∀ i, -1 ≤ l i) (a : Int) : -1 ≤ ofM n l a := by
  unfold ofM
  split
  · exact hl _
  · omega
theorem rec_pos : ∀ (ys : List Int) (top : Int), 0 ≤ top → (0 ≤ recM n l ys top ↔ ∀ a ∈ ys, 0 ≤ a ∧ a < n ∧ 0 ≤ l a.toNat)
  | [], top, ht => by simp [recM]; omega
  | a :: ys, top, ht => by
    unfold recM
    have h1 := of_pos (n := n) (l := l) (a := a)
    split
    · rename_i h
      constructor
      · intro h2; omega
      · intro h2
        have := h1.2 (h2 a (by simp))
        omega
    · rename_i h
      rw [rec_pos ys _ (by omega)]
      constructor
      · intro h2 b hb
        rcases List.mem_cons.1 hb with rfl | hb
        · exact h1.1 (by omega)
        · exact h2 b hb
      · intro h2 b hb
        exact h2 b (List.mem_cons_of_mem _ hb)
theorem rec_le {m : Int} (hl : ∀ i, l i ≤ m) (hm : 0 ≤ m) : ∀ (ys : List Int) (top : Int), top ≤ m → recM n l ys top ≤ m + 1
  | [], top, ht => by simp [recM]; omega
  | a :: ys, top, ht => by
    unfold recM
    have := of_le (n := n) hl (by omega) a
    split
    · omega
    · exact rec_le hl hm ys _ (by omega)
theorem best_pos : ∀ (ys : List Int) (b : Int), -1 ≤ b → (0 ≤ bestM n l ys b ↔ 0 ≤ b ∨ ∃ a ∈ ys, 0 ≤ a ∧ a < n ∧ 0 ≤ l a.toNat)
  | [], b, hb => by simp [bestM]
  | a :: ys, b, hb => by
    unfold bestM
    have h1 := of_pos (n := n) (l := l) (a := a)
    by_cases hc : 0 ≤ ofM n l a ∧ (b < 0 ∨ ofM n l a < b)
    · rw [if_pos hc, best_pos ys _ (by omega)]
      exact ⟨fun _ => .inr ⟨a, by simp, h1.1 hc.1⟩, fun _ => .inl hc.1⟩
    · rw [if_neg hc, best_pos ys b hb]
      constructor
      · rintro (h | ⟨c, hc1, hc2⟩)
        · exact .inl h
        · exact .inr ⟨c, by simp [hc1], hc2⟩
      · rintro (h | ⟨c, hc1, hc2⟩)
        · exact .inl h
        · rcases List.mem_cons.1 hc1 with rfl | hc1
          · have := h1.2 hc2
            left
            omega
          · exact .inr ⟨c, hc1, hc2⟩
theorem best_le {m : Int} (hl : ∀ i, l i ≤ m) (hm : -1 ≤ m) : ∀ (ys : List Int) (b : Int), b ≤ m → bestM n l ys b ≤ m
  | [], b, hb => hb
  | a :: ys, b, hb => by
    unfold bestM
    have := of_le (n := n) hl hm a
    exact best_le hl hm ys _ (by split <;> omega)
theorem best_ge : ∀ (ys : List Int) (b : Int), -1 ≤ b → -1 ≤ bestM n l ys b
  | [], b, hb => hb
  | a :: ys, b, hb => by
    unfold bestM
    exact best_ge ys _ (by split <;> omega)
theorem rec_ge : ∀ (ys : List Int) (t : Int), -1 ≤ t → -1 ≤ recM n l ys t
  | [], b, hb => by unfold recM; omega
  | a :: ys, b, hb => by
    unfold recM
    split
    · omega
    · exact rec_ge ys _ (by omega)
theorem rank_pos (x : N) : 0 ≤ rankM n x l ↔ Der n x (fun i => 0 ≤ l i) := by
  unfold rankM Der
  split
  · exact rec_pos _ _ (by omega)
  · split
    · have := best_pos (n := n) (l := l) x.br (-1) (by omega)
      split
      · constructor
        · intro h; omega
        · intro h; have := this.2 (.inr h); omega
      · constructor
        · intro h; exact (this.1 (by omega)).resolve_left (by omega)
        · intro h; omega
    · split <;> omega
theorem rank_ge (x : N) : -1 ≤ rankM n x l := by
  unfold rankM
  split
  · exact rec_ge _ _ (by omega)
  · split
    · have := best_ge (n := n) (l := l) x.br (-1) (by omega)
      split <;> omega
    · split <;> omega
theorem rank_le {m : Int} (hl : ∀ i, l i ≤ m) (hm : 0 ≤ m) (x : N) : rankM n x l ≤ m + 1 := by
  unfold rankM
  split
  · exact rec_le hl hm _ _ hm
  · split
    · have := best_le (n := n) hl (by omega) x.br (-1) (by omega)
      split <;> omega
    · split <;> omega
theorem ref_bd : ∀ (j i : Nat), -1 ≤ refM n ns j i ∧ refM n ns j i ≤ j
  | 0, i => by simp [refM]
  | j + 1, i => by
    unfold refM
    have h1 := ref_bd j i
    have h2 := rank_ge (n := n) (l := refM n ns j) (ns i)
    have h3 := rank_le (n := n) (l := refM n ns j) (m := j) (fun i => (ref_bd j i).2) (by omega) (ns i)
    split <;> omega
theorem ref_mono (j i : Nat) (h : 0 ≤ refM n ns j i) : refM n ns (j + 1) i = refM n ns j i := by
  show (if refM n ns j i < 0 then _ else _) = _
  rw [if_neg (by omega)]
theorem ref_up (j d i : Nat) (h : 0 ≤ refM n ns j i) : 0 ≤ refM n ns (j + d) i := by
  induction d with
  | zero => exact h
  | succ d ih => rw [← Nat.add_assoc, ref_mono _ _ ih]; exact ih
theorem ref_sound (j : Nat) : ∀ i, i < n → 0 ≤ refM n ns j i → Live n ns i := by
  induction j with
  | zero => intro i _ h; simp [refM] at h
  | succ j ih =>
    intro i hi h
    unfold refM at h
    split at h
    · exact live_closed n ns i hi (((rank_pos _).1 h).mono ih)
    · exact ih i hi h
theorem ref_stable : ∃ j, j ≤ n ∧ ∀ i, i < n → 0 ≤ refM n ns (j + 1) i → 0 ≤ refM n ns j i := by
  refine Classical.byContradiction fun hc => ?_
  have hgo : ∀ j, j ≤ n + 1 → j ≤ cnt n (fun i => decide (0 ≤ refM n ns j i)) := by
    intro j
    induction j with
    | zero => intro _; omega
    | succ j ih =>
      intro hj
      have h1 := ih (by omega)
      have h2 : ¬ ∀ i, i < n → 0 ≤ refM n ns (j + 1) i → 0 ≤ refM n ns j i := fun h => hc ⟨j, by omega, h⟩
      obtain ⟨i, hi⟩ := Classical.not_forall.1 h2
      obtain ⟨hin, hi⟩ := Classical.not_imp.1 hi
      obtain ⟨hp, hq⟩ := Classical.not_imp.1 hi
      have := cnt_less (n := n) (f := fun i => decide (0 ≤ refM n ns j i)) (g := fun i => decide (0 ≤ refM n ns (j + 1) i)) (fun k _ hk => by
        simp only [decide_eq_true_eq] at hk ⊢
        rw [ref_mono _ _ hk]; exact hk) hin (by simpa using hq) (by simpa using hp)
      omega
  have := hgo (n + 1) (by omega)
  have := cnt_le n (fun i => decide (0 ≤ refM n ns (n + 1) i))
  omega
theorem ref_live (i : Nat) (hi : i < n) : 0 ≤ refM n ns (n + 1) i ↔ Live n ns i := by
  refine ⟨ref_sound _ i hi, fun hL => ?_⟩
  obtain ⟨j, hj, hst⟩ := ref_stable (n := n) (ns := ns)
  have hcl : Closed n ns (fun i => i < n → 0 ≤ refM n ns j i) := by
    intro i hi hd _
    by_cases h : 0 ≤ refM n ns j i
    · exact h
    · refine hst i hi ?_
      show 0 ≤ (if refM n ns j i < 0 then _ else _)
      rw [if_pos (by omega)]
      exact (rank_pos _).2 (hd.mono (fun k hk h => h hk))
  have := ref_up j (n + 1 - j) i (hL _ hcl hi)
  rwa [show j + (n + 1 - j) = n + 1 by omega] at this
end
end Lv
end Go.Proofs.YtpajccehkcgoaaaDoor
