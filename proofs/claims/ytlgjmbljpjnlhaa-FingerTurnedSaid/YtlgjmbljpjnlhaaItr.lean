/-
  The table's numbers, told with their places, as a loop's own function.
-/
import Derived.Test.YtlgjmbljpjnlhaaTbl
import Derived.Test.YtlgjmbljpjnlhaaRgw
namespace Go.Proofs.Ytlgjmbljpjnlhaa
open Go.RowKit Go.Shelf
def encN (k : Nat) : Array Value := #[.int .i64 k, .int .u64 (tab k)]
set_option maxRecDepth 100000 in
set_option maxHeartbeats 4000000 in
theorem numbers_it (n : Nat) (hn : 2 ≤ n) (w : World) : ItW Fence.wide n Try.prog 15 #[] encN (List.range 256) (fun _ => False) w := by
  intro l J Jx W hW hl hwl hJ hJx hY h0
  refine callsIn_of_wp Try.func15 rfl trivial ?_ rfl
  simp only [Try.ntmps15, List.size_toArray, List.length_cons, List.length_nil, Nat.reduceAdd, Nat.reduceSub, Array.replicate_succ, Array.replicate_zero, List.push_toArray, List.append_toArray, List.nil_append, List.cons_append]
  have HY := Lib.hid hY
  have HJ := Lib.hid hJ
  clear hY hJ hJx
  gi_wp2
  gi_loopg [3] 256 (fun g v wr => ∃ (k : Nat) (S : Nat → Prop), k + g = 256 ∧ v = .int .i64 k ∧ J (List.range k) S wr ∧ W.heap.size ≤ wr.heap.size ∧ ∀ b, S b → W.heap.size ≤ b ∧ b < wr.heap.size)
  case atStart => exact ⟨0, fun _ => False, by omega, rfl, h0, Nat.le_refl _, fun _ h => h.elim⟩
  case round =>
    obtain ⟨k, S, hk, rfl, hj, hsz, hS⟩ := hrel
    cases gk with
    | zero =>
      obtain rfl : k = 256 := by omega
      gi_wp2
      go_end0
      exact ⟨⟨_, rfl⟩, .inl ⟨S, hj⟩⟩
    | succ g =>
      have hlt : (k : Int) < 256 := by omega
      obtain ⟨rest, hcut⟩ : ∃ rest, List.range 256 = List.range k ++ k :: rest := ⟨((List.range g).map Nat.succ).map (k + ·), by rw [← hk, List.range_add, List.range_succ_eq_map]; simp⟩
      obtain ⟨fn, tmps, assign, body, hy, hR⟩ := HY.out (List.range k) k rest S wr hj hcut hS hsz
      have HR := Lib.hid hR
      have HC := Lib.hid hcut
      have HT := Lib.hid (shifted_any k (by omega) wr)
      clear hR hcut
      simp only [encN] at hy
      have hw : IntKind.u64.wrap (k : Int) = k := by simp [IntKind.wrap, IntKind.bits, IntKind.signed]; omega
      gi_wp2_with (refine ⟨trivial, fun _ => by omega, ?_⟩; gi_at_call 16; refine (callsIn_wide.2 HT.out).mono ?_; rintro e w2 ⟨rfl, rfl⟩)
      refine ⟨fun _ => by omega, HR.out.mono ?_⟩
      rintro e W3 (⟨rfl, S', hJ3, hk3, hS3⟩ | ⟨rfl, S', hJx3⟩)
      · have hsz3 := hk3.size
        rw [← List.range_succ] at hJ3
        gi_wp2
        gi_roundg g
        case measure => omega
        case rel => exact ⟨k + 1, S', by omega, by go_num, hJ3, by omega, fun b hb => ⟨(hS3 b hb).1.elim (fun h => (hS b h).1) (fun h => by omega), (hS3 b hb).2⟩⟩
      · gi_wp2
        refine bodyPost_ret (results_none rfl _ _ _) rfl ?_
        exact ⟨⟨_, rfl⟩, .inr ⟨List.range k ++ [k], rest, S', by rw [HC.out]; simp, hJx3.1⟩⟩

set_option maxRecDepth 100000 in
set_option maxHeartbeats 4000000 in
theorem numbers_any (n : Nat) (w : World) : CallsIn Fence.wide n Try.prog 13 #[] w fun e w' => e = .returned (.func (.func 15) #[] #[]) ∧ w' = w := by
  refine callsIn_of_wp Try.func13 rfl trivial ?_ rfl
  simp only [Try.ntmps13, List.size_toArray, List.length_nil, Nat.reduceSub, Array.replicate_succ, Array.replicate_zero, List.push_toArray, List.append_toArray, List.nil_append]
  gi_wp2
  go_ret
  exact ⟨rfl, rfl⟩

end Go.Proofs.Ytlgjmbljpjnlhaa
