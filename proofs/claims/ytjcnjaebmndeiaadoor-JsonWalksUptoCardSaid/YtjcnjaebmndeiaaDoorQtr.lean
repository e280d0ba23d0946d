/-
  The reference's 'Quote': a string as it is printed.
-/
import Derived.Test.YtjcnjaebmndeiaaDoorQtm
import Derived.Test.YtjcnjaebmndeiaaDoorWord
namespace Go.Proofs.YtjcnjaebmndeiaaDoor
open Go.RowKit

theorem qstr_cat (l : Bs) (t : ByteArray) : str l ++ t = str (l ++ t.data.toList) := by
  apply Go.WideShapes.bytes_inj
  rw [ByteArray.data_append]
  simp [str]
theorem qstr_size (l : Bs) : (str l).size = l.length := rfl
theorem hex_fin : ∀ n : Fin 16, (⟨#[48, 49, 50, 51, 52, 53, 54, 55, 56, 57, 97, 98, 99, 100, 101, 102]⟩ : ByteArray).extract n.val (n.val + 1) = ⟨#[hexS n.val]⟩ := by decide +kernel
theorem hex_one (n : Nat) (h : n < 16) : (⟨#[48, 49, 50, 51, 52, 53, 54, 55, 56, 57, 97, 98, 99, 100, 101, 102]⟩ : ByteArray).extract n (n + 1) = ⟨#[hexS n]⟩ := hex_fin ⟨n, h⟩
/-- What holds in its loop. -/
def QtRel (w : World) (s : ByteArray) (g : Nat) (v i : Value) (wr : World) : Prop :=
  ∃ (k n : Nat) (a b : Bs), k + g = s.size ∧ s.data.toList = a ++ b ∧ a.length = k ∧ At s k b ∧ i = .int .i64 k ∧ v = .string (str (34 :: quoL a)) ∧ w.drewN n = wr
theorem QtRel.next {w : World} {s : ByteArray} {a r : Bs} {c : UInt8} {k n g : Nat} {v i : Value} {wr : World} (h : s.data.toList = a ++ c :: r) (hk : k + (g + 1) = s.size) (ha : a.length = k) (hat : At s k (c :: r)) (hi : i = .int .i64 ((k + 1 : Nat) : Int)) (hv : v = .string (str (34 :: quoL a ++ quoC c))) (hw : w.drewN n = wr) : QtRel w s g v i wr :=
  ⟨k + 1, n, a ++ [c], r, by omega, by rw [h]; simp, by simp [ha], hat.tail, hi, by rw [hv, quoL_app]; simp [quoL], hw⟩

set_option maxHeartbeats 1000000 in
set_option maxRecDepth 100000 in
theorem quote_any (s : ByteArray) (w : World) (hs : s.size ≤ 30000) :
    Calls Tryd.prog 30 #[.string s] w fun e w' => e = .returned (.string (str (34 :: (quoL s.data.toList ++ [34])))) ∧ ∃ n, w' = w.drewN n := by
  have hrel0 : QtRel w s s.size (.string ⟨#[34]⟩) (.int .i64 0) w := ⟨0, 0, [], s.data.toList, by omega, rfl, rfl, At.start s, rfl, rfl, rfl⟩
  generalize hP : (fun (e : Ending) (w' : World) => e = .returned (.string (str (34 :: (quoL s.data.toList ++ [34])))) ∧ ∃ n, w' = w.drewN n) = POST
  have HP := Lib.hid hP
  clear hP
  go_enter Tryd.func30, Tryd.ntmps30
  go_wp2
  go_loopg [3, 4] s.size (fun g v i wr => QtRel w s g v i wr)
  case atStart => exact hrel0
  case round =>
    clear hrel0
    obtain ⟨k, n, a, b, hk, hab, hal, hat, rfl, rfl, hW⟩ := hrel
    have HW := Lib.hid hW
    have HAB := Lib.hid hab
    have hql := (quoL_len a).2
    have hsz : (str (34 :: quoL a)).size ≤ 200000 := by rw [qstr_size]; simp; omega
    clear hW hab
    cases b with
    | nil =>
      have hk' : ¬ k < s.size := by have := hat.nil; omega
      have s1 : ¬ (9223372036854775807 < (str (34 :: quoL a)).size + 1) := by omega
      clear hat
      go_wp2
      rw [← HP.out]
      refine ⟨?_, n, HW.out.symm⟩
      have e : s.data.toList = a := by rw [HAB.out, List.append_nil]
      rw [e]
      exact congrArg (fun x => Ending.returned (.string x)) (qstr_cat (34 :: quoL a) ⟨#[34]⟩)
    | cons c r =>
      have hlt := hat.lt
      have hget := hat.get hlt
      have hone : s.extract k (k + 1) = ⟨#[c]⟩ := ba_ext (by rw [ext_list, List.drop_take, hat.eq, Nat.add_sub_cancel_left]; rfl)
      have HO := Lib.hid hone
      have hosz : (s.extract k (k + 1)).size = 1 := by rw [hone]; rfl
      have HAt := Lib.hid hat
      obtain ⟨g', hg'⟩ : ∃ g', gk = g' + 1 := ⟨gk - 1, by omega⟩
      subst hg'
      have s1 : ¬ (9223372036854775807 < (str (34 :: quoL a)).size + 1) := by omega
      have s2 : ¬ (9223372036854775807 < (str (34 :: quoL a)).size + (s.extract k (k + 1)).size) := by omega
      clear hone hat
      by_cases he : c.toNat = 34 ∨ c.toNat = 92
      · have hq : quoC c = [92, c] := by rw [quoC, if_pos he]
        have HQ := Lib.hid hq
        have s3 : ¬ (9223372036854775807 < (str (34 :: quoL a) ++ (⟨#[92]⟩ : ByteArray)).size + (s.extract k (k + 1)).size) := by rw [qstr_cat, qstr_size, hosz]; simp; omega
        have hb' : ((c.toNat : Int) == 34) = true ∨ (((c.toNat : Int) == 34) = false ∧ ((c.toNat : Int) == 92) = true) := by
          simp only [beq_iff_eq, beq_eq_false_iff_ne, ne_eq]; omega
        clear hq he hosz
        rcases hb' with b1 | ⟨b1, b2⟩
        all_goals
          go_wp2
          go_roundg g'
          case measure => omega
          case rel => exact QtRel.next HAB.out (by omega) hal HAt.out (by go_num) (by rw [HQ.out, HO.out, qstr_cat, qstr_cat]; simp) HW.out
      · have b1 : ((c.toNat : Int) == 34) = false := by simp only [beq_eq_false_iff_ne, ne_eq]; omega
        have b2 : ((c.toNat : Int) == 92) = false := by simp only [beq_eq_false_iff_ne, ne_eq]; omega
        by_cases hlo : c.toNat < 32
        · have hq : quoC c = [92, 117, 48, 48, hexS (c.toNat / 16), hexS (c.toNat % 16)] := by rw [quoC, if_neg he, if_pos hlo]
          have HQ := Lib.hid hq
          have b3 : (c.toNat : Int) < 32 := by omega
          clear hq he hosz
          go_wp2
          go_quiet (fail)
          go_wp2
          go_roundg g'
          case measure => omega
          case rel => exact QtRel.next (n := n + nq) HAB.out (by omega) hal HAt.out (by go_num) (by rw [HQ.out, hex_one (c.toNat / 16) (by omega), hex_one (c.toNat % 16) (by omega), qstr_cat, qstr_cat, qstr_cat]; simp) (by rw [← HW.out]; simp)
        · have hq : quoC c = [c] := by rw [quoC, if_neg he, if_neg hlo]
          have HQ := Lib.hid hq
          have b3 : ¬ (c.toNat : Int) < 32 := by omega
          clear hq he hosz
          go_wp2
          go_roundg g'
          case measure => omega
          case rel => exact QtRel.next HAB.out (by omega) hal HAt.out (by go_num) (by rw [HQ.out, HO.out, qstr_cat]) HW.out
end Go.Proofs.YtjcnjaebmndeiaaDoor
