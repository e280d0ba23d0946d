/-
  What the rows' list gives: the package-level variables hold what the walks ask.
-/
import Derived.Test.YtfboecnhakihnaaGreatDoorJUnit
import Derived.Test.YtfboecnhakihnaaGreatDoorUfr
import Derived.Test.YtfboecnhakihnaaGreatDoorRows
import Derived.PinnedBridge
import Derived.Lib.LaidU8
import Derived.Stop.LaidErr
import Derived.MakeChecks
namespace Go.Proofs.YtfboecnhakihnaaGreatDoor
open Go.RowKit

theorem star : "*" ++ "errors.errorString" = "*errors.errorString" := by decide
theorem row127 (u : TypeId) (h : Tryz.prog.typeName? 3 u = some "*errors.errorString") : u = 224 :=
  typeName_ptr_named (nm := "errors.errorString") (by rw [star]; kernel_rfl) (by kernel_rfl) (by decide) u (by rw [star]; exact h)
theorem c129 : Tryz.prog.cellsOf 226 = 1 := by kernel_rfl
theorem c9 : Tryz.prog.cellsOf 9 = 1 := by kernel_rfl
theorem gErr : Tryz.prog.globalNamed "strconv.ErrSyntax" = some 3 := by kernel_rfl
theorem gErrT : (Tryz.prog.globals[3]?).map (·.type) = some 168 := by kernel_rfl
theorem gWords : Tryz.prog.globalNamed "courant/json.words" = some 2 := by kernel_rfl
theorem gWordsT : (Tryz.prog.globals[2]?).map (·.type) = some 213 := by kernel_rfl
theorem u8x : U8Extra Tryz.prog Tryz.lays260_ren := ⟨by kernel_rfl, by kernel_rfl, by kernel_rfl, by kernel_rfl, by kernel_rfl, by kernel_rfl, by kernel_rfl⟩
theorem accept_eq : (Rows.laid_unicode_utf8_acceptRanges : DataW Unit) = Lib.acceptData := by kernel_rfl

theorem word_cell {W : World} (h : Lib.VarReads Tryz.prog W "courant/json.words" Rows.laid_courant_json_words) (i : Nat) (hi : i < 4) (l : List UInt8) (hl : [([] : List UInt8), [110, 117, 108, 108], [102, 97, 108, 115, 101], [116, 114, 117, 101]][i]? = some l) : W.cell? ⟨2, i, none⟩ = some (.string ⟨l.toArray⟩) := by
  obtain ⟨g, t, cs, fuel, p, hg, hty, hvar, hd⟩ := h
  obtain rfl := Option.some.inj (gWords.symm.trans hg)
  obtain rfl := Option.some.inj (gWordsT.symm.trans hty)
  obtain ⟨fuel', d, q, hdi, he⟩ := Lib.array_elem Tryz.underlying213 hd i hi
  rw [c9, Nat.mul_one] at he
  obtain ⟨s, hs, hx, _⟩ := DataW.trod_string Tryz.underlying9 he
  have hc := World.var?_cell hg hvar i
  have hci : cs.toList[i]? = some (.string s) := by
    have := congrArg (fun l : List Value => l[0]?) hs
    simpa [List.getElem?_drop] using this
  have hsl : s.data.toList = l := by
    have e1 : d = .lit (.string s.data.toList) := (Prod.mk.inj hx).1
    have e2 : some d = some (.lit (.string l)) := by
      rw [← hdi]
      match i, hi, hl with
      | 0, _, hl => cases hl; rfl
      | 1, _, hl => cases hl; rfl
      | 2, _, hl => cases hl; rfl
      | 3, _, hl => cases hl; rfl
    rw [e1] at e2
    injection e2 with e2
    injection e2 with e2
    injection e2 with e2
  rw [hc, ← Array.getElem?_toList, hci]
  congr 2
  rw [← hsl]
theorem gl_of {W : World} (h : laidMetH Tryz.prog theLaid W)   : js.Gl W := by
  have h0 : laidMet Tryz.prog theLaid W := by rw [MakeChecks.laidMetH_plain _ _ _ (by kernel_rfl)] at h; exact h
  obtain ⟨ps, hL, _⟩ := h0
  have hr := Lib.LaidVars_reads hL
  have hw := hr "courant/json.words" Rows.laid_courant_json_words (by simp [theLaid, Rows.valueWalksUptoRow])
  have h3 : Lib.VarReads Tryz.prog W "unicode/utf8.first" Lib.firstData := by
    have := hr "unicode/utf8.first" Rows.laid_unicode_utf8_first (by simp [theLaid, Rows.valueWalksUptoRow])
    rw [Rows.laid_unicode_utf8_first, Pinned.utf8First_eq] at this
    exact this
  have h4 : Lib.VarReads Tryz.prog W "unicode/utf8.acceptRanges" Lib.acceptData := by
    have := hr "unicode/utf8.acceptRanges" Rows.laid_unicode_utf8_acceptRanges (by simp [theLaid, Rows.valueWalksUptoRow])
    rw [accept_eq] at this
    exact this
  have hT : Lib.Utf8Tabs 0 1 W := utf8Tabs_of_reads Tryz.lays260 u8x h3 h4
  refine ⟨hT, word_cell hw 0 (by omega) _ rfl, word_cell hw 1 (by omega) _ rfl, word_cell hw 2 (by omega) _ rfl, word_cell hw 3 (by omega) _ rfl, ?_⟩
  have h0 : laidMet Tryz.prog theLaid W := by rw [MakeChecks.laidMetH_plain _ _ _ (by kernel_rfl)] at h; exact h
  obtain ⟨a, s, hv, _⟩ := laid_sentinel (h0.tail.tail.tail.tail.tail) gErr gErrT Tryz.underlying168 row127 Tryz.underlying224 Tryz.underlying226 rfl rfl Tryz.underlying9 c129 c9
  have hc := World.var?_cell gErr hv 0
  exact ⟨_, by simpa using hc, .inr ⟨_, _, rfl⟩⟩
end Go.Proofs.YtfboecnhakihnaaGreatDoor
