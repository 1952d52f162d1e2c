/-
  What is proved: the program's Digits at every int, and what a row's list of package-level variables says of the table of powers of ten and of three errors; condition: those variables start as the program's text lays them.
-/
import Derived.Test.YtafbcohlbhblfabDoorNum
import Derived.Test.YtafbcohlbhblfabDoorShelf
import Derived.Test.YtafbcohlbhblfabDoorRows
import Derived.WalkKit
import Derived.WalkLawsBesides
import Derived.ProofKit
import Derived.OpenShut
import Derived.LaidMore
import Derived.Stop.Joined
import Derived.Stop.LaidErr
import Derived.Lib.LaidTab
import Derived.Lib.AppendIntMem
import Derived.WalkSmall
import Derived.MakeChecks
namespace Go.Proofs.YtafbcohlbhblfabDoor
open Go Go.ChangeShapes Go.WideShapes Go.ChangeAt Go.RowKit

theorem own : ownKnob Tryd.prog.godebug = none := by kernel_rfl
theorem gPow : Tryd.prog.globalNamed "internal/strconv.uint64pow10" = some 3 := by kernel_rfl
theorem tPow : (Tryd.prog.globals[3]?).map (·.type) = some 82 := by kernel_rfl
theorem cellsU64 : Tryd.prog.cellsOf 69 = 1 := by kernel_rfl
theorem cellsTab : Tryd.prog.cellsOf 82 = 20 := by kernel_rfl
theorem powData : (Rows.laid_internal_strconv_uint64pow10 : DataW Unit) = Lib.tabData .u64 Lib.pow10Tab := by kernel_rfl

/-- The program's Digits: strconv.Itoa by its contract. -/
theorem impl_digits (n : Int) (h0 : -9223372036854775808 ≤ n) (h1 : n ≤ 9223372036854775807) (w : World) (htab : Lib.TabIs Tryd.prog w "internal/strconv.uint64pow10" .u64 Lib.pow10Tab) :
    Calls Tryd.prog 26 #[.int .i64 n] w fun e w' => e = .returned (.string ⟨(Lib.itoa n).toArray⟩) ∧ Below w.heap.size w w' := by
  go_enter Tryd.func26, Tryd.ntmps26
  go_wp2_with (go_at_call 39; refine (Tryd.strconv_Itoa n h0 h1 _ htab).mono ?_; rintro e w1 ⟨rfl, k, os, rfl⟩)
  go_ret
  exact ⟨rfl, Lib.below_grow _ _ (Nat.le_refl _) _ _⟩

/-- What a row's condition says of the table of powers of ten. -/
theorem pow_of_laid {W : World} {r : List (String × DataW Unit)} (hL : laidMet Tryd.prog (("internal/strconv.uint64pow10", Rows.laid_internal_strconv_uint64pow10) :: r) W) :
    Lib.TabIs Tryd.prog W "internal/strconv.uint64pow10" .u64 Lib.pow10Tab := by
  rw [powData] at hL
  exact Lib.tabIs_of_head gPow tPow Tryd.underlying82 Tryd.underlying69 cellsU64 cellsTab hL

theorem wf64 {n : Int} (h : (Lit.int .i64 n).wf = true) : -9223372036854775808 ≤ n ∧ n ≤ 9223372036854775807 := by
  have e1 : IntKind.i64.min = -9223372036854775808 := rfl
  have e2 : IntKind.i64.max = 9223372036854775807 := rfl
  simp [Lit.wf, e1, e2] at h
  omega

theorem gSyn : Tryd.prog.globalNamed "strconv.ErrSyntax" = some 1 := by kernel_rfl
theorem gRng : Tryd.prog.globalNamed "strconv.ErrRange" = some 2 := by kernel_rfl
theorem gNo : Tryd.prog.globalNamed "loop.example/g00465/impl.errNoNumber" = some 0 := by kernel_rfl
theorem tSyn : (Tryd.prog.globals[1]?).map (·.type) = some 55 := by kernel_rfl
theorem tRng : (Tryd.prog.globals[2]?).map (·.type) = some 55 := by kernel_rfl
theorem tNo : (Tryd.prog.globals[0]?).map (·.type) = some 55 := by kernel_rfl
theorem cellsErr : Tryd.prog.cellsOf 92 = 1 := by kernel_rfl
theorem cellsStr : Tryd.prog.cellsOf 9 = 1 := by kernel_rfl
theorem star : "*" ++ "errors.errorString" = "*errors.errorString" := by decide
theorem rowErr (u : TypeId) (h : Tryd.prog.typeName? 3 u = some "*errors.errorString") : u = 90 :=
  typeName_ptr_named (nm := "errors.errorString") (by rw [star]; kernel_rfl) (by kernel_rfl) (by decide) u (by rw [star]; exact h)

/-- What the walks ask of the package-level variables. -/
structure Vars (w : World) where
  tab : Lib.TabIs Tryd.prog w "internal/strconv.uint64pow10" .u64 Lib.pow10Tab
  tS : TypeId
  pS : Value
  syn : w.var? Tryd.prog "strconv.ErrSyntax" = some #[.iface tS pS]
  tR : TypeId
  pR : Value
  rng : w.var? Tryd.prog "strconv.ErrRange" = some #[.iface tR pR]
  tN : TypeId
  pN : Value
  no : w.cell? ⟨0, 0, none⟩ = some (.iface tN pN)
  oldS : 1 < w.heap.size
  oldR : 2 < w.heap.size
  oldN : 0 < w.heap.size

/-- They stand so in every later world that keeps the old blocks. -/
def Vars.on {w w' : World} (V : Vars w) (hb : Below w.heap.size w w') : Vars w' where
  tab := Lib.tabBelow_of_tabIs V.tab _ hb
  tS := V.tS
  pS := V.pS
  syn := var?_below hb gSyn V.oldS V.syn
  tR := V.tR
  pR := V.pR
  rng := var?_below hb gRng V.oldR V.rng
  tN := V.tN
  pN := V.pN
  no := (hb.cell (p := ⟨0, 0, none⟩) V.oldN).trans V.no
  oldS := Nat.lt_of_lt_of_le V.oldS hb.size
  oldR := Nat.lt_of_lt_of_le V.oldR hb.size
  oldN := Nat.lt_of_lt_of_le V.oldN hb.size

theorem old_of_cell {W : World} {g : Nat} {v : Value} (hc : W.cell? ⟨g, 0, none⟩ = some v) : g < W.heap.size := by
  rcases Nat.lt_or_ge g W.heap.size with h | h
  · exact h
  · simp [World.cell?, Array.getElem?_eq_none h] at hc

theorem vars_of_laid {W : World} {r0 r1 r2 r3 : List (String × DataW Unit)}
    (h0 : laidMet Tryd.prog (("internal/strconv.uint64pow10", Rows.laid_internal_strconv_uint64pow10) :: r0) W)
    (h1 : laidMet Tryd.prog (("strconv.ErrRange", Rows.laid_strconv_ErrRange) :: r1) W)
    (h2 : laidMet Tryd.prog (("strconv.ErrSyntax", Rows.laid_strconv_ErrSyntax) :: r2) W)
    (h3 : laidMet Tryd.prog (("loop.example/g00465/impl.errNoNumber", Rows.laid_loop_example_g00465_impl_errNoNumber) :: r3) W) : Nonempty (Vars W) := by
  obtain ⟨a1, s1, hv1, -, -, -⟩ := laid_sentinel h1 gRng tRng Tryd.underlying55 rowErr Tryd.underlying90 Tryd.underlying92 rfl rfl Tryd.underlying9 cellsErr cellsStr
  obtain ⟨a2, s2, hv2, -, -, -⟩ := laid_sentinel h2 gSyn tSyn Tryd.underlying55 rowErr Tryd.underlying90 Tryd.underlying92 rfl rfl Tryd.underlying9 cellsErr cellsStr
  obtain ⟨a3, s3, hv3, -, -, -⟩ := laid_sentinel h3 gNo tNo Tryd.underlying55 rowErr Tryd.underlying90 Tryd.underlying92 rfl rfl Tryd.underlying9 cellsErr cellsStr
  have hc1 : W.cell? ⟨2, 0, none⟩ = some (.iface 90 (.pointer (some a1))) := by simpa using World.var?_cell gRng hv1 0
  have hc2 : W.cell? ⟨1, 0, none⟩ = some (.iface 90 (.pointer (some a2))) := by simpa using World.var?_cell gSyn hv2 0
  have hc3 : W.cell? ⟨0, 0, none⟩ = some (.iface 90 (.pointer (some a3))) := by simpa using World.var?_cell gNo hv3 0
  exact ⟨{ tab := pow_of_laid h0, tS := _, pS := _, syn := hv2, tR := _, pR := _, rng := hv1, tN := _, pN := _, no := hc3, oldS := old_of_cell hc2, oldR := old_of_cell hc1, oldN := old_of_cell hc3 }⟩
end Go.Proofs.YtafbcohlbhblfabDoor
