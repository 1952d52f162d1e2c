/-
  No cell of these rows narrows 'for every input' (looked for: loops, veiled, ifaces, maps, wideKeys, modest, calm, conditions, laid).
  DERIVED. THE GIVEN ROWS OF THIS SEAT. 6 by the template 'for every input the law returns true; each argument reads behind the call as it read before'; 0 by the template 'total and deterministic' (their statements: YtjopjdidbkhmnaaTotals.lean).
  GIVEN WITH THE SEED: the statements are not yours to turn. If you find one false, say at which input.
  Laid BY PROGRAM, IN A SANDBOX (cutbox-rows.mjs): the forced cells as the released guide's own fill.sh prints them over the translation c726edf2f15e835b… (all of the seat's roots in one cut). By AI agents, Wed Nov 11 2026. No macro, syntax, notation, axiom, sorry.
-/
import Derived.Test.YtjopjdidbkhmnaaChecked
import GoSem.Claim
import GoSem.ClaimJoined
import GoSem.ClaimMapViews
import Derived.JoinedTies
import Derived.KernelRfl
namespace Go.Proofs.Ytjopjdidbkhmnaa
/- THE CELL 'sum', in the pinned program and in every row, IS THE sha256 OF THE DUMP (.gsa) THAT YtjopjdidbkhmnaaProg.lean LOADS. Nothing in Lean hashes anything: it is a label: what it is worth is what the hold of that sum in a sandbox is worth. -/
noncomputable def Try.pinned : Pinned := { name := "ytjopjdidbkhmnaa", sum := "c726edf2f15e835bd4d28bf57810d8441b72ef2618ea7a8ca1531fbe2c4cfd41", checked := Try.checked }
namespace Rows
def none {H : Type} : Left H := { results := [], args := [] }

/-- 'laws.FnExactNameOk': WHATEVER THE INPUT: true; the input reads as it did. -/
def fnExactNameOkSpec : ChangeSpec := { name := "fnExactNameOk", fn := fun _ => fun
  | [d] => { results := [.lit (.bool true)], args := [d] }
  | _ => none }
def fnExactNameOkRow : OpenClaim := { program := "ytjopjdidbkhmnaa", sum := "c726edf2f15e835bd4d28bf57810d8441b72ef2618ea7a8ca1531fbe2c4cfd41", func := "loop.example/g00465/laws.FnExactNameOk", spec := "fnExactNameOk", apart := false }
def FnExactNameOkSaid : Prop := fnExactNameOkRow.holds Try.pinned (OpenSpec.ofChange fnExactNameOkSpec)

/-- ITS FALSE NEIGHBOUR: 'it returns false'. Refute it at one input. -/
def fnExactNameOkWrong : ChangeSpec := { name := "fnExactNameOk", fn := fun _ => fun
  | [d] => { results := [.lit (.bool false)], args := [d] }
  | _ => none }
def FnExactNameOkWrongFalsely : Prop := fnExactNameOkRow.holds Try.pinned (OpenSpec.ofChange fnExactNameOkWrong)

/-- 'laws.FnExactMetricOk': WHATEVER THE INPUT: true; the input reads as it did. -/
def fnExactMetricOkSpec : ChangeSpec := { name := "fnExactMetricOk", fn := fun _ => fun
  | [d] => { results := [.lit (.bool true)], args := [d] }
  | _ => none }
def fnExactMetricOkRow : OpenClaim := { program := "ytjopjdidbkhmnaa", sum := "c726edf2f15e835bd4d28bf57810d8441b72ef2618ea7a8ca1531fbe2c4cfd41", func := "loop.example/g00465/laws.FnExactMetricOk", spec := "fnExactMetricOk", apart := false }
def FnExactMetricOkSaid : Prop := fnExactMetricOkRow.holds Try.pinned (OpenSpec.ofChange fnExactMetricOkSpec)

/-- ITS FALSE NEIGHBOUR: 'it returns false'. Refute it at one input. -/
def fnExactMetricOkWrong : ChangeSpec := { name := "fnExactMetricOk", fn := fun _ => fun
  | [d] => { results := [.lit (.bool false)], args := [d] }
  | _ => none }
def FnExactMetricOkWrongFalsely : Prop := fnExactMetricOkRow.holds Try.pinned (OpenSpec.ofChange fnExactMetricOkWrong)

/-- 'laws.FnExactPaceOk': WHATEVER THE INPUT: true; the input reads as it did. -/
def fnExactPaceOkSpec : ChangeSpec := { name := "fnExactPaceOk", fn := fun _ => fun
  | [d] => { results := [.lit (.bool true)], args := [d] }
  | _ => none }
def fnExactPaceOkRow : OpenClaim := { program := "ytjopjdidbkhmnaa", sum := "c726edf2f15e835bd4d28bf57810d8441b72ef2618ea7a8ca1531fbe2c4cfd41", func := "loop.example/g00465/laws.FnExactPaceOk", spec := "fnExactPaceOk", apart := false }
def FnExactPaceOkSaid : Prop := fnExactPaceOkRow.holds Try.pinned (OpenSpec.ofChange fnExactPaceOkSpec)

/-- ITS FALSE NEIGHBOUR: 'it returns false'. Refute it at one input. -/
def fnExactPaceOkWrong : ChangeSpec := { name := "fnExactPaceOk", fn := fun _ => fun
  | [d] => { results := [.lit (.bool false)], args := [d] }
  | _ => none }
def FnExactPaceOkWrongFalsely : Prop := fnExactPaceOkRow.holds Try.pinned (OpenSpec.ofChange fnExactPaceOkWrong)

/-- 'laws.FnExactPaceNew': WHATEVER THE INPUT: true; the input reads as it did. -/
def fnExactPaceNewSpec : ChangeSpec := { name := "fnExactPaceNew", fn := fun _ => fun
  | [] => { results := [.lit (.bool true)], args := [] }
  | _ => none }
def fnExactPaceNewRow : OpenClaim := { program := "ytjopjdidbkhmnaa", sum := "c726edf2f15e835bd4d28bf57810d8441b72ef2618ea7a8ca1531fbe2c4cfd41", func := "loop.example/g00465/laws.FnExactPaceNew", spec := "fnExactPaceNew", apart := false }
def FnExactPaceNewSaid : Prop := fnExactPaceNewRow.holds Try.pinned (OpenSpec.ofChange fnExactPaceNewSpec)

/-- ITS FALSE NEIGHBOUR: 'it returns false'. Refute it at one input. -/
def fnExactPaceNewWrong : ChangeSpec := { name := "fnExactPaceNew", fn := fun _ => fun
  | [] => { results := [.lit (.bool false)], args := [] }
  | _ => none }
def FnExactPaceNewWrongFalsely : Prop := fnExactPaceNewRow.holds Try.pinned (OpenSpec.ofChange fnExactPaceNewWrong)

/-- 'laws.FnExactOrderOk': WHATEVER THE INPUT: true; the input reads as it did. -/
def fnExactOrderOkSpec : ChangeSpec := { name := "fnExactOrderOk", fn := fun _ => fun
  | [d] => { results := [.lit (.bool true)], args := [d] }
  | _ => none }
def fnExactOrderOkRow : OpenClaim := { program := "ytjopjdidbkhmnaa", sum := "c726edf2f15e835bd4d28bf57810d8441b72ef2618ea7a8ca1531fbe2c4cfd41", func := "loop.example/g00465/laws.FnExactOrderOk", spec := "fnExactOrderOk", inPlace := ["internal/bytealg.IndexByteString"], unfollowed := true, recurses := true, apart := false }
def FnExactOrderOkSaid : Prop := fnExactOrderOkRow.holds Try.pinned (OpenSpec.ofChange fnExactOrderOkSpec)

/-- ITS FALSE NEIGHBOUR: 'it returns false'. Refute it at one input. -/
def fnExactOrderOkWrong : ChangeSpec := { name := "fnExactOrderOk", fn := fun _ => fun
  | [d] => { results := [.lit (.bool false)], args := [d] }
  | _ => none }
def FnExactOrderOkWrongFalsely : Prop := fnExactOrderOkRow.holds Try.pinned (OpenSpec.ofChange fnExactOrderOkWrong)

/-- 'laws.FnExactOrderSame': WHATEVER THE INPUT: true; the input reads as it did. -/
def fnExactOrderSameSpec : ChangeSpec := { name := "fnExactOrderSame", fn := fun _ => fun
  | [d1, d2] => { results := [.lit (.bool true)], args := [d1, d2] }
  | _ => none }
def fnExactOrderSameRow : OpenClaim := { program := "ytjopjdidbkhmnaa", sum := "c726edf2f15e835bd4d28bf57810d8441b72ef2618ea7a8ca1531fbe2c4cfd41", func := "loop.example/g00465/laws.FnExactOrderSame", spec := "fnExactOrderSame", apart := false }
def FnExactOrderSameSaid : Prop := fnExactOrderSameRow.holds Try.pinned (OpenSpec.ofChange fnExactOrderSameSpec)

/-- ITS FALSE NEIGHBOUR: 'it returns false'. Refute it at one input. -/
def fnExactOrderSameWrong : ChangeSpec := { name := "fnExactOrderSame", fn := fun _ => fun
  | [d1, d2] => { results := [.lit (.bool false)], args := [d1, d2] }
  | _ => none }
def FnExactOrderSameWrongFalsely : Prop := fnExactOrderSameRow.holds Try.pinned (OpenSpec.ofChange fnExactOrderSameWrong)

/- THE SECOND FORM. 'bulk': how many values and letters a reading holds, each counted each time it is reached (what is shared counts as often as it is met; a slice's spare places count too). A statement '..UptoSaid' is the law's where the arguments, and the package variables that the reading takes, are together of bulk at most 1048576: NARROWER than '..Said'. Prove '..Said' where nothing that the law and all that it calls make is longer than what came in: it says more and counts as full. Else prove '..UptoSaid'. A law counts once. -/
mutual
def uptoBulk {H : Type} : DataW H → Nat
  | .lit (.string bytes) => bytes.length + 1
  | .lit _ => 1
  | .nil => 1
  | .ptr d => uptoBulk d + 1
  | .slice elems spare => uptoBulkAll elems + uptoBulkAll spare + 1
  | .agg parts => uptoBulkAll parts + 1
  | .iface _ d => uptoBulk d + 1
  | .map entries => uptoBulkEntries entries + 1
  | .held _ => 1
def uptoBulkAll {H : Type} : List (DataW H) → Nat
  | [] => 0
  | d :: r => uptoBulk d + uptoBulkAll r
def uptoBulkEntries {H : Type} : List (Lit × DataW H) → Nat
  | [] => 0
  | x :: r => uptoBulkEntry x + uptoBulkEntries r
def uptoBulkEntry {H : Type} : Lit × DataW H → Nat
  | (.string bytes, d) => bytes.length + uptoBulk d + 1
  | (_, d) => uptoBulk d + 1
 end
def uptoSmall : (H : Type) → List (DataW H) → Bool := fun _ ds => decide (uptoBulkAll ds ≤ 1048576)
def OpenSpec.upto (s : _root_.Go.ChangeSpec) : _root_.Go.OpenSpec := { _root_.Go.OpenSpec.ofChange s with cond := some uptoSmall }

/-- 'laws.FnExactNameOk', WHERE WHAT IT READS IS OF BULK AT MOST 1048576: true; the input reads as it did. -/
def fnExactNameOkUptoRow : OpenClaim := { program := "ytjopjdidbkhmnaa", sum := "c726edf2f15e835bd4d28bf57810d8441b72ef2618ea7a8ca1531fbe2c4cfd41", func := "loop.example/g00465/laws.FnExactNameOk", spec := "fnExactNameOk", apart := false, narrowed := true }
def FnExactNameOkUptoSaid : Prop := fnExactNameOkUptoRow.holds Try.pinned (OpenSpec.upto fnExactNameOkSpec)

/-- 'laws.FnExactMetricOk', WHERE WHAT IT READS IS OF BULK AT MOST 1048576: true; the input reads as it did. -/
def fnExactMetricOkUptoRow : OpenClaim := { program := "ytjopjdidbkhmnaa", sum := "c726edf2f15e835bd4d28bf57810d8441b72ef2618ea7a8ca1531fbe2c4cfd41", func := "loop.example/g00465/laws.FnExactMetricOk", spec := "fnExactMetricOk", apart := false, narrowed := true }
def FnExactMetricOkUptoSaid : Prop := fnExactMetricOkUptoRow.holds Try.pinned (OpenSpec.upto fnExactMetricOkSpec)

/-- 'laws.FnExactPaceOk', WHERE WHAT IT READS IS OF BULK AT MOST 1048576: true; the input reads as it did. -/
def fnExactPaceOkUptoRow : OpenClaim := { program := "ytjopjdidbkhmnaa", sum := "c726edf2f15e835bd4d28bf57810d8441b72ef2618ea7a8ca1531fbe2c4cfd41", func := "loop.example/g00465/laws.FnExactPaceOk", spec := "fnExactPaceOk", apart := false, narrowed := true }
def FnExactPaceOkUptoSaid : Prop := fnExactPaceOkUptoRow.holds Try.pinned (OpenSpec.upto fnExactPaceOkSpec)

/-- 'laws.FnExactPaceNew', WHERE WHAT IT READS IS OF BULK AT MOST 1048576: true; the input reads as it did. -/
def fnExactPaceNewUptoRow : OpenClaim := { program := "ytjopjdidbkhmnaa", sum := "c726edf2f15e835bd4d28bf57810d8441b72ef2618ea7a8ca1531fbe2c4cfd41", func := "loop.example/g00465/laws.FnExactPaceNew", spec := "fnExactPaceNew", apart := false, narrowed := true }
def FnExactPaceNewUptoSaid : Prop := fnExactPaceNewUptoRow.holds Try.pinned (OpenSpec.upto fnExactPaceNewSpec)

/-- 'laws.FnExactOrderOk', WHERE WHAT IT READS IS OF BULK AT MOST 1048576: true; the input reads as it did. -/
def fnExactOrderOkUptoRow : OpenClaim := { program := "ytjopjdidbkhmnaa", sum := "c726edf2f15e835bd4d28bf57810d8441b72ef2618ea7a8ca1531fbe2c4cfd41", func := "loop.example/g00465/laws.FnExactOrderOk", spec := "fnExactOrderOk", inPlace := ["internal/bytealg.IndexByteString"], unfollowed := true, recurses := true, apart := false, narrowed := true }
def FnExactOrderOkUptoSaid : Prop := fnExactOrderOkUptoRow.holds Try.pinned (OpenSpec.upto fnExactOrderOkSpec)

/-- 'laws.FnExactOrderSame', WHERE WHAT IT READS IS OF BULK AT MOST 1048576: true; the input reads as it did. -/
def fnExactOrderSameUptoRow : OpenClaim := { program := "ytjopjdidbkhmnaa", sum := "c726edf2f15e835bd4d28bf57810d8441b72ef2618ea7a8ca1531fbe2c4cfd41", func := "loop.example/g00465/laws.FnExactOrderSame", spec := "fnExactOrderSame", apart := false, narrowed := true }
def FnExactOrderSameUptoSaid : Prop := fnExactOrderSameUptoRow.holds Try.pinned (OpenSpec.upto fnExactOrderSameSpec)

end Rows
end Go.Proofs.Ytjopjdidbkhmnaa
