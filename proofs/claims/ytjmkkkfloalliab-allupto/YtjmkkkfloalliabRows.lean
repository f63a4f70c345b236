/-
  No cell of these rows narrows 'for every input' (looked for: loops, veiled, ifaces, maps, wideKeys, modest, calm, conditions, laid).
  DERIVED. THE GIVEN ROWS OF THIS SEAT. 7 by the template 'for every input the law returns true; each argument reads behind the call as it read before'; 0 by the template 'total and deterministic' (their statements: YtjmkkkfloalliabTotals.lean).
  GIVEN WITH THE SEED: the statements are not yours to turn. If you find one false, say at which input.
  Laid BY PROGRAM, IN A SANDBOX (cutbox-rows.mjs): the forced cells as the released guide's own fill.sh prints them over the translation 82c23ec7c77aee78… (all of the seat's roots in one cut). By AI agents, Wed Nov 11 2026. No macro, syntax, notation, axiom, sorry.
-/
import Derived.Test.YtjmkkkfloalliabChecked
import GoSem.Claim
import GoSem.ClaimJoined
import GoSem.ClaimMapViews
import Derived.JoinedTies
import Derived.KernelRfl
namespace Go.Proofs.Ytjmkkkfloalliab
/- THE CELL 'sum', in the pinned program and in every row, IS THE sha256 OF THE DUMP (.gsa) THAT YtjmkkkfloalliabProg.lean LOADS. Nothing in Lean hashes anything: it is a label: what it is worth is what the hold of that sum in a sandbox is worth. -/
noncomputable def Try.pinned : Pinned := { name := "ytjmkkkfloalliab", sum := "82c23ec7c77aee786d28e87cb22458a7e94dae0a02b18a12d208ff0326f2575f", checked := Try.checked }
namespace Rows
def none {H : Type} : Left H := { results := [], args := [] }

/-- 'textindexsays.Shift': WHATEVER THE INPUT: true; the input reads as it did. -/
def shiftSpec : ChangeSpec := { name := "shift", fn := fun _ => fun
  | [d1, d2, d3, d4, d5, d6] => { results := [.lit (.bool true)], args := [d1, d2, d3, d4, d5, d6] }
  | _ => none }
def shiftRow : OpenClaim := { program := "ytjmkkkfloalliab", sum := "82c23ec7c77aee786d28e87cb22458a7e94dae0a02b18a12d208ff0326f2575f", func := "textindex/textindexsays.Shift", spec := "shift", recurses := true, apart := false }
def ShiftSaid : Prop := shiftRow.holds Try.pinned (OpenSpec.ofChange shiftSpec)

/-- ITS FALSE NEIGHBOUR: 'it returns false'. Refute it at one input. -/
def shiftWrong : ChangeSpec := { name := "shift", fn := fun _ => fun
  | [d1, d2, d3, d4, d5, d6] => { results := [.lit (.bool false)], args := [d1, d2, d3, d4, d5, d6] }
  | _ => none }
def ShiftWrongFalsely : Prop := shiftRow.holds Try.pinned (OpenSpec.ofChange shiftWrong)

/-- 'textindexsays.Budget': WHATEVER THE INPUT: true; the input reads as it did. -/
def budgetSpec : ChangeSpec := { name := "budget", fn := fun _ => fun
  | [d1, d2, d3, d4, d5, d6] => { results := [.lit (.bool true)], args := [d1, d2, d3, d4, d5, d6] }
  | _ => none }
def budgetRow : OpenClaim := { program := "ytjmkkkfloalliab", sum := "82c23ec7c77aee786d28e87cb22458a7e94dae0a02b18a12d208ff0326f2575f", func := "textindex/textindexsays.Budget", spec := "budget", recurses := true, apart := false }
def BudgetSaid : Prop := budgetRow.holds Try.pinned (OpenSpec.ofChange budgetSpec)

/-- ITS FALSE NEIGHBOUR: 'it returns false'. Refute it at one input. -/
def budgetWrong : ChangeSpec := { name := "budget", fn := fun _ => fun
  | [d1, d2, d3, d4, d5, d6] => { results := [.lit (.bool false)], args := [d1, d2, d3, d4, d5, d6] }
  | _ => none }
def BudgetWrongFalsely : Prop := budgetRow.holds Try.pinned (OpenSpec.ofChange budgetWrong)

/-- 'textindexsays.Then': WHATEVER THE INPUT: true; the input reads as it did. -/
def thenSpec : ChangeSpec := { name := "then", fn := fun _ => fun
  | [d1, d2, d3, d4, d5, d6] => { results := [.lit (.bool true)], args := [d1, d2, d3, d4, d5, d6] }
  | _ => none }
def thenRow : OpenClaim := { program := "ytjmkkkfloalliab", sum := "82c23ec7c77aee786d28e87cb22458a7e94dae0a02b18a12d208ff0326f2575f", func := "textindex/textindexsays.Then", spec := "then", recurses := true, apart := false }
def ThenSaid : Prop := thenRow.holds Try.pinned (OpenSpec.ofChange thenSpec)

/-- ITS FALSE NEIGHBOUR: 'it returns false'. Refute it at one input. -/
def thenWrong : ChangeSpec := { name := "then", fn := fun _ => fun
  | [d1, d2, d3, d4, d5, d6] => { results := [.lit (.bool false)], args := [d1, d2, d3, d4, d5, d6] }
  | _ => none }
def ThenWrongFalsely : Prop := thenRow.holds Try.pinned (OpenSpec.ofChange thenWrong)

/-- 'textindexsays.Whole': WHATEVER THE INPUT: true; the input reads as it did. -/
def wholeSpec : ChangeSpec := { name := "whole", fn := fun _ => fun
  | [d1, d2, d3, d4, d5, d6] => { results := [.lit (.bool true)], args := [d1, d2, d3, d4, d5, d6] }
  | _ => none }
def wholeRow : OpenClaim := { program := "ytjmkkkfloalliab", sum := "82c23ec7c77aee786d28e87cb22458a7e94dae0a02b18a12d208ff0326f2575f", func := "textindex/textindexsays.Whole", spec := "whole", recurses := true, apart := false }
def WholeSaid : Prop := wholeRow.holds Try.pinned (OpenSpec.ofChange wholeSpec)

/-- ITS FALSE NEIGHBOUR: 'it returns false'. Refute it at one input. -/
def wholeWrong : ChangeSpec := { name := "whole", fn := fun _ => fun
  | [d1, d2, d3, d4, d5, d6] => { results := [.lit (.bool false)], args := [d1, d2, d3, d4, d5, d6] }
  | _ => none }
def WholeWrongFalsely : Prop := wholeRow.holds Try.pinned (OpenSpec.ofChange wholeWrong)

/-- 'textindexsays.Bracketed': WHATEVER THE INPUT: true; the input reads as it did. -/
def bracketedSpec : ChangeSpec := { name := "bracketed", fn := fun _ => fun
  | [d1, d2, d3, d4, d5, d6] => { results := [.lit (.bool true)], args := [d1, d2, d3, d4, d5, d6] }
  | _ => none }
def bracketedRow : OpenClaim := { program := "ytjmkkkfloalliab", sum := "82c23ec7c77aee786d28e87cb22458a7e94dae0a02b18a12d208ff0326f2575f", func := "textindex/textindexsays.Bracketed", spec := "bracketed", recurses := true, apart := false }
def BracketedSaid : Prop := bracketedRow.holds Try.pinned (OpenSpec.ofChange bracketedSpec)

/-- ITS FALSE NEIGHBOUR: 'it returns false'. Refute it at one input. -/
def bracketedWrong : ChangeSpec := { name := "bracketed", fn := fun _ => fun
  | [d1, d2, d3, d4, d5, d6] => { results := [.lit (.bool false)], args := [d1, d2, d3, d4, d5, d6] }
  | _ => none }
def BracketedWrongFalsely : Prop := bracketedRow.holds Try.pinned (OpenSpec.ofChange bracketedWrong)

/-- 'textindexsays.Known': WHATEVER THE INPUT: true; the input reads as it did. -/
def knownSpec : ChangeSpec := { name := "known", fn := fun _ => fun
  | [d1, d2, d3, d4, d5, d6] => { results := [.lit (.bool true)], args := [d1, d2, d3, d4, d5, d6] }
  | _ => none }
def knownRow : OpenClaim := { program := "ytjmkkkfloalliab", sum := "82c23ec7c77aee786d28e87cb22458a7e94dae0a02b18a12d208ff0326f2575f", func := "textindex/textindexsays.Known", spec := "known", recurses := true, apart := false }
def KnownSaid : Prop := knownRow.holds Try.pinned (OpenSpec.ofChange knownSpec)

/-- ITS FALSE NEIGHBOUR: 'it returns false'. Refute it at one input. -/
def knownWrong : ChangeSpec := { name := "known", fn := fun _ => fun
  | [d1, d2, d3, d4, d5, d6] => { results := [.lit (.bool false)], args := [d1, d2, d3, d4, d5, d6] }
  | _ => none }
def KnownWrongFalsely : Prop := knownRow.holds Try.pinned (OpenSpec.ofChange knownWrong)

/-- 'textindexlaw.All': WHATEVER THE INPUT: true; the input reads as it did. -/
def allSpec : ChangeSpec := { name := "all", fn := fun _ => fun
  | [d] => { results := [.lit (.bool true)], args := [d] }
  | _ => none }
def allRow : OpenClaim := { program := "ytjmkkkfloalliab", sum := "82c23ec7c77aee786d28e87cb22458a7e94dae0a02b18a12d208ff0326f2575f", func := "textindex/textindexlaw.All", spec := "all", recurses := true, apart := false }
def AllSaid : Prop := allRow.holds Try.pinned (OpenSpec.ofChange allSpec)

/-- ITS FALSE NEIGHBOUR: 'it returns false'. Refute it at one input. -/
def allWrong : ChangeSpec := { name := "all", fn := fun _ => fun
  | [d] => { results := [.lit (.bool false)], args := [d] }
  | _ => none }
def AllWrongFalsely : Prop := allRow.holds Try.pinned (OpenSpec.ofChange allWrong)

/- THE SECOND FORM. 'bulk': how many values and letters a reading holds, each counted each time it is reached (what is shared counts as often as it is met; a slice's spare places count too). A statement '..UptoSaid' is the law's where the arguments, and the package variables that the reading takes, are together of bulk at most 1048576: NARROWER than '..Said'. Prove '..Said' where nothing that the law and all that it calls make is longer than what came in: it says more and counts as full. Else prove '..UptoSaid'. A law counts once. -/
mutual
def uptoBulk {H : Type} : DataW H → Nat
  | .lit (.string bytes) => bytes.length + 1
  | .lit _ => 1
  | .nil => 1
  | .ptr d => uptoBulk d + 1
  | .slice elems spare => uptoBulkAll elems + uptoBulkAll spare + 1
  | .agg parts => uptoBulkAll parts + 1
  | .iface _ d => uptoBulk d + 1
  | .map entries => uptoBulkEntries entries + 1
  | .held _ => 1
def uptoBulkAll {H : Type} : List (DataW H) → Nat
  | [] => 0
  | d :: r => uptoBulk d + uptoBulkAll r
def uptoBulkEntries {H : Type} : List (Lit × DataW H) → Nat
  | [] => 0
  | x :: r => uptoBulkEntry x + uptoBulkEntries r
def uptoBulkEntry {H : Type} : Lit × DataW H → Nat
  | (.string bytes, d) => bytes.length + uptoBulk d + 1
  | (_, d) => uptoBulk d + 1
 end
def uptoSmall : (H : Type) → List (DataW H) → Bool := fun _ ds => decide (uptoBulkAll ds ≤ 1048576)
def OpenSpec.upto (s : _root_.Go.ChangeSpec) : _root_.Go.OpenSpec := { _root_.Go.OpenSpec.ofChange s with cond := some uptoSmall }

/-- 'textindexsays.Shift', WHERE WHAT IT READS IS OF BULK AT MOST 1048576: true; the input reads as it did. -/
def shiftUptoRow : OpenClaim := { program := "ytjmkkkfloalliab", sum := "82c23ec7c77aee786d28e87cb22458a7e94dae0a02b18a12d208ff0326f2575f", func := "textindex/textindexsays.Shift", spec := "shift", recurses := true, apart := false, narrowed := true }
def ShiftUptoSaid : Prop := shiftUptoRow.holds Try.pinned (OpenSpec.upto shiftSpec)

/-- 'textindexsays.Budget', WHERE WHAT IT READS IS OF BULK AT MOST 1048576: true; the input reads as it did. -/
def budgetUptoRow : OpenClaim := { program := "ytjmkkkfloalliab", sum := "82c23ec7c77aee786d28e87cb22458a7e94dae0a02b18a12d208ff0326f2575f", func := "textindex/textindexsays.Budget", spec := "budget", recurses := true, apart := false, narrowed := true }
def BudgetUptoSaid : Prop := budgetUptoRow.holds Try.pinned (OpenSpec.upto budgetSpec)

/-- 'textindexsays.Then', WHERE WHAT IT READS IS OF BULK AT MOST 1048576: true; the input reads as it did. -/
def thenUptoRow : OpenClaim := { program := "ytjmkkkfloalliab", sum := "82c23ec7c77aee786d28e87cb22458a7e94dae0a02b18a12d208ff0326f2575f", func := "textindex/textindexsays.Then", spec := "then", recurses := true, apart := false, narrowed := true }
def ThenUptoSaid : Prop := thenUptoRow.holds Try.pinned (OpenSpec.upto thenSpec)

/-- 'textindexsays.Whole', WHERE WHAT IT READS IS OF BULK AT MOST 1048576: true; the input reads as it did. -/
def wholeUptoRow : OpenClaim := { program := "ytjmkkkfloalliab", sum := "82c23ec7c77aee786d28e87cb22458a7e94dae0a02b18a12d208ff0326f2575f", func := "textindex/textindexsays.Whole", spec := "whole", recurses := true, apart := false, narrowed := true }
def WholeUptoSaid : Prop := wholeUptoRow.holds Try.pinned (OpenSpec.upto wholeSpec)

/-- 'textindexsays.Bracketed', WHERE WHAT IT READS IS OF BULK AT MOST 1048576: true; the input reads as it did. -/
def bracketedUptoRow : OpenClaim := { program := "ytjmkkkfloalliab", sum := "82c23ec7c77aee786d28e87cb22458a7e94dae0a02b18a12d208ff0326f2575f", func := "textindex/textindexsays.Bracketed", spec := "bracketed", recurses := true, apart := false, narrowed := true }
def BracketedUptoSaid : Prop := bracketedUptoRow.holds Try.pinned (OpenSpec.upto bracketedSpec)

/-- 'textindexsays.Known', WHERE WHAT IT READS IS OF BULK AT MOST 1048576: true; the input reads as it did. -/
def knownUptoRow : OpenClaim := { program := "ytjmkkkfloalliab", sum := "82c23ec7c77aee786d28e87cb22458a7e94dae0a02b18a12d208ff0326f2575f", func := "textindex/textindexsays.Known", spec := "known", recurses := true, apart := false, narrowed := true }
def KnownUptoSaid : Prop := knownUptoRow.holds Try.pinned (OpenSpec.upto knownSpec)

/-- 'textindexlaw.All', WHERE WHAT IT READS IS OF BULK AT MOST 1048576: true; the input reads as it did. -/
def allUptoRow : OpenClaim := { program := "ytjmkkkfloalliab", sum := "82c23ec7c77aee786d28e87cb22458a7e94dae0a02b18a12d208ff0326f2575f", func := "textindex/textindexlaw.All", spec := "all", recurses := true, apart := false, narrowed := true }
def AllUptoSaid : Prop := allUptoRow.holds Try.pinned (OpenSpec.upto allSpec)

end Rows
end Go.Proofs.Ytjmkkkfloalliab
