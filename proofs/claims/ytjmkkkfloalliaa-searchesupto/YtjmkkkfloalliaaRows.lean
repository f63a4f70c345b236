/-
  No cell of these rows narrows 'for every input' (looked for: loops, veiled, ifaces, maps, wideKeys, modest, calm, conditions, laid).
  DERIVED. THE GIVEN ROWS OF THIS SEAT. 12 by the template 'for every input the law returns true; each argument reads behind the call as it read before'; 0 by the template 'total and deterministic' (their statements: YtjmkkkfloalliaaTotals.lean).
  GIVEN WITH THE SEED: the statements are not yours to turn. If you find one false, say at which input.
  Laid BY PROGRAM, IN A SANDBOX (cutbox-rows.mjs): the forced cells as the released guide's own fill.sh prints them over the translation b0ed1d399cd35a18… (all of the seat's roots in one cut). By AI agents, Wed Nov 11 2026. No macro, syntax, notation, axiom, sorry.
-/
import Derived.Test.YtjmkkkfloalliaaChecked
import GoSem.Claim
import GoSem.ClaimJoined
import GoSem.ClaimMapViews
import Derived.JoinedTies
import Derived.KernelRfl
namespace Go.Proofs.Ytjmkkkfloalliaa
/- THE CELL 'sum', in the pinned program and in every row, IS THE sha256 OF THE DUMP (.gsa) THAT YtjmkkkfloalliaaProg.lean LOADS. Nothing in Lean hashes anything: it is a label: what it is worth is what the hold of that sum in a sandbox is worth. -/
noncomputable def Try.pinned : Pinned := { name := "ytjmkkkfloalliaa", sum := "b0ed1d399cd35a186bfcf867772a3353c6c85c37354fa09545cd8a8d5488480a", checked := Try.checked }
namespace Rows
def none {H : Type} : Left H := { results := [], args := [] }

/-- 'textindexlaw.Builds': WHATEVER THE INPUT: true; the input reads as it did. -/
def buildsSpec : ChangeSpec := { name := "builds", fn := fun _ => fun
  | [d] => { results := [.lit (.bool true)], args := [d] }
  | _ => none }
def buildsRow : OpenClaim := { program := "ytjmkkkfloalliaa", sum := "b0ed1d399cd35a186bfcf867772a3353c6c85c37354fa09545cd8a8d5488480a", func := "textindex/textindexlaw.Builds", spec := "builds", recurses := true, apart := false }
def BuildsSaid : Prop := buildsRow.holds Try.pinned (OpenSpec.ofChange buildsSpec)

/-- ITS FALSE NEIGHBOUR: 'it returns false'. Refute it at one input. -/
def buildsWrong : ChangeSpec := { name := "builds", fn := fun _ => fun
  | [d] => { results := [.lit (.bool false)], args := [d] }
  | _ => none }
def BuildsWrongFalsely : Prop := buildsRow.holds Try.pinned (OpenSpec.ofChange buildsWrong)

/-- 'textindexlaw.Extracts': WHATEVER THE INPUT: true; the input reads as it did. -/
def extractsSpec : ChangeSpec := { name := "extracts", fn := fun _ => fun
  | [d] => { results := [.lit (.bool true)], args := [d] }
  | _ => none }
def extractsRow : OpenClaim := { program := "ytjmkkkfloalliaa", sum := "b0ed1d399cd35a186bfcf867772a3353c6c85c37354fa09545cd8a8d5488480a", func := "textindex/textindexlaw.Extracts", spec := "extracts", recurses := true, apart := false }
def ExtractsSaid : Prop := extractsRow.holds Try.pinned (OpenSpec.ofChange extractsSpec)

/-- ITS FALSE NEIGHBOUR: 'it returns false'. Refute it at one input. -/
def extractsWrong : ChangeSpec := { name := "extracts", fn := fun _ => fun
  | [d] => { results := [.lit (.bool false)], args := [d] }
  | _ => none }
def ExtractsWrongFalsely : Prop := extractsRow.holds Try.pinned (OpenSpec.ofChange extractsWrong)

/-- 'textindexlaw.Saves': WHATEVER THE INPUT: true; the input reads as it did. -/
def savesSpec : ChangeSpec := { name := "saves", fn := fun _ => fun
  | [d] => { results := [.lit (.bool true)], args := [d] }
  | _ => none }
def savesRow : OpenClaim := { program := "ytjmkkkfloalliaa", sum := "b0ed1d399cd35a186bfcf867772a3353c6c85c37354fa09545cd8a8d5488480a", func := "textindex/textindexlaw.Saves", spec := "saves", recurses := true, apart := false }
def SavesSaid : Prop := savesRow.holds Try.pinned (OpenSpec.ofChange savesSpec)

/-- ITS FALSE NEIGHBOUR: 'it returns false'. Refute it at one input. -/
def savesWrong : ChangeSpec := { name := "saves", fn := fun _ => fun
  | [d] => { results := [.lit (.bool false)], args := [d] }
  | _ => none }
def SavesWrongFalsely : Prop := savesRow.holds Try.pinned (OpenSpec.ofChange savesWrong)

/-- 'textindexlaw.Searches': WHATEVER THE INPUT: true; the input reads as it did. -/
def searchesSpec : ChangeSpec := { name := "searches", fn := fun _ => fun
  | [d] => { results := [.lit (.bool true)], args := [d] }
  | _ => none }
def searchesRow : OpenClaim := { program := "ytjmkkkfloalliaa", sum := "b0ed1d399cd35a186bfcf867772a3353c6c85c37354fa09545cd8a8d5488480a", func := "textindex/textindexlaw.Searches", spec := "searches", recurses := true, apart := false }
def SearchesSaid : Prop := searchesRow.holds Try.pinned (OpenSpec.ofChange searchesSpec)

/-- ITS FALSE NEIGHBOUR: 'it returns false'. Refute it at one input. -/
def searchesWrong : ChangeSpec := { name := "searches", fn := fun _ => fun
  | [d] => { results := [.lit (.bool false)], args := [d] }
  | _ => none }
def SearchesWrongFalsely : Prop := searchesRow.holds Try.pinned (OpenSpec.ofChange searchesWrong)

/-- 'textindexlaw.Counts': WHATEVER THE INPUT: true; the input reads as it did. -/
def countsSpec : ChangeSpec := { name := "counts", fn := fun _ => fun
  | [d] => { results := [.lit (.bool true)], args := [d] }
  | _ => none }
def countsRow : OpenClaim := { program := "ytjmkkkfloalliaa", sum := "b0ed1d399cd35a186bfcf867772a3353c6c85c37354fa09545cd8a8d5488480a", func := "textindex/textindexlaw.Counts", spec := "counts", recurses := true, apart := false }
def CountsSaid : Prop := countsRow.holds Try.pinned (OpenSpec.ofChange countsSpec)

/-- ITS FALSE NEIGHBOUR: 'it returns false'. Refute it at one input. -/
def countsWrong : ChangeSpec := { name := "counts", fn := fun _ => fun
  | [d] => { results := [.lit (.bool false)], args := [d] }
  | _ => none }
def CountsWrongFalsely : Prop := countsRow.holds Try.pinned (OpenSpec.ofChange countsWrong)

/-- 'textindexlaw.Raw': WHATEVER THE INPUT: true; the input reads as it did. -/
def rawSpec : ChangeSpec := { name := "raw", fn := fun _ => fun
  | [d1, d2, d3, d4, d5, d6] => { results := [.lit (.bool true)], args := [d1, d2, d3, d4, d5, d6] }
  | _ => none }
def rawRow : OpenClaim := { program := "ytjmkkkfloalliaa", sum := "b0ed1d399cd35a186bfcf867772a3353c6c85c37354fa09545cd8a8d5488480a", func := "textindex/textindexlaw.Raw", spec := "raw", recurses := true, apart := false }
def RawSaid : Prop := rawRow.holds Try.pinned (OpenSpec.ofChange rawSpec)

/-- ITS FALSE NEIGHBOUR: 'it returns false'. Refute it at one input. -/
def rawWrong : ChangeSpec := { name := "raw", fn := fun _ => fun
  | [d1, d2, d3, d4, d5, d6] => { results := [.lit (.bool false)], args := [d1, d2, d3, d4, d5, d6] }
  | _ => none }
def RawWrongFalsely : Prop := rawRow.holds Try.pinned (OpenSpec.ofChange rawWrong)

/-- 'textindexsays.Plain': WHATEVER THE INPUT: true; the input reads as it did. -/
def plainSpec : ChangeSpec := { name := "plain", fn := fun _ => fun
  | [d1, d2, d3, d4, d5, d6] => { results := [.lit (.bool true)], args := [d1, d2, d3, d4, d5, d6] }
  | _ => none }
def plainRow : OpenClaim := { program := "ytjmkkkfloalliaa", sum := "b0ed1d399cd35a186bfcf867772a3353c6c85c37354fa09545cd8a8d5488480a", func := "textindex/textindexsays.Plain", spec := "plain", recurses := true, apart := false }
def PlainSaid : Prop := plainRow.holds Try.pinned (OpenSpec.ofChange plainSpec)

/-- ITS FALSE NEIGHBOUR: 'it returns false'. Refute it at one input. -/
def plainWrong : ChangeSpec := { name := "plain", fn := fun _ => fun
  | [d1, d2, d3, d4, d5, d6] => { results := [.lit (.bool false)], args := [d1, d2, d3, d4, d5, d6] }
  | _ => none }
def PlainWrongFalsely : Prop := plainRow.holds Try.pinned (OpenSpec.ofChange plainWrong)

/-- 'textindexsays.Either': WHATEVER THE INPUT: true; the input reads as it did. -/
def eitherSpec : ChangeSpec := { name := "either", fn := fun _ => fun
  | [d1, d2, d3, d4, d5, d6] => { results := [.lit (.bool true)], args := [d1, d2, d3, d4, d5, d6] }
  | _ => none }
def eitherRow : OpenClaim := { program := "ytjmkkkfloalliaa", sum := "b0ed1d399cd35a186bfcf867772a3353c6c85c37354fa09545cd8a8d5488480a", func := "textindex/textindexsays.Either", spec := "either", recurses := true, apart := false }
def EitherSaid : Prop := eitherRow.holds Try.pinned (OpenSpec.ofChange eitherSpec)

/-- ITS FALSE NEIGHBOUR: 'it returns false'. Refute it at one input. -/
def eitherWrong : ChangeSpec := { name := "either", fn := fun _ => fun
  | [d1, d2, d3, d4, d5, d6] => { results := [.lit (.bool false)], args := [d1, d2, d3, d4, d5, d6] }
  | _ => none }
def EitherWrongFalsely : Prop := eitherRow.holds Try.pinned (OpenSpec.ofChange eitherWrong)

/-- 'textindexsays.More': WHATEVER THE INPUT: true; the input reads as it did. -/
def moreSpec : ChangeSpec := { name := "more", fn := fun _ => fun
  | [d1, d2, d3, d4, d5, d6] => { results := [.lit (.bool true)], args := [d1, d2, d3, d4, d5, d6] }
  | _ => none }
def moreRow : OpenClaim := { program := "ytjmkkkfloalliaa", sum := "b0ed1d399cd35a186bfcf867772a3353c6c85c37354fa09545cd8a8d5488480a", func := "textindex/textindexsays.More", spec := "more", recurses := true, apart := false }
def MoreSaid : Prop := moreRow.holds Try.pinned (OpenSpec.ofChange moreSpec)

/-- ITS FALSE NEIGHBOUR: 'it returns false'. Refute it at one input. -/
def moreWrong : ChangeSpec := { name := "more", fn := fun _ => fun
  | [d1, d2, d3, d4, d5, d6] => { results := [.lit (.bool false)], args := [d1, d2, d3, d4, d5, d6] }
  | _ => none }
def MoreWrongFalsely : Prop := moreRow.holds Try.pinned (OpenSpec.ofChange moreWrong)

/-- 'textindexsays.Rates': WHATEVER THE INPUT: true; the input reads as it did. -/
def ratesSpec : ChangeSpec := { name := "rates", fn := fun _ => fun
  | [d1, d2, d3, d4, d5, d6] => { results := [.lit (.bool true)], args := [d1, d2, d3, d4, d5, d6] }
  | _ => none }
def ratesRow : OpenClaim := { program := "ytjmkkkfloalliaa", sum := "b0ed1d399cd35a186bfcf867772a3353c6c85c37354fa09545cd8a8d5488480a", func := "textindex/textindexsays.Rates", spec := "rates", recurses := true, apart := false }
def RatesSaid : Prop := ratesRow.holds Try.pinned (OpenSpec.ofChange ratesSpec)

/-- ITS FALSE NEIGHBOUR: 'it returns false'. Refute it at one input. -/
def ratesWrong : ChangeSpec := { name := "rates", fn := fun _ => fun
  | [d1, d2, d3, d4, d5, d6] => { results := [.lit (.bool false)], args := [d1, d2, d3, d4, d5, d6] }
  | _ => none }
def RatesWrongFalsely : Prop := ratesRow.holds Try.pinned (OpenSpec.ofChange ratesWrong)

/-- 'textindexsays.Saved': WHATEVER THE INPUT: true; the input reads as it did. -/
def savedSpec : ChangeSpec := { name := "saved", fn := fun _ => fun
  | [d1, d2, d3, d4, d5, d6] => { results := [.lit (.bool true)], args := [d1, d2, d3, d4, d5, d6] }
  | _ => none }
def savedRow : OpenClaim := { program := "ytjmkkkfloalliaa", sum := "b0ed1d399cd35a186bfcf867772a3353c6c85c37354fa09545cd8a8d5488480a", func := "textindex/textindexsays.Saved", spec := "saved", recurses := true, apart := false }
def SavedSaid : Prop := savedRow.holds Try.pinned (OpenSpec.ofChange savedSpec)

/-- ITS FALSE NEIGHBOUR: 'it returns false'. Refute it at one input. -/
def savedWrong : ChangeSpec := { name := "saved", fn := fun _ => fun
  | [d1, d2, d3, d4, d5, d6] => { results := [.lit (.bool false)], args := [d1, d2, d3, d4, d5, d6] }
  | _ => none }
def SavedWrongFalsely : Prop := savedRow.holds Try.pinned (OpenSpec.ofChange savedWrong)

/-- 'textindexsays.Turned': WHATEVER THE INPUT: true; the input reads as it did. -/
def turnedSpec : ChangeSpec := { name := "turned", fn := fun _ => fun
  | [d1, d2, d3, d4, d5, d6] => { results := [.lit (.bool true)], args := [d1, d2, d3, d4, d5, d6] }
  | _ => none }
def turnedRow : OpenClaim := { program := "ytjmkkkfloalliaa", sum := "b0ed1d399cd35a186bfcf867772a3353c6c85c37354fa09545cd8a8d5488480a", func := "textindex/textindexsays.Turned", spec := "turned", recurses := true, apart := false }
def TurnedSaid : Prop := turnedRow.holds Try.pinned (OpenSpec.ofChange turnedSpec)

/-- ITS FALSE NEIGHBOUR: 'it returns false'. Refute it at one input. -/
def turnedWrong : ChangeSpec := { name := "turned", fn := fun _ => fun
  | [d1, d2, d3, d4, d5, d6] => { results := [.lit (.bool false)], args := [d1, d2, d3, d4, d5, d6] }
  | _ => none }
def TurnedWrongFalsely : Prop := turnedRow.holds Try.pinned (OpenSpec.ofChange turnedWrong)

/- THE SECOND FORM. 'bulk': how many values and letters a reading holds, each counted each time it is reached (what is shared counts as often as it is met; a slice's spare places count too). A statement '..UptoSaid' is the law's where the arguments, and the package variables that the reading takes, are together of bulk at most 1048576: NARROWER than '..Said'. Prove '..Said' where nothing that the law and all that it calls make is longer than what came in: it says more and counts as full. Else prove '..UptoSaid'. A law counts once. -/
mutual
def uptoBulk {H : Type} : DataW H → Nat
  | .lit (.string bytes) => bytes.length + 1
  | .lit _ => 1
  | .nil => 1
  | .ptr d => uptoBulk d + 1
  | .slice elems spare => uptoBulkAll elems + uptoBulkAll spare + 1
  | .agg parts => uptoBulkAll parts + 1
  | .iface _ d => uptoBulk d + 1
  | .map entries => uptoBulkEntries entries + 1
  | .held _ => 1
def uptoBulkAll {H : Type} : List (DataW H) → Nat
  | [] => 0
  | d :: r => uptoBulk d + uptoBulkAll r
def uptoBulkEntries {H : Type} : List (Lit × DataW H) → Nat
  | [] => 0
  | x :: r => uptoBulkEntry x + uptoBulkEntries r
def uptoBulkEntry {H : Type} : Lit × DataW H → Nat
  | (.string bytes, d) => bytes.length + uptoBulk d + 1
  | (_, d) => uptoBulk d + 1
 end
def uptoSmall : (H : Type) → List (DataW H) → Bool := fun _ ds => decide (uptoBulkAll ds ≤ 1048576)
def OpenSpec.upto (s : _root_.Go.ChangeSpec) : _root_.Go.OpenSpec := { _root_.Go.OpenSpec.ofChange s with cond := some uptoSmall }

/-- 'textindexlaw.Builds', WHERE WHAT IT READS IS OF BULK AT MOST 1048576: true; the input reads as it did. -/
def buildsUptoRow : OpenClaim := { program := "ytjmkkkfloalliaa", sum := "b0ed1d399cd35a186bfcf867772a3353c6c85c37354fa09545cd8a8d5488480a", func := "textindex/textindexlaw.Builds", spec := "builds", recurses := true, apart := false, narrowed := true }
def BuildsUptoSaid : Prop := buildsUptoRow.holds Try.pinned (OpenSpec.upto buildsSpec)

/-- 'textindexlaw.Extracts', WHERE WHAT IT READS IS OF BULK AT MOST 1048576: true; the input reads as it did. -/
def extractsUptoRow : OpenClaim := { program := "ytjmkkkfloalliaa", sum := "b0ed1d399cd35a186bfcf867772a3353c6c85c37354fa09545cd8a8d5488480a", func := "textindex/textindexlaw.Extracts", spec := "extracts", recurses := true, apart := false, narrowed := true }
def ExtractsUptoSaid : Prop := extractsUptoRow.holds Try.pinned (OpenSpec.upto extractsSpec)

/-- 'textindexlaw.Saves', WHERE WHAT IT READS IS OF BULK AT MOST 1048576: true; the input reads as it did. -/
def savesUptoRow : OpenClaim := { program := "ytjmkkkfloalliaa", sum := "b0ed1d399cd35a186bfcf867772a3353c6c85c37354fa09545cd8a8d5488480a", func := "textindex/textindexlaw.Saves", spec := "saves", recurses := true, apart := false, narrowed := true }
def SavesUptoSaid : Prop := savesUptoRow.holds Try.pinned (OpenSpec.upto savesSpec)

/-- 'textindexlaw.Searches', WHERE WHAT IT READS IS OF BULK AT MOST 1048576: true; the input reads as it did. -/
def searchesUptoRow : OpenClaim := { program := "ytjmkkkfloalliaa", sum := "b0ed1d399cd35a186bfcf867772a3353c6c85c37354fa09545cd8a8d5488480a", func := "textindex/textindexlaw.Searches", spec := "searches", recurses := true, apart := false, narrowed := true }
def SearchesUptoSaid : Prop := searchesUptoRow.holds Try.pinned (OpenSpec.upto searchesSpec)

/-- 'textindexlaw.Counts', WHERE WHAT IT READS IS OF BULK AT MOST 1048576: true; the input reads as it did. -/
def countsUptoRow : OpenClaim := { program := "ytjmkkkfloalliaa", sum := "b0ed1d399cd35a186bfcf867772a3353c6c85c37354fa09545cd8a8d5488480a", func := "textindex/textindexlaw.Counts", spec := "counts", recurses := true, apart := false, narrowed := true }
def CountsUptoSaid : Prop := countsUptoRow.holds Try.pinned (OpenSpec.upto countsSpec)

/-- 'textindexlaw.Raw', WHERE WHAT IT READS IS OF BULK AT MOST 1048576: true; the input reads as it did. -/
def rawUptoRow : OpenClaim := { program := "ytjmkkkfloalliaa", sum := "b0ed1d399cd35a186bfcf867772a3353c6c85c37354fa09545cd8a8d5488480a", func := "textindex/textindexlaw.Raw", spec := "raw", recurses := true, apart := false, narrowed := true }
def RawUptoSaid : Prop := rawUptoRow.holds Try.pinned (OpenSpec.upto rawSpec)

/-- 'textindexsays.Plain', WHERE WHAT IT READS IS OF BULK AT MOST 1048576: true; the input reads as it did. -/
def plainUptoRow : OpenClaim := { program := "ytjmkkkfloalliaa", sum := "b0ed1d399cd35a186bfcf867772a3353c6c85c37354fa09545cd8a8d5488480a", func := "textindex/textindexsays.Plain", spec := "plain", recurses := true, apart := false, narrowed := true }
def PlainUptoSaid : Prop := plainUptoRow.holds Try.pinned (OpenSpec.upto plainSpec)

/-- 'textindexsays.Either', WHERE WHAT IT READS IS OF BULK AT MOST 1048576: true; the input reads as it did. -/
def eitherUptoRow : OpenClaim := { program := "ytjmkkkfloalliaa", sum := "b0ed1d399cd35a186bfcf867772a3353c6c85c37354fa09545cd8a8d5488480a", func := "textindex/textindexsays.Either", spec := "either", recurses := true, apart := false, narrowed := true }
def EitherUptoSaid : Prop := eitherUptoRow.holds Try.pinned (OpenSpec.upto eitherSpec)

/-- 'textindexsays.More', WHERE WHAT IT READS IS OF BULK AT MOST 1048576: true; the input reads as it did. -/
def moreUptoRow : OpenClaim := { program := "ytjmkkkfloalliaa", sum := "b0ed1d399cd35a186bfcf867772a3353c6c85c37354fa09545cd8a8d5488480a", func := "textindex/textindexsays.More", spec := "more", recurses := true, apart := false, narrowed := true }
def MoreUptoSaid : Prop := moreUptoRow.holds Try.pinned (OpenSpec.upto moreSpec)

/-- 'textindexsays.Rates', WHERE WHAT IT READS IS OF BULK AT MOST 1048576: true; the input reads as it did. -/
def ratesUptoRow : OpenClaim := { program := "ytjmkkkfloalliaa", sum := "b0ed1d399cd35a186bfcf867772a3353c6c85c37354fa09545cd8a8d5488480a", func := "textindex/textindexsays.Rates", spec := "rates", recurses := true, apart := false, narrowed := true }
def RatesUptoSaid : Prop := ratesUptoRow.holds Try.pinned (OpenSpec.upto ratesSpec)

/-- 'textindexsays.Saved', WHERE WHAT IT READS IS OF BULK AT MOST 1048576: true; the input reads as it did. -/
def savedUptoRow : OpenClaim := { program := "ytjmkkkfloalliaa", sum := "b0ed1d399cd35a186bfcf867772a3353c6c85c37354fa09545cd8a8d5488480a", func := "textindex/textindexsays.Saved", spec := "saved", recurses := true, apart := false, narrowed := true }
def SavedUptoSaid : Prop := savedUptoRow.holds Try.pinned (OpenSpec.upto savedSpec)

/-- 'textindexsays.Turned', WHERE WHAT IT READS IS OF BULK AT MOST 1048576: true; the input reads as it did. -/
def turnedUptoRow : OpenClaim := { program := "ytjmkkkfloalliaa", sum := "b0ed1d399cd35a186bfcf867772a3353c6c85c37354fa09545cd8a8d5488480a", func := "textindex/textindexsays.Turned", spec := "turned", recurses := true, apart := false, narrowed := true }
def TurnedUptoSaid : Prop := turnedUptoRow.holds Try.pinned (OpenSpec.upto turnedSpec)

end Rows
end Go.Proofs.Ytjmkkkfloalliaa
