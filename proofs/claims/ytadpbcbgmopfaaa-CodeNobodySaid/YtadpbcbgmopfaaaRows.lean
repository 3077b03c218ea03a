/-
  No cell of these rows narrows 'for every input' (looked for: loops, veiled, ifaces, maps, wideKeys, modest, calm, conditions, laid).
  DERIVED. THE GIVEN ROWS OF THIS SEAT. 12 by the template 'for every input the law returns true; each argument reads behind the call as it read before'; 0 by the template 'total and deterministic' (their statements: YtadpbcbgmopfaaaTotals.lean).
  GIVEN WITH THE SEED: the statements are not yours to turn. If you find one false, say at which input.
  Laid BY PROGRAM, IN A SANDBOX (cutbox-rows.mjs): the forced cells as the released guide's own fill.sh prints them over the translation 6b753c386e8149af… (all of the seat's roots in one cut). By AI agents, Wed Nov 11 2026. No macro, syntax, notation, axiom, sorry.
-/
import Derived.Test.YtadpbcbgmopfaaaChecked
import GoSem.Claim
import GoSem.ClaimJoined
import GoSem.ClaimMapViews
import Derived.JoinedTies
import Derived.KernelRfl
namespace Go.Proofs.Ytadpbcbgmopfaaa
/- THE CELL 'sum', in the pinned program and in every row, IS THE sha256 OF THE DUMP (.gsa) THAT YtadpbcbgmopfaaaProg.lean LOADS. Nothing in Lean hashes anything: it is a label: what it is worth is what the hold of that sum in a sandbox is worth. -/
noncomputable def Try.pinned : Pinned := { name := "ytadpbcbgmopfaaa", sum := "6b753c386e8149afe5f92bb40c2b2ae92913fa2a508d3659af1fed4d997813f3", checked := Try.checked }
namespace Rows
def none {H : Type} : Left H := { results := [], args := [] }

/-- 'caucuslaw02.CodeWides': WHATEVER THE INPUT: true; the input reads as it did. -/
def codeWidesSpec : ChangeSpec := { name := "codeWides", fn := fun _ => fun
  | [d1, d2] => { results := [.lit (.bool true)], args := [d1, d2] }
  | _ => none }
def codeWidesRow : OpenClaim := { program := "ytadpbcbgmopfaaa", sum := "6b753c386e8149afe5f92bb40c2b2ae92913fa2a508d3659af1fed4d997813f3", func := "caucus/caucuslaw02.CodeWides", spec := "codeWides", apart := false }
def CodeWidesSaid : Prop := codeWidesRow.holds Try.pinned (OpenSpec.ofChange codeWidesSpec)

/-- ITS FALSE NEIGHBOUR: 'it returns false'. Refute it at one input. -/
def codeWidesWrong : ChangeSpec := { name := "codeWides", fn := fun _ => fun
  | [d1, d2] => { results := [.lit (.bool false)], args := [d1, d2] }
  | _ => none }
def CodeWidesWrongFalsely : Prop := codeWidesRow.holds Try.pinned (OpenSpec.ofChange codeWidesWrong)

/-- 'caucuslaw02.CodeShorts': WHATEVER THE INPUT: true; the input reads as it did. -/
def codeShortsSpec : ChangeSpec := { name := "codeShorts", fn := fun _ => fun
  | [d] => { results := [.lit (.bool true)], args := [d] }
  | _ => none }
def codeShortsRow : OpenClaim := { program := "ytadpbcbgmopfaaa", sum := "6b753c386e8149afe5f92bb40c2b2ae92913fa2a508d3659af1fed4d997813f3", func := "caucus/caucuslaw02.CodeShorts", spec := "codeShorts", apart := false }
def CodeShortsSaid : Prop := codeShortsRow.holds Try.pinned (OpenSpec.ofChange codeShortsSpec)

/-- ITS FALSE NEIGHBOUR: 'it returns false'. Refute it at one input. -/
def codeShortsWrong : ChangeSpec := { name := "codeShorts", fn := fun _ => fun
  | [d] => { results := [.lit (.bool false)], args := [d] }
  | _ => none }
def CodeShortsWrongFalsely : Prop := codeShortsRow.holds Try.pinned (OpenSpec.ofChange codeShortsWrong)

/-- 'caucuslaw02.CodeTexts': WHATEVER THE INPUT: true; the input reads as it did. -/
def codeTextsSpec : ChangeSpec := { name := "codeTexts", fn := fun _ => fun
  | [d] => { results := [.lit (.bool true)], args := [d] }
  | _ => none }
def codeTextsRow : OpenClaim := { program := "ytadpbcbgmopfaaa", sum := "6b753c386e8149afe5f92bb40c2b2ae92913fa2a508d3659af1fed4d997813f3", func := "caucus/caucuslaw02.CodeTexts", spec := "codeTexts", apart := false }
def CodeTextsSaid : Prop := codeTextsRow.holds Try.pinned (OpenSpec.ofChange codeTextsSpec)

/-- ITS FALSE NEIGHBOUR: 'it returns false'. Refute it at one input. -/
def codeTextsWrong : ChangeSpec := { name := "codeTexts", fn := fun _ => fun
  | [d] => { results := [.lit (.bool false)], args := [d] }
  | _ => none }
def CodeTextsWrongFalsely : Prop := codeTextsRow.holds Try.pinned (OpenSpec.ofChange codeTextsWrong)

/-- 'caucuslaw02.CodeAsks': WHATEVER THE INPUT: true; the input reads as it did. -/
def codeAsksSpec : ChangeSpec := { name := "codeAsks", fn := fun _ => fun
  | [d1, d2] => { results := [.lit (.bool true)], args := [d1, d2] }
  | _ => none }
def codeAsksRow : OpenClaim := { program := "ytadpbcbgmopfaaa", sum := "6b753c386e8149afe5f92bb40c2b2ae92913fa2a508d3659af1fed4d997813f3", func := "caucus/caucuslaw02.CodeAsks", spec := "codeAsks", apart := false }
def CodeAsksSaid : Prop := codeAsksRow.holds Try.pinned (OpenSpec.ofChange codeAsksSpec)

/-- ITS FALSE NEIGHBOUR: 'it returns false'. Refute it at one input. -/
def codeAsksWrong : ChangeSpec := { name := "codeAsks", fn := fun _ => fun
  | [d1, d2] => { results := [.lit (.bool false)], args := [d1, d2] }
  | _ => none }
def CodeAsksWrongFalsely : Prop := codeAsksRow.holds Try.pinned (OpenSpec.ofChange codeAsksWrong)

/-- 'caucuslaw02.CodeNobody': WHATEVER THE INPUT: true; the input reads as it did. -/
def codeNobodySpec : ChangeSpec := { name := "codeNobody", fn := fun _ => fun
  | [d1, d2] => { results := [.lit (.bool true)], args := [d1, d2] }
  | _ => none }
def codeNobodyRow : OpenClaim := { program := "ytadpbcbgmopfaaa", sum := "6b753c386e8149afe5f92bb40c2b2ae92913fa2a508d3659af1fed4d997813f3", func := "caucus/caucuslaw02.CodeNobody", spec := "codeNobody", apart := false }
def CodeNobodySaid : Prop := codeNobodyRow.holds Try.pinned (OpenSpec.ofChange codeNobodySpec)

/-- ITS FALSE NEIGHBOUR: 'it returns false'. Refute it at one input. -/
def codeNobodyWrong : ChangeSpec := { name := "codeNobody", fn := fun _ => fun
  | [d1, d2] => { results := [.lit (.bool false)], args := [d1, d2] }
  | _ => none }
def CodeNobodyWrongFalsely : Prop := codeNobodyRow.holds Try.pinned (OpenSpec.ofChange codeNobodyWrong)

/-- 'caucuslaw02.CodeTravels': WHATEVER THE INPUT: true; the input reads as it did. -/
def codeTravelsSpec : ChangeSpec := { name := "codeTravels", fn := fun _ => fun
  | [d1, d2] => { results := [.lit (.bool true)], args := [d1, d2] }
  | _ => none }
def codeTravelsRow : OpenClaim := { program := "ytadpbcbgmopfaaa", sum := "6b753c386e8149afe5f92bb40c2b2ae92913fa2a508d3659af1fed4d997813f3", func := "caucus/caucuslaw02.CodeTravels", spec := "codeTravels", apart := false }
def CodeTravelsSaid : Prop := codeTravelsRow.holds Try.pinned (OpenSpec.ofChange codeTravelsSpec)

/-- ITS FALSE NEIGHBOUR: 'it returns false'. Refute it at one input. -/
def codeTravelsWrong : ChangeSpec := { name := "codeTravels", fn := fun _ => fun
  | [d1, d2] => { results := [.lit (.bool false)], args := [d1, d2] }
  | _ => none }
def CodeTravelsWrongFalsely : Prop := codeTravelsRow.holds Try.pinned (OpenSpec.ofChange codeTravelsWrong)

/-- 'caucuslaw03.ProcCompares': WHATEVER THE INPUT: true; the input reads as it did. -/
def procComparesSpec : ChangeSpec := { name := "procCompares", fn := fun _ => fun
  | [d1, d2] => { results := [.lit (.bool true)], args := [d1, d2] }
  | _ => none }
def procComparesRow : OpenClaim := { program := "ytadpbcbgmopfaaa", sum := "6b753c386e8149afe5f92bb40c2b2ae92913fa2a508d3659af1fed4d997813f3", func := "caucus/caucuslaw03.ProcCompares", spec := "procCompares", unfollowed := true, recurses := true, apart := false }
def ProcComparesSaid : Prop := procComparesRow.holds Try.pinned (OpenSpec.ofChange procComparesSpec)

/-- ITS FALSE NEIGHBOUR: 'it returns false'. Refute it at one input. -/
def procComparesWrong : ChangeSpec := { name := "procCompares", fn := fun _ => fun
  | [d1, d2] => { results := [.lit (.bool false)], args := [d1, d2] }
  | _ => none }
def ProcComparesWrongFalsely : Prop := procComparesRow.holds Try.pinned (OpenSpec.ofChange procComparesWrong)

/-- 'caucuslaw03.ProcSorts': WHATEVER THE INPUT: true; the input reads as it did. -/
def procSortsSpec : ChangeSpec := { name := "procSorts", fn := fun _ => fun
  | [d1, d2] => { results := [.lit (.bool true)], args := [d1, d2] }
  | _ => none }
def procSortsRow : OpenClaim := { program := "ytadpbcbgmopfaaa", sum := "6b753c386e8149afe5f92bb40c2b2ae92913fa2a508d3659af1fed4d997813f3", func := "caucus/caucuslaw03.ProcSorts", spec := "procSorts", unfollowed := true, recurses := true, apart := false }
def ProcSortsSaid : Prop := procSortsRow.holds Try.pinned (OpenSpec.ofChange procSortsSpec)

/-- ITS FALSE NEIGHBOUR: 'it returns false'. Refute it at one input. -/
def procSortsWrong : ChangeSpec := { name := "procSorts", fn := fun _ => fun
  | [d1, d2] => { results := [.lit (.bool false)], args := [d1, d2] }
  | _ => none }
def ProcSortsWrongFalsely : Prop := procSortsRow.holds Try.pinned (OpenSpec.ofChange procSortsWrong)

/-- 'caucuslaw03.ProcJoins': WHATEVER THE INPUT: true; the input reads as it did. -/
def procJoinsSpec : ChangeSpec := { name := "procJoins", fn := fun _ => fun
  | [d1, d2, d3] => { results := [.lit (.bool true)], args := [d1, d2, d3] }
  | _ => none }
def procJoinsRow : OpenClaim := { program := "ytadpbcbgmopfaaa", sum := "6b753c386e8149afe5f92bb40c2b2ae92913fa2a508d3659af1fed4d997813f3", func := "caucus/caucuslaw03.ProcJoins", spec := "procJoins", unfollowed := true, recurses := true, apart := false }
def ProcJoinsSaid : Prop := procJoinsRow.holds Try.pinned (OpenSpec.ofChange procJoinsSpec)

/-- ITS FALSE NEIGHBOUR: 'it returns false'. Refute it at one input. -/
def procJoinsWrong : ChangeSpec := { name := "procJoins", fn := fun _ => fun
  | [d1, d2, d3] => { results := [.lit (.bool false)], args := [d1, d2, d3] }
  | _ => none }
def ProcJoinsWrongFalsely : Prop := procJoinsRow.holds Try.pinned (OpenSpec.ofChange procJoinsWrong)

/-- 'caucuslaw03.ProcAlgebra': WHATEVER THE INPUT: true; the input reads as it did. -/
def procAlgebraSpec : ChangeSpec := { name := "procAlgebra", fn := fun _ => fun
  | [d1, d2, d3] => { results := [.lit (.bool true)], args := [d1, d2, d3] }
  | _ => none }
def procAlgebraRow : OpenClaim := { program := "ytadpbcbgmopfaaa", sum := "6b753c386e8149afe5f92bb40c2b2ae92913fa2a508d3659af1fed4d997813f3", func := "caucus/caucuslaw03.ProcAlgebra", spec := "procAlgebra", unfollowed := true, recurses := true, apart := false }
def ProcAlgebraSaid : Prop := procAlgebraRow.holds Try.pinned (OpenSpec.ofChange procAlgebraSpec)

/-- ITS FALSE NEIGHBOUR: 'it returns false'. Refute it at one input. -/
def procAlgebraWrong : ChangeSpec := { name := "procAlgebra", fn := fun _ => fun
  | [d1, d2, d3] => { results := [.lit (.bool false)], args := [d1, d2, d3] }
  | _ => none }
def ProcAlgebraWrongFalsely : Prop := procAlgebraRow.holds Try.pinned (OpenSpec.ofChange procAlgebraWrong)

/-- 'caucuslaw03.ProcOrder': WHATEVER THE INPUT: true; the input reads as it did. -/
def procOrderSpec : ChangeSpec := { name := "procOrder", fn := fun _ => fun
  | [d1, d2, d3] => { results := [.lit (.bool true)], args := [d1, d2, d3] }
  | _ => none }
def procOrderRow : OpenClaim := { program := "ytadpbcbgmopfaaa", sum := "6b753c386e8149afe5f92bb40c2b2ae92913fa2a508d3659af1fed4d997813f3", func := "caucus/caucuslaw03.ProcOrder", spec := "procOrder", unfollowed := true, recurses := true, apart := false }
def ProcOrderSaid : Prop := procOrderRow.holds Try.pinned (OpenSpec.ofChange procOrderSpec)

/-- ITS FALSE NEIGHBOUR: 'it returns false'. Refute it at one input. -/
def procOrderWrong : ChangeSpec := { name := "procOrder", fn := fun _ => fun
  | [d1, d2, d3] => { results := [.lit (.bool false)], args := [d1, d2, d3] }
  | _ => none }
def ProcOrderWrongFalsely : Prop := procOrderRow.holds Try.pinned (OpenSpec.ofChange procOrderWrong)

/-- 'caucuslaw03.ProcBack': WHATEVER THE INPUT: true; the input reads as it did. -/
def procBackSpec : ChangeSpec := { name := "procBack", fn := fun _ => fun
  | [d1, d2] => { results := [.lit (.bool true)], args := [d1, d2] }
  | _ => none }
def procBackRow : OpenClaim := { program := "ytadpbcbgmopfaaa", sum := "6b753c386e8149afe5f92bb40c2b2ae92913fa2a508d3659af1fed4d997813f3", func := "caucus/caucuslaw03.ProcBack", spec := "procBack", unfollowed := true, recurses := true, apart := false }
def ProcBackSaid : Prop := procBackRow.holds Try.pinned (OpenSpec.ofChange procBackSpec)

/-- ITS FALSE NEIGHBOUR: 'it returns false'. Refute it at one input. -/
def procBackWrong : ChangeSpec := { name := "procBack", fn := fun _ => fun
  | [d1, d2] => { results := [.lit (.bool false)], args := [d1, d2] }
  | _ => none }
def ProcBackWrongFalsely : Prop := procBackRow.holds Try.pinned (OpenSpec.ofChange procBackWrong)

/- THE SECOND FORM. 'bulk': how many values and letters a reading holds, each counted each time it is reached (what is shared counts as often as it is met; a slice's spare places count too). A statement '..UptoSaid' is the law's where the arguments, and the package variables that the reading takes, are together of bulk at most 1048576: NARROWER than '..Said'. Prove '..Said' where nothing that the law and all that it calls make is longer than what came in: it says more and counts as full. Else prove '..UptoSaid'. A law counts once. -/
mutual
def uptoBulk {H : Type} : DataW H → Nat
  | .lit (.string bytes) => bytes.length + 1
  | .lit _ => 1
  | .nil => 1
  | .ptr d => uptoBulk d + 1
  | .slice elems spare => uptoBulkAll elems + uptoBulkAll spare + 1
  | .agg parts => uptoBulkAll parts + 1
  | .iface _ d => uptoBulk d + 1
  | .map entries => uptoBulkEntries entries + 1
  | .held _ => 1
def uptoBulkAll {H : Type} : List (DataW H) → Nat
  | [] => 0
  | d :: r => uptoBulk d + uptoBulkAll r
def uptoBulkEntries {H : Type} : List (Lit × DataW H) → Nat
  | [] => 0
  | x :: r => uptoBulkEntry x + uptoBulkEntries r
def uptoBulkEntry {H : Type} : Lit × DataW H → Nat
  | (.string bytes, d) => bytes.length + uptoBulk d + 1
  | (_, d) => uptoBulk d + 1
 end
def uptoSmall : (H : Type) → List (DataW H) → Bool := fun _ ds => decide (uptoBulkAll ds ≤ 1048576)
def OpenSpec.upto (s : _root_.Go.ChangeSpec) : _root_.Go.OpenSpec := { _root_.Go.OpenSpec.ofChange s with cond := some uptoSmall }

/-- 'caucuslaw02.CodeWides', WHERE WHAT IT READS IS OF BULK AT MOST 1048576: true; the input reads as it did. -/
def codeWidesUptoRow : OpenClaim := { program := "ytadpbcbgmopfaaa", sum := "6b753c386e8149afe5f92bb40c2b2ae92913fa2a508d3659af1fed4d997813f3", func := "caucus/caucuslaw02.CodeWides", spec := "codeWides", apart := false, narrowed := true }
def CodeWidesUptoSaid : Prop := codeWidesUptoRow.holds Try.pinned (OpenSpec.upto codeWidesSpec)

/-- 'caucuslaw02.CodeShorts', WHERE WHAT IT READS IS OF BULK AT MOST 1048576: true; the input reads as it did. -/
def codeShortsUptoRow : OpenClaim := { program := "ytadpbcbgmopfaaa", sum := "6b753c386e8149afe5f92bb40c2b2ae92913fa2a508d3659af1fed4d997813f3", func := "caucus/caucuslaw02.CodeShorts", spec := "codeShorts", apart := false, narrowed := true }
def CodeShortsUptoSaid : Prop := codeShortsUptoRow.holds Try.pinned (OpenSpec.upto codeShortsSpec)

/-- 'caucuslaw02.CodeTexts', WHERE WHAT IT READS IS OF BULK AT MOST 1048576: true; the input reads as it did. -/
def codeTextsUptoRow : OpenClaim := { program := "ytadpbcbgmopfaaa", sum := "6b753c386e8149afe5f92bb40c2b2ae92913fa2a508d3659af1fed4d997813f3", func := "caucus/caucuslaw02.CodeTexts", spec := "codeTexts", apart := false, narrowed := true }
def CodeTextsUptoSaid : Prop := codeTextsUptoRow.holds Try.pinned (OpenSpec.upto codeTextsSpec)

/-- 'caucuslaw02.CodeAsks', WHERE WHAT IT READS IS OF BULK AT MOST 1048576: true; the input reads as it did. -/
def codeAsksUptoRow : OpenClaim := { program := "ytadpbcbgmopfaaa", sum := "6b753c386e8149afe5f92bb40c2b2ae92913fa2a508d3659af1fed4d997813f3", func := "caucus/caucuslaw02.CodeAsks", spec := "codeAsks", apart := false, narrowed := true }
def CodeAsksUptoSaid : Prop := codeAsksUptoRow.holds Try.pinned (OpenSpec.upto codeAsksSpec)

/-- 'caucuslaw02.CodeNobody', WHERE WHAT IT READS IS OF BULK AT MOST 1048576: true; the input reads as it did. -/
def codeNobodyUptoRow : OpenClaim := { program := "ytadpbcbgmopfaaa", sum := "6b753c386e8149afe5f92bb40c2b2ae92913fa2a508d3659af1fed4d997813f3", func := "caucus/caucuslaw02.CodeNobody", spec := "codeNobody", apart := false, narrowed := true }
def CodeNobodyUptoSaid : Prop := codeNobodyUptoRow.holds Try.pinned (OpenSpec.upto codeNobodySpec)

/-- 'caucuslaw02.CodeTravels', WHERE WHAT IT READS IS OF BULK AT MOST 1048576: true; the input reads as it did. -/
def codeTravelsUptoRow : OpenClaim := { program := "ytadpbcbgmopfaaa", sum := "6b753c386e8149afe5f92bb40c2b2ae92913fa2a508d3659af1fed4d997813f3", func := "caucus/caucuslaw02.CodeTravels", spec := "codeTravels", apart := false, narrowed := true }
def CodeTravelsUptoSaid : Prop := codeTravelsUptoRow.holds Try.pinned (OpenSpec.upto codeTravelsSpec)

/-- 'caucuslaw03.ProcCompares', WHERE WHAT IT READS IS OF BULK AT MOST 1048576: true; the input reads as it did. -/
def procComparesUptoRow : OpenClaim := { program := "ytadpbcbgmopfaaa", sum := "6b753c386e8149afe5f92bb40c2b2ae92913fa2a508d3659af1fed4d997813f3", func := "caucus/caucuslaw03.ProcCompares", spec := "procCompares", unfollowed := true, recurses := true, apart := false, narrowed := true }
def ProcComparesUptoSaid : Prop := procComparesUptoRow.holds Try.pinned (OpenSpec.upto procComparesSpec)

/-- 'caucuslaw03.ProcSorts', WHERE WHAT IT READS IS OF BULK AT MOST 1048576: true; the input reads as it did. -/
def procSortsUptoRow : OpenClaim := { program := "ytadpbcbgmopfaaa", sum := "6b753c386e8149afe5f92bb40c2b2ae92913fa2a508d3659af1fed4d997813f3", func := "caucus/caucuslaw03.ProcSorts", spec := "procSorts", unfollowed := true, recurses := true, apart := false, narrowed := true }
def ProcSortsUptoSaid : Prop := procSortsUptoRow.holds Try.pinned (OpenSpec.upto procSortsSpec)

/-- 'caucuslaw03.ProcJoins', WHERE WHAT IT READS IS OF BULK AT MOST 1048576: true; the input reads as it did. -/
def procJoinsUptoRow : OpenClaim := { program := "ytadpbcbgmopfaaa", sum := "6b753c386e8149afe5f92bb40c2b2ae92913fa2a508d3659af1fed4d997813f3", func := "caucus/caucuslaw03.ProcJoins", spec := "procJoins", unfollowed := true, recurses := true, apart := false, narrowed := true }
def ProcJoinsUptoSaid : Prop := procJoinsUptoRow.holds Try.pinned (OpenSpec.upto procJoinsSpec)

/-- 'caucuslaw03.ProcAlgebra', WHERE WHAT IT READS IS OF BULK AT MOST 1048576: true; the input reads as it did. -/
def procAlgebraUptoRow : OpenClaim := { program := "ytadpbcbgmopfaaa", sum := "6b753c386e8149afe5f92bb40c2b2ae92913fa2a508d3659af1fed4d997813f3", func := "caucus/caucuslaw03.ProcAlgebra", spec := "procAlgebra", unfollowed := true, recurses := true, apart := false, narrowed := true }
def ProcAlgebraUptoSaid : Prop := procAlgebraUptoRow.holds Try.pinned (OpenSpec.upto procAlgebraSpec)

/-- 'caucuslaw03.ProcOrder', WHERE WHAT IT READS IS OF BULK AT MOST 1048576: true; the input reads as it did. -/
def procOrderUptoRow : OpenClaim := { program := "ytadpbcbgmopfaaa", sum := "6b753c386e8149afe5f92bb40c2b2ae92913fa2a508d3659af1fed4d997813f3", func := "caucus/caucuslaw03.ProcOrder", spec := "procOrder", unfollowed := true, recurses := true, apart := false, narrowed := true }
def ProcOrderUptoSaid : Prop := procOrderUptoRow.holds Try.pinned (OpenSpec.upto procOrderSpec)

/-- 'caucuslaw03.ProcBack', WHERE WHAT IT READS IS OF BULK AT MOST 1048576: true; the input reads as it did. -/
def procBackUptoRow : OpenClaim := { program := "ytadpbcbgmopfaaa", sum := "6b753c386e8149afe5f92bb40c2b2ae92913fa2a508d3659af1fed4d997813f3", func := "caucus/caucuslaw03.ProcBack", spec := "procBack", unfollowed := true, recurses := true, apart := false, narrowed := true }
def ProcBackUptoSaid : Prop := procBackUptoRow.holds Try.pinned (OpenSpec.upto procBackSpec)

end Rows
end Go.Proofs.Ytadpbcbgmopfaaa
