/-
  No cell of these rows narrows 'for every input' (looked for: loops, veiled, ifaces, maps, wideKeys, modest, calm, conditions, laid).
  DERIVED. THE GIVEN ROWS OF THIS SEAT. 7 by the template 'for every input the law returns true; each argument reads behind the call as it read before'; 0 by the template 'total and deterministic' (their statements: YtlcddfkhklmieaaTotals.lean).
  GIVEN WITH THE SEED: the statements are not yours to turn. If you find one false, say at which input.
  Laid BY PROGRAM, IN A SANDBOX (cutbox-rows.mjs): the forced cells as the released guide's own fill.sh prints them over the translation 4f47ee1de4ad6a83… (all of the seat's roots in one cut). By AI agents, Wed Nov 11 2026. No macro, syntax, notation, axiom, sorry.
-/
import Derived.Test.YtlcddfkhklmieaaChecked
import GoSem.Claim
import GoSem.ClaimJoined
import GoSem.ClaimMapViews
import Derived.JoinedTies
import Derived.KernelRfl
namespace Go.Proofs.Ytlcddfkhklmieaa
/- THE CELL 'sum', in the pinned program and in every row, IS THE sha256 OF THE DUMP (.gsa) THAT YtlcddfkhklmieaaProg.lean LOADS. Nothing in Lean hashes anything: it is a label: what it is worth is what the hold of that sum in a sandbox is worth. -/
noncomputable def Try.pinned : Pinned := { name := "ytlcddfkhklmieaa", sum := "4f47ee1de4ad6a8350db5850e329a43722fd0e95755a64f6dd1fa1db1d456b9f", checked := Try.checked }
namespace Rows
def none {H : Type} : Left H := { results := [], args := [] }

/-- 'caucuslaw06.PacketMay': WHATEVER THE INPUT: true; the input reads as it did. -/
def packetMaySpec : ChangeSpec := { name := "packetMay", fn := fun _ => fun
  | [d] => { results := [.lit (.bool true)], args := [d] }
  | _ => none }
def packetMayRow : OpenClaim := { program := "ytlcddfkhklmieaa", sum := "4f47ee1de4ad6a8350db5850e329a43722fd0e95755a64f6dd1fa1db1d456b9f", func := "caucus/caucuslaw06.PacketMay", spec := "packetMay", unfollowed := true, recurses := true, apart := false }
def PacketMaySaid : Prop := packetMayRow.holds Try.pinned (OpenSpec.ofChange packetMaySpec)

/-- ITS FALSE NEIGHBOUR: 'it returns false'. Refute it at one input. -/
def packetMayWrong : ChangeSpec := { name := "packetMay", fn := fun _ => fun
  | [d] => { results := [.lit (.bool false)], args := [d] }
  | _ => none }
def PacketMayWrongFalsely : Prop := packetMayRow.holds Try.pinned (OpenSpec.ofChange packetMayWrong)

/-- 'caucuslaw06.PacketBytes': WHATEVER THE INPUT: true; the input reads as it did. -/
def packetBytesSpec : ChangeSpec := { name := "packetBytes", fn := fun _ => fun
  | [d] => { results := [.lit (.bool true)], args := [d] }
  | _ => none }
def packetBytesRow : OpenClaim := { program := "ytlcddfkhklmieaa", sum := "4f47ee1de4ad6a8350db5850e329a43722fd0e95755a64f6dd1fa1db1d456b9f", func := "caucus/caucuslaw06.PacketBytes", spec := "packetBytes", unfollowed := true, recurses := true, apart := false }
def PacketBytesSaid : Prop := packetBytesRow.holds Try.pinned (OpenSpec.ofChange packetBytesSpec)

/-- ITS FALSE NEIGHBOUR: 'it returns false'. Refute it at one input. -/
def packetBytesWrong : ChangeSpec := { name := "packetBytes", fn := fun _ => fun
  | [d] => { results := [.lit (.bool false)], args := [d] }
  | _ => none }
def PacketBytesWrongFalsely : Prop := packetBytesRow.holds Try.pinned (OpenSpec.ofChange packetBytesWrong)

/-- 'caucuslaw06.PacketReads': WHATEVER THE INPUT: true; the input reads as it did. -/
def packetReadsSpec : ChangeSpec := { name := "packetReads", fn := fun _ => fun
  | [d] => { results := [.lit (.bool true)], args := [d] }
  | _ => none }
def packetReadsRow : OpenClaim := { program := "ytlcddfkhklmieaa", sum := "4f47ee1de4ad6a8350db5850e329a43722fd0e95755a64f6dd1fa1db1d456b9f", func := "caucus/caucuslaw06.PacketReads", spec := "packetReads", unfollowed := true, recurses := true, apart := false }
def PacketReadsSaid : Prop := packetReadsRow.holds Try.pinned (OpenSpec.ofChange packetReadsSpec)

/-- ITS FALSE NEIGHBOUR: 'it returns false'. Refute it at one input. -/
def packetReadsWrong : ChangeSpec := { name := "packetReads", fn := fun _ => fun
  | [d] => { results := [.lit (.bool false)], args := [d] }
  | _ => none }
def PacketReadsWrongFalsely : Prop := packetReadsRow.holds Try.pinned (OpenSpec.ofChange packetReadsWrong)

/-- 'caucuslaw06.PacketBack': WHATEVER THE INPUT: true; the input reads as it did. -/
def packetBackSpec : ChangeSpec := { name := "packetBack", fn := fun _ => fun
  | [d] => { results := [.lit (.bool true)], args := [d] }
  | _ => none }
def packetBackRow : OpenClaim := { program := "ytlcddfkhklmieaa", sum := "4f47ee1de4ad6a8350db5850e329a43722fd0e95755a64f6dd1fa1db1d456b9f", func := "caucus/caucuslaw06.PacketBack", spec := "packetBack", unfollowed := true, recurses := true, apart := false }
def PacketBackSaid : Prop := packetBackRow.holds Try.pinned (OpenSpec.ofChange packetBackSpec)

/-- ITS FALSE NEIGHBOUR: 'it returns false'. Refute it at one input. -/
def packetBackWrong : ChangeSpec := { name := "packetBack", fn := fun _ => fun
  | [d] => { results := [.lit (.bool false)], args := [d] }
  | _ => none }
def PacketBackWrongFalsely : Prop := packetBackRow.holds Try.pinned (OpenSpec.ofChange packetBackWrong)

/-- 'caucuslaw06.PacketOneForm': WHATEVER THE INPUT: true; the input reads as it did. -/
def packetOneFormSpec : ChangeSpec := { name := "packetOneForm", fn := fun _ => fun
  | [d] => { results := [.lit (.bool true)], args := [d] }
  | _ => none }
def packetOneFormRow : OpenClaim := { program := "ytlcddfkhklmieaa", sum := "4f47ee1de4ad6a8350db5850e329a43722fd0e95755a64f6dd1fa1db1d456b9f", func := "caucus/caucuslaw06.PacketOneForm", spec := "packetOneForm", unfollowed := true, recurses := true, apart := false }
def PacketOneFormSaid : Prop := packetOneFormRow.holds Try.pinned (OpenSpec.ofChange packetOneFormSpec)

/-- ITS FALSE NEIGHBOUR: 'it returns false'. Refute it at one input. -/
def packetOneFormWrong : ChangeSpec := { name := "packetOneForm", fn := fun _ => fun
  | [d] => { results := [.lit (.bool false)], args := [d] }
  | _ => none }
def PacketOneFormWrongFalsely : Prop := packetOneFormRow.holds Try.pinned (OpenSpec.ofChange packetOneFormWrong)

/-- 'caucuslaw06.PacketApart': WHATEVER THE INPUT: true; the input reads as it did. -/
def packetApartSpec : ChangeSpec := { name := "packetApart", fn := fun _ => fun
  | [d1, d2] => { results := [.lit (.bool true)], args := [d1, d2] }
  | _ => none }
def packetApartRow : OpenClaim := { program := "ytlcddfkhklmieaa", sum := "4f47ee1de4ad6a8350db5850e329a43722fd0e95755a64f6dd1fa1db1d456b9f", func := "caucus/caucuslaw06.PacketApart", spec := "packetApart", unfollowed := true, recurses := true, apart := false }
def PacketApartSaid : Prop := packetApartRow.holds Try.pinned (OpenSpec.ofChange packetApartSpec)

/-- ITS FALSE NEIGHBOUR: 'it returns false'. Refute it at one input. -/
def packetApartWrong : ChangeSpec := { name := "packetApart", fn := fun _ => fun
  | [d1, d2] => { results := [.lit (.bool false)], args := [d1, d2] }
  | _ => none }
def PacketApartWrongFalsely : Prop := packetApartRow.holds Try.pinned (OpenSpec.ofChange packetApartWrong)

/-- 'caucuslaw06.PacketEnds': WHATEVER THE INPUT: true; the input reads as it did. -/
def packetEndsSpec : ChangeSpec := { name := "packetEnds", fn := fun _ => fun
  | [d1, d2, d3] => { results := [.lit (.bool true)], args := [d1, d2, d3] }
  | _ => none }
def packetEndsRow : OpenClaim := { program := "ytlcddfkhklmieaa", sum := "4f47ee1de4ad6a8350db5850e329a43722fd0e95755a64f6dd1fa1db1d456b9f", func := "caucus/caucuslaw06.PacketEnds", spec := "packetEnds", unfollowed := true, recurses := true, apart := false }
def PacketEndsSaid : Prop := packetEndsRow.holds Try.pinned (OpenSpec.ofChange packetEndsSpec)

/-- ITS FALSE NEIGHBOUR: 'it returns false'. Refute it at one input. -/
def packetEndsWrong : ChangeSpec := { name := "packetEnds", fn := fun _ => fun
  | [d1, d2, d3] => { results := [.lit (.bool false)], args := [d1, d2, d3] }
  | _ => none }
def PacketEndsWrongFalsely : Prop := packetEndsRow.holds Try.pinned (OpenSpec.ofChange packetEndsWrong)

/- THE SECOND FORM. 'bulk': how many values and letters a reading holds, each counted each time it is reached (what is shared counts as often as it is met; a slice's spare places count too). A statement '..UptoSaid' is the law's where the arguments, and the package variables that the reading takes, are together of bulk at most 1048576: NARROWER than '..Said'. Prove '..Said' where nothing that the law and all that it calls make is longer than what came in: it says more and counts as full. Else prove '..UptoSaid'. A law counts once. -/
mutual
def uptoBulk {H : Type} : DataW H → Nat
  | .lit (.string bytes) => bytes.length + 1
  | .lit _ => 1
  | .nil => 1
  | .ptr d => uptoBulk d + 1
  | .slice elems spare => uptoBulkAll elems + uptoBulkAll spare + 1
  | .agg parts => uptoBulkAll parts + 1
  | .iface _ d => uptoBulk d + 1
  | .map entries => uptoBulkEntries entries + 1
  | .held _ => 1
def uptoBulkAll {H : Type} : List (DataW H) → Nat
  | [] => 0
  | d :: r => uptoBulk d + uptoBulkAll r
def uptoBulkEntries {H : Type} : List (Lit × DataW H) → Nat
  | [] => 0
  | x :: r => uptoBulkEntry x + uptoBulkEntries r
def uptoBulkEntry {H : Type} : Lit × DataW H → Nat
  | (.string bytes, d) => bytes.length + uptoBulk d + 1
  | (_, d) => uptoBulk d + 1
 end
def uptoSmall : (H : Type) → List (DataW H) → Bool := fun _ ds => decide (uptoBulkAll ds ≤ 1048576)
def OpenSpec.upto (s : _root_.Go.ChangeSpec) : _root_.Go.OpenSpec := { _root_.Go.OpenSpec.ofChange s with cond := some uptoSmall }

/-- 'caucuslaw06.PacketMay', WHERE WHAT IT READS IS OF BULK AT MOST 1048576: true; the input reads as it did. -/
def packetMayUptoRow : OpenClaim := { program := "ytlcddfkhklmieaa", sum := "4f47ee1de4ad6a8350db5850e329a43722fd0e95755a64f6dd1fa1db1d456b9f", func := "caucus/caucuslaw06.PacketMay", spec := "packetMay", unfollowed := true, recurses := true, apart := false, narrowed := true }
def PacketMayUptoSaid : Prop := packetMayUptoRow.holds Try.pinned (OpenSpec.upto packetMaySpec)

/-- 'caucuslaw06.PacketBytes', WHERE WHAT IT READS IS OF BULK AT MOST 1048576: true; the input reads as it did. -/
def packetBytesUptoRow : OpenClaim := { program := "ytlcddfkhklmieaa", sum := "4f47ee1de4ad6a8350db5850e329a43722fd0e95755a64f6dd1fa1db1d456b9f", func := "caucus/caucuslaw06.PacketBytes", spec := "packetBytes", unfollowed := true, recurses := true, apart := false, narrowed := true }
def PacketBytesUptoSaid : Prop := packetBytesUptoRow.holds Try.pinned (OpenSpec.upto packetBytesSpec)

/-- 'caucuslaw06.PacketReads', WHERE WHAT IT READS IS OF BULK AT MOST 1048576: true; the input reads as it did. -/
def packetReadsUptoRow : OpenClaim := { program := "ytlcddfkhklmieaa", sum := "4f47ee1de4ad6a8350db5850e329a43722fd0e95755a64f6dd1fa1db1d456b9f", func := "caucus/caucuslaw06.PacketReads", spec := "packetReads", unfollowed := true, recurses := true, apart := false, narrowed := true }
def PacketReadsUptoSaid : Prop := packetReadsUptoRow.holds Try.pinned (OpenSpec.upto packetReadsSpec)

/-- 'caucuslaw06.PacketBack', WHERE WHAT IT READS IS OF BULK AT MOST 1048576: true; the input reads as it did. -/
def packetBackUptoRow : OpenClaim := { program := "ytlcddfkhklmieaa", sum := "4f47ee1de4ad6a8350db5850e329a43722fd0e95755a64f6dd1fa1db1d456b9f", func := "caucus/caucuslaw06.PacketBack", spec := "packetBack", unfollowed := true, recurses := true, apart := false, narrowed := true }
def PacketBackUptoSaid : Prop := packetBackUptoRow.holds Try.pinned (OpenSpec.upto packetBackSpec)

/-- 'caucuslaw06.PacketOneForm', WHERE WHAT IT READS IS OF BULK AT MOST 1048576: true; the input reads as it did. -/
def packetOneFormUptoRow : OpenClaim := { program := "ytlcddfkhklmieaa", sum := "4f47ee1de4ad6a8350db5850e329a43722fd0e95755a64f6dd1fa1db1d456b9f", func := "caucus/caucuslaw06.PacketOneForm", spec := "packetOneForm", unfollowed := true, recurses := true, apart := false, narrowed := true }
def PacketOneFormUptoSaid : Prop := packetOneFormUptoRow.holds Try.pinned (OpenSpec.upto packetOneFormSpec)

/-- 'caucuslaw06.PacketApart', WHERE WHAT IT READS IS OF BULK AT MOST 1048576: true; the input reads as it did. -/
def packetApartUptoRow : OpenClaim := { program := "ytlcddfkhklmieaa", sum := "4f47ee1de4ad6a8350db5850e329a43722fd0e95755a64f6dd1fa1db1d456b9f", func := "caucus/caucuslaw06.PacketApart", spec := "packetApart", unfollowed := true, recurses := true, apart := false, narrowed := true }
def PacketApartUptoSaid : Prop := packetApartUptoRow.holds Try.pinned (OpenSpec.upto packetApartSpec)

/-- 'caucuslaw06.PacketEnds', WHERE WHAT IT READS IS OF BULK AT MOST 1048576: true; the input reads as it did. -/
def packetEndsUptoRow : OpenClaim := { program := "ytlcddfkhklmieaa", sum := "4f47ee1de4ad6a8350db5850e329a43722fd0e95755a64f6dd1fa1db1d456b9f", func := "caucus/caucuslaw06.PacketEnds", spec := "packetEnds", unfollowed := true, recurses := true, apart := false, narrowed := true }
def PacketEndsUptoSaid : Prop := packetEndsUptoRow.holds Try.pinned (OpenSpec.upto packetEndsSpec)

end Rows
end Go.Proofs.Ytlcddfkhklmieaa
