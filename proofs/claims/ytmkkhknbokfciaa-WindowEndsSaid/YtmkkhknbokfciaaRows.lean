/-
  No cell of these rows narrows 'for every input' (looked for: loops, veiled, ifaces, maps, wideKeys, modest, calm, conditions, laid).
  DERIVED. THE GIVEN ROWS OF THIS SEAT. 7 by the template 'for every input the law returns true; each argument reads behind the call as it read before'; 0 by the template 'total and deterministic' (their statements: YtmkkhknbokfciaaTotals.lean).
  GIVEN WITH THE SEED: the statements are not yours to turn. If you find one false, say at which input.
  Laid BY PROGRAM, IN A SANDBOX (cutbox-rows.mjs): the forced cells as the released guide's own fill.sh prints them over the translation d677585d9acc7c84… (all of the seat's roots in one cut). By AI agents, Wed Nov 11 2026. No macro, syntax, notation, axiom, sorry.
-/
import Derived.Test.YtmkkhknbokfciaaChecked
import GoSem.Claim
import GoSem.ClaimJoined
import GoSem.ClaimMapViews
import Derived.JoinedTies
import Derived.KernelRfl
namespace Go.Proofs.Ytmkkhknbokfciaa
/- THE CELL 'sum', in the pinned program and in every row, IS THE sha256 OF THE DUMP (.gsa) THAT YtmkkhknbokfciaaProg.lean LOADS. Nothing in Lean hashes anything: it is a label: what it is worth is what the hold of that sum in a sandbox is worth. -/
noncomputable def Try.pinned : Pinned := { name := "ytmkkhknbokfciaa", sum := "d677585d9acc7c84e1fc89ad2b2fb4a25dc139244e9c3a2fd383855caeddce3a", checked := Try.checked }
namespace Rows
def none {H : Type} : Left H := { results := [], args := [] }

/-- 'caucuslaw07.WindowPushes': WHATEVER THE INPUT: true; the input reads as it did. -/
def windowPushesSpec : ChangeSpec := { name := "windowPushes", fn := fun _ => fun
  | [d1, d2] => { results := [.lit (.bool true)], args := [d1, d2] }
  | _ => none }
def windowPushesRow : OpenClaim := { program := "ytmkkhknbokfciaa", sum := "d677585d9acc7c84e1fc89ad2b2fb4a25dc139244e9c3a2fd383855caeddce3a", func := "caucus/caucuslaw07.WindowPushes", spec := "windowPushes", unfollowed := true, recurses := true, apart := false }
def WindowPushesSaid : Prop := windowPushesRow.holds Try.pinned (OpenSpec.ofChange windowPushesSpec)

/-- ITS FALSE NEIGHBOUR: 'it returns false'. Refute it at one input. -/
def windowPushesWrong : ChangeSpec := { name := "windowPushes", fn := fun _ => fun
  | [d1, d2] => { results := [.lit (.bool false)], args := [d1, d2] }
  | _ => none }
def WindowPushesWrongFalsely : Prop := windowPushesRow.holds Try.pinned (OpenSpec.ofChange windowPushesWrong)

/-- 'caucuslaw07.WindowDue': WHATEVER THE INPUT: true; the input reads as it did. -/
def windowDueSpec : ChangeSpec := { name := "windowDue", fn := fun _ => fun
  | [d1, d2] => { results := [.lit (.bool true)], args := [d1, d2] }
  | _ => none }
def windowDueRow : OpenClaim := { program := "ytmkkhknbokfciaa", sum := "d677585d9acc7c84e1fc89ad2b2fb4a25dc139244e9c3a2fd383855caeddce3a", func := "caucus/caucuslaw07.WindowDue", spec := "windowDue", unfollowed := true, recurses := true, apart := false }
def WindowDueSaid : Prop := windowDueRow.holds Try.pinned (OpenSpec.ofChange windowDueSpec)

/-- ITS FALSE NEIGHBOUR: 'it returns false'. Refute it at one input. -/
def windowDueWrong : ChangeSpec := { name := "windowDue", fn := fun _ => fun
  | [d1, d2] => { results := [.lit (.bool false)], args := [d1, d2] }
  | _ => none }
def WindowDueWrongFalsely : Prop := windowDueRow.holds Try.pinned (OpenSpec.ofChange windowDueWrong)

/-- 'caucuslaw07.WindowAcks': WHATEVER THE INPUT: true; the input reads as it did. -/
def windowAcksSpec : ChangeSpec := { name := "windowAcks", fn := fun _ => fun
  | [d1, d2] => { results := [.lit (.bool true)], args := [d1, d2] }
  | _ => none }
def windowAcksRow : OpenClaim := { program := "ytmkkhknbokfciaa", sum := "d677585d9acc7c84e1fc89ad2b2fb4a25dc139244e9c3a2fd383855caeddce3a", func := "caucus/caucuslaw07.WindowAcks", spec := "windowAcks", unfollowed := true, recurses := true, apart := false }
def WindowAcksSaid : Prop := windowAcksRow.holds Try.pinned (OpenSpec.ofChange windowAcksSpec)

/-- ITS FALSE NEIGHBOUR: 'it returns false'. Refute it at one input. -/
def windowAcksWrong : ChangeSpec := { name := "windowAcks", fn := fun _ => fun
  | [d1, d2] => { results := [.lit (.bool false)], args := [d1, d2] }
  | _ => none }
def WindowAcksWrongFalsely : Prop := windowAcksRow.holds Try.pinned (OpenSpec.ofChange windowAcksWrong)

/-- 'caucuslaw07.WindowTakes': WHATEVER THE INPUT: true; the input reads as it did. -/
def windowTakesSpec : ChangeSpec := { name := "windowTakes", fn := fun _ => fun
  | [d1, d2] => { results := [.lit (.bool true)], args := [d1, d2] }
  | _ => none }
def windowTakesRow : OpenClaim := { program := "ytmkkhknbokfciaa", sum := "d677585d9acc7c84e1fc89ad2b2fb4a25dc139244e9c3a2fd383855caeddce3a", func := "caucus/caucuslaw07.WindowTakes", spec := "windowTakes", unfollowed := true, recurses := true, apart := false }
def WindowTakesSaid : Prop := windowTakesRow.holds Try.pinned (OpenSpec.ofChange windowTakesSpec)

/-- ITS FALSE NEIGHBOUR: 'it returns false'. Refute it at one input. -/
def windowTakesWrong : ChangeSpec := { name := "windowTakes", fn := fun _ => fun
  | [d1, d2] => { results := [.lit (.bool false)], args := [d1, d2] }
  | _ => none }
def WindowTakesWrongFalsely : Prop := windowTakesRow.holds Try.pinned (OpenSpec.ofChange windowTakesWrong)

/-- 'caucuslaw07.WindowOrder': WHATEVER THE INPUT: true; the input reads as it did. -/
def windowOrderSpec : ChangeSpec := { name := "windowOrder", fn := fun _ => fun
  | [d1, d2] => { results := [.lit (.bool true)], args := [d1, d2] }
  | _ => none }
def windowOrderRow : OpenClaim := { program := "ytmkkhknbokfciaa", sum := "d677585d9acc7c84e1fc89ad2b2fb4a25dc139244e9c3a2fd383855caeddce3a", func := "caucus/caucuslaw07.WindowOrder", spec := "windowOrder", unfollowed := true, recurses := true, apart := false }
def WindowOrderSaid : Prop := windowOrderRow.holds Try.pinned (OpenSpec.ofChange windowOrderSpec)

/-- ITS FALSE NEIGHBOUR: 'it returns false'. Refute it at one input. -/
def windowOrderWrong : ChangeSpec := { name := "windowOrder", fn := fun _ => fun
  | [d1, d2] => { results := [.lit (.bool false)], args := [d1, d2] }
  | _ => none }
def WindowOrderWrongFalsely : Prop := windowOrderRow.holds Try.pinned (OpenSpec.ofChange windowOrderWrong)

/-- 'caucuslaw07.WindowEnds': WHATEVER THE INPUT: true; the input reads as it did. -/
def windowEndsSpec : ChangeSpec := { name := "windowEnds", fn := fun _ => fun
  | [d1, d2] => { results := [.lit (.bool true)], args := [d1, d2] }
  | _ => none }
def windowEndsRow : OpenClaim := { program := "ytmkkhknbokfciaa", sum := "d677585d9acc7c84e1fc89ad2b2fb4a25dc139244e9c3a2fd383855caeddce3a", func := "caucus/caucuslaw07.WindowEnds", spec := "windowEnds", unfollowed := true, recurses := true, apart := false }
def WindowEndsSaid : Prop := windowEndsRow.holds Try.pinned (OpenSpec.ofChange windowEndsSpec)

/-- ITS FALSE NEIGHBOUR: 'it returns false'. Refute it at one input. -/
def windowEndsWrong : ChangeSpec := { name := "windowEnds", fn := fun _ => fun
  | [d1, d2] => { results := [.lit (.bool false)], args := [d1, d2] }
  | _ => none }
def WindowEndsWrongFalsely : Prop := windowEndsRow.holds Try.pinned (OpenSpec.ofChange windowEndsWrong)

/-- 'caucuslaw07.WindowTwice': WHATEVER THE INPUT: true; the input reads as it did. -/
def windowTwiceSpec : ChangeSpec := { name := "windowTwice", fn := fun _ => fun
  | [d1, d2, d3, d4] => { results := [.lit (.bool true)], args := [d1, d2, d3, d4] }
  | _ => none }
def windowTwiceRow : OpenClaim := { program := "ytmkkhknbokfciaa", sum := "d677585d9acc7c84e1fc89ad2b2fb4a25dc139244e9c3a2fd383855caeddce3a", func := "caucus/caucuslaw07.WindowTwice", spec := "windowTwice", unfollowed := true, recurses := true, apart := false }
def WindowTwiceSaid : Prop := windowTwiceRow.holds Try.pinned (OpenSpec.ofChange windowTwiceSpec)

/-- ITS FALSE NEIGHBOUR: 'it returns false'. Refute it at one input. -/
def windowTwiceWrong : ChangeSpec := { name := "windowTwice", fn := fun _ => fun
  | [d1, d2, d3, d4] => { results := [.lit (.bool false)], args := [d1, d2, d3, d4] }
  | _ => none }
def WindowTwiceWrongFalsely : Prop := windowTwiceRow.holds Try.pinned (OpenSpec.ofChange windowTwiceWrong)

/- THE SECOND FORM. 'bulk': how many values and letters a reading holds, each counted each time it is reached (what is shared counts as often as it is met; a slice's spare places count too). A statement '..UptoSaid' is the law's where the arguments, and the package variables that the reading takes, are together of bulk at most 1048576: NARROWER than '..Said'. Prove '..Said' where nothing that the law and all that it calls make is longer than what came in: it says more and counts as full. Else prove '..UptoSaid'. A law counts once. -/
mutual
def uptoBulk {H : Type} : DataW H → Nat
  | .lit (.string bytes) => bytes.length + 1
  | .lit _ => 1
  | .nil => 1
  | .ptr d => uptoBulk d + 1
  | .slice elems spare => uptoBulkAll elems + uptoBulkAll spare + 1
  | .agg parts => uptoBulkAll parts + 1
  | .iface _ d => uptoBulk d + 1
  | .map entries => uptoBulkEntries entries + 1
  | .held _ => 1
def uptoBulkAll {H : Type} : List (DataW H) → Nat
  | [] => 0
  | d :: r => uptoBulk d + uptoBulkAll r
def uptoBulkEntries {H : Type} : List (Lit × DataW H) → Nat
  | [] => 0
  | x :: r => uptoBulkEntry x + uptoBulkEntries r
def uptoBulkEntry {H : Type} : Lit × DataW H → Nat
  | (.string bytes, d) => bytes.length + uptoBulk d + 1
  | (_, d) => uptoBulk d + 1
 end
def uptoSmall : (H : Type) → List (DataW H) → Bool := fun _ ds => decide (uptoBulkAll ds ≤ 1048576)
def OpenSpec.upto (s : _root_.Go.ChangeSpec) : _root_.Go.OpenSpec := { _root_.Go.OpenSpec.ofChange s with cond := some uptoSmall }

/-- 'caucuslaw07.WindowPushes', WHERE WHAT IT READS IS OF BULK AT MOST 1048576: true; the input reads as it did. -/
def windowPushesUptoRow : OpenClaim := { program := "ytmkkhknbokfciaa", sum := "d677585d9acc7c84e1fc89ad2b2fb4a25dc139244e9c3a2fd383855caeddce3a", func := "caucus/caucuslaw07.WindowPushes", spec := "windowPushes", unfollowed := true, recurses := true, apart := false, narrowed := true }
def WindowPushesUptoSaid : Prop := windowPushesUptoRow.holds Try.pinned (OpenSpec.upto windowPushesSpec)

/-- 'caucuslaw07.WindowDue', WHERE WHAT IT READS IS OF BULK AT MOST 1048576: true; the input reads as it did. -/
def windowDueUptoRow : OpenClaim := { program := "ytmkkhknbokfciaa", sum := "d677585d9acc7c84e1fc89ad2b2fb4a25dc139244e9c3a2fd383855caeddce3a", func := "caucus/caucuslaw07.WindowDue", spec := "windowDue", unfollowed := true, recurses := true, apart := false, narrowed := true }
def WindowDueUptoSaid : Prop := windowDueUptoRow.holds Try.pinned (OpenSpec.upto windowDueSpec)

/-- 'caucuslaw07.WindowAcks', WHERE WHAT IT READS IS OF BULK AT MOST 1048576: true; the input reads as it did. -/
def windowAcksUptoRow : OpenClaim := { program := "ytmkkhknbokfciaa", sum := "d677585d9acc7c84e1fc89ad2b2fb4a25dc139244e9c3a2fd383855caeddce3a", func := "caucus/caucuslaw07.WindowAcks", spec := "windowAcks", unfollowed := true, recurses := true, apart := false, narrowed := true }
def WindowAcksUptoSaid : Prop := windowAcksUptoRow.holds Try.pinned (OpenSpec.upto windowAcksSpec)

/-- 'caucuslaw07.WindowTakes', WHERE WHAT IT READS IS OF BULK AT MOST 1048576: true; the input reads as it did. -/
def windowTakesUptoRow : OpenClaim := { program := "ytmkkhknbokfciaa", sum := "d677585d9acc7c84e1fc89ad2b2fb4a25dc139244e9c3a2fd383855caeddce3a", func := "caucus/caucuslaw07.WindowTakes", spec := "windowTakes", unfollowed := true, recurses := true, apart := false, narrowed := true }
def WindowTakesUptoSaid : Prop := windowTakesUptoRow.holds Try.pinned (OpenSpec.upto windowTakesSpec)

/-- 'caucuslaw07.WindowOrder', WHERE WHAT IT READS IS OF BULK AT MOST 1048576: true; the input reads as it did. -/
def windowOrderUptoRow : OpenClaim := { program := "ytmkkhknbokfciaa", sum := "d677585d9acc7c84e1fc89ad2b2fb4a25dc139244e9c3a2fd383855caeddce3a", func := "caucus/caucuslaw07.WindowOrder", spec := "windowOrder", unfollowed := true, recurses := true, apart := false, narrowed := true }
def WindowOrderUptoSaid : Prop := windowOrderUptoRow.holds Try.pinned (OpenSpec.upto windowOrderSpec)

/-- 'caucuslaw07.WindowEnds', WHERE WHAT IT READS IS OF BULK AT MOST 1048576: true; the input reads as it did. -/
def windowEndsUptoRow : OpenClaim := { program := "ytmkkhknbokfciaa", sum := "d677585d9acc7c84e1fc89ad2b2fb4a25dc139244e9c3a2fd383855caeddce3a", func := "caucus/caucuslaw07.WindowEnds", spec := "windowEnds", unfollowed := true, recurses := true, apart := false, narrowed := true }
def WindowEndsUptoSaid : Prop := windowEndsUptoRow.holds Try.pinned (OpenSpec.upto windowEndsSpec)

/-- 'caucuslaw07.WindowTwice', WHERE WHAT IT READS IS OF BULK AT MOST 1048576: true; the input reads as it did. -/
def windowTwiceUptoRow : OpenClaim := { program := "ytmkkhknbokfciaa", sum := "d677585d9acc7c84e1fc89ad2b2fb4a25dc139244e9c3a2fd383855caeddce3a", func := "caucus/caucuslaw07.WindowTwice", spec := "windowTwice", unfollowed := true, recurses := true, apart := false, narrowed := true }
def WindowTwiceUptoSaid : Prop := windowTwiceUptoRow.holds Try.pinned (OpenSpec.upto windowTwiceSpec)

end Rows
end Go.Proofs.Ytmkkhknbokfciaa
