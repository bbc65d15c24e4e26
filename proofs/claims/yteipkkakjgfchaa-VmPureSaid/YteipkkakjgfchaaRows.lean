/-
  No cell of these rows narrows 'for every input' (looked for: loops, veiled, ifaces, maps, wideKeys, modest, calm, conditions, laid).
  DERIVED. THE GIVEN ROWS OF THIS SEAT. 5 by the template 'for every input the law returns true; each argument reads behind the call as it read before'; 0 by the template 'total and deterministic' (their statements: YteipkkakjgfchaaTotals.lean).
  GIVEN WITH THE SEED: the statements are not yours to turn. If you find one false, say at which input.
  Laid BY PROGRAM, IN A SANDBOX (cutbox-rows.mjs): the forced cells as the released guide's own fill.sh prints them over the translation 9a88ff88003c05a0… (all of the seat's roots in one cut). By AI agents, Wed Nov 11 2026. No macro, syntax, notation, axiom, sorry.
-/
import Derived.Test.YteipkkakjgfchaaChecked
import GoSem.Claim
import GoSem.ClaimJoined
import GoSem.ClaimMapViews
import Derived.JoinedTies
import Derived.KernelRfl
namespace Go.Proofs.Yteipkkakjgfchaa
/- THE CELL 'sum', in the pinned program and in every row, IS THE sha256 OF THE DUMP (.gsa) THAT YteipkkakjgfchaaProg.lean LOADS. Nothing in Lean hashes anything: it is a label: what it is worth is what the hold of that sum in a sandbox is worth. -/
noncomputable def Try.pinned : Pinned := { name := "yteipkkakjgfchaa", sum := "9a88ff88003c05a04130ef359181d687a2d0cee2bad59040ee8139d260b49a14", checked := Try.checked }
namespace Rows
def none {H : Type} : Left H := { results := [], args := [] }

/-- 'dominolaw11.VmOps': WHATEVER THE INPUT: true; the input reads as it did. -/
def vmOpsSpec : ChangeSpec := { name := "vmOps", fn := fun _ => fun
  | [d1, d2, d3, d4, d5] => { results := [.lit (.bool true)], args := [d1, d2, d3, d4, d5] }
  | _ => none }
def vmOpsRow : OpenClaim := { program := "yteipkkakjgfchaa", sum := "9a88ff88003c05a04130ef359181d687a2d0cee2bad59040ee8139d260b49a14", func := "domino/dominolaw11.VmOps", spec := "vmOps", inPlace := ["math/bits.Sub64"], unfollowed := true, recurses := true, apart := false }
def VmOpsSaid : Prop := vmOpsRow.holds Try.pinned (OpenSpec.ofChange vmOpsSpec)

/-- ITS FALSE NEIGHBOUR: 'it returns false'. Refute it at one input. -/
def vmOpsWrong : ChangeSpec := { name := "vmOps", fn := fun _ => fun
  | [d1, d2, d3, d4, d5] => { results := [.lit (.bool false)], args := [d1, d2, d3, d4, d5] }
  | _ => none }
def VmOpsWrongFalsely : Prop := vmOpsRow.holds Try.pinned (OpenSpec.ofChange vmOpsWrong)

/-- 'dominolaw11.VmSlots': WHATEVER THE INPUT: true; the input reads as it did. -/
def vmSlotsSpec : ChangeSpec := { name := "vmSlots", fn := fun _ => fun
  | [d1, d2, d3, d4] => { results := [.lit (.bool true)], args := [d1, d2, d3, d4] }
  | _ => none }
def vmSlotsRow : OpenClaim := { program := "yteipkkakjgfchaa", sum := "9a88ff88003c05a04130ef359181d687a2d0cee2bad59040ee8139d260b49a14", func := "domino/dominolaw11.VmSlots", spec := "vmSlots", inPlace := ["math/bits.Sub64"], unfollowed := true, recurses := true, apart := false }
def VmSlotsSaid : Prop := vmSlotsRow.holds Try.pinned (OpenSpec.ofChange vmSlotsSpec)

/-- ITS FALSE NEIGHBOUR: 'it returns false'. Refute it at one input. -/
def vmSlotsWrong : ChangeSpec := { name := "vmSlots", fn := fun _ => fun
  | [d1, d2, d3, d4] => { results := [.lit (.bool false)], args := [d1, d2, d3, d4] }
  | _ => none }
def VmSlotsWrongFalsely : Prop := vmSlotsRow.holds Try.pinned (OpenSpec.ofChange vmSlotsWrong)

/-- 'dominolaw11.VmBad': WHATEVER THE INPUT: true; the input reads as it did. -/
def vmBadSpec : ChangeSpec := { name := "vmBad", fn := fun _ => fun
  | [d1, d2, d3, d4] => { results := [.lit (.bool true)], args := [d1, d2, d3, d4] }
  | _ => none }
def vmBadRow : OpenClaim := { program := "yteipkkakjgfchaa", sum := "9a88ff88003c05a04130ef359181d687a2d0cee2bad59040ee8139d260b49a14", func := "domino/dominolaw11.VmBad", spec := "vmBad", inPlace := ["math/bits.Sub64"], unfollowed := true, recurses := true, apart := false }
def VmBadSaid : Prop := vmBadRow.holds Try.pinned (OpenSpec.ofChange vmBadSpec)

/-- ITS FALSE NEIGHBOUR: 'it returns false'. Refute it at one input. -/
def vmBadWrong : ChangeSpec := { name := "vmBad", fn := fun _ => fun
  | [d1, d2, d3, d4] => { results := [.lit (.bool false)], args := [d1, d2, d3, d4] }
  | _ => none }
def VmBadWrongFalsely : Prop := vmBadRow.holds Try.pinned (OpenSpec.ofChange vmBadWrong)

/-- 'dominolaw11.VmLines': WHATEVER THE INPUT: true; the input reads as it did. -/
def vmLinesSpec : ChangeSpec := { name := "vmLines", fn := fun _ => fun
  | [d1, d2, d3, d4] => { results := [.lit (.bool true)], args := [d1, d2, d3, d4] }
  | _ => none }
def vmLinesRow : OpenClaim := { program := "yteipkkakjgfchaa", sum := "9a88ff88003c05a04130ef359181d687a2d0cee2bad59040ee8139d260b49a14", func := "domino/dominolaw11.VmLines", spec := "vmLines", inPlace := ["math/bits.Sub64"], unfollowed := true, recurses := true, apart := false }
def VmLinesSaid : Prop := vmLinesRow.holds Try.pinned (OpenSpec.ofChange vmLinesSpec)

/-- ITS FALSE NEIGHBOUR: 'it returns false'. Refute it at one input. -/
def vmLinesWrong : ChangeSpec := { name := "vmLines", fn := fun _ => fun
  | [d1, d2, d3, d4] => { results := [.lit (.bool false)], args := [d1, d2, d3, d4] }
  | _ => none }
def VmLinesWrongFalsely : Prop := vmLinesRow.holds Try.pinned (OpenSpec.ofChange vmLinesWrong)

/-- 'dominolaw11.VmPure': WHATEVER THE INPUT: true; the input reads as it did. -/
def vmPureSpec : ChangeSpec := { name := "vmPure", fn := fun _ => fun
  | [d1, d2, d3] => { results := [.lit (.bool true)], args := [d1, d2, d3] }
  | _ => none }
def vmPureRow : OpenClaim := { program := "yteipkkakjgfchaa", sum := "9a88ff88003c05a04130ef359181d687a2d0cee2bad59040ee8139d260b49a14", func := "domino/dominolaw11.VmPure", spec := "vmPure", inPlace := ["math/bits.Sub64"], unfollowed := true, recurses := true, apart := false }
def VmPureSaid : Prop := vmPureRow.holds Try.pinned (OpenSpec.ofChange vmPureSpec)

/-- ITS FALSE NEIGHBOUR: 'it returns false'. Refute it at one input. -/
def vmPureWrong : ChangeSpec := { name := "vmPure", fn := fun _ => fun
  | [d1, d2, d3] => { results := [.lit (.bool false)], args := [d1, d2, d3] }
  | _ => none }
def VmPureWrongFalsely : Prop := vmPureRow.holds Try.pinned (OpenSpec.ofChange vmPureWrong)

/- THE SECOND FORM. 'bulk': how many values and letters a reading holds, each counted each time it is reached (what is shared counts as often as it is met; a slice's spare places count too). A statement '..UptoSaid' is the law's where the arguments, and the package variables that the reading takes, are together of bulk at most 1048576: NARROWER than '..Said'. Prove '..Said' where nothing that the law and all that it calls make is longer than what came in: it says more and counts as full. Else prove '..UptoSaid'. A law counts once. -/
mutual
def uptoBulk {H : Type} : DataW H → Nat
  | .lit (.string bytes) => bytes.length + 1
  | .lit _ => 1
  | .nil => 1
  | .ptr d => uptoBulk d + 1
  | .slice elems spare => uptoBulkAll elems + uptoBulkAll spare + 1
  | .agg parts => uptoBulkAll parts + 1
  | .iface _ d => uptoBulk d + 1
  | .map entries => uptoBulkEntries entries + 1
  | .held _ => 1
def uptoBulkAll {H : Type} : List (DataW H) → Nat
  | [] => 0
  | d :: r => uptoBulk d + uptoBulkAll r
def uptoBulkEntries {H : Type} : List (Lit × DataW H) → Nat
  | [] => 0
  | x :: r => uptoBulkEntry x + uptoBulkEntries r
def uptoBulkEntry {H : Type} : Lit × DataW H → Nat
  | (.string bytes, d) => bytes.length + uptoBulk d + 1
  | (_, d) => uptoBulk d + 1
 end
def uptoSmall : (H : Type) → List (DataW H) → Bool := fun _ ds => decide (uptoBulkAll ds ≤ 1048576)
def OpenSpec.upto (s : _root_.Go.ChangeSpec) : _root_.Go.OpenSpec := { _root_.Go.OpenSpec.ofChange s with cond := some uptoSmall }

/-- 'dominolaw11.VmOps', WHERE WHAT IT READS IS OF BULK AT MOST 1048576: true; the input reads as it did. -/
def vmOpsUptoRow : OpenClaim := { program := "yteipkkakjgfchaa", sum := "9a88ff88003c05a04130ef359181d687a2d0cee2bad59040ee8139d260b49a14", func := "domino/dominolaw11.VmOps", spec := "vmOps", inPlace := ["math/bits.Sub64"], unfollowed := true, recurses := true, apart := false, narrowed := true }
def VmOpsUptoSaid : Prop := vmOpsUptoRow.holds Try.pinned (OpenSpec.upto vmOpsSpec)

/-- 'dominolaw11.VmSlots', WHERE WHAT IT READS IS OF BULK AT MOST 1048576: true; the input reads as it did. -/
def vmSlotsUptoRow : OpenClaim := { program := "yteipkkakjgfchaa", sum := "9a88ff88003c05a04130ef359181d687a2d0cee2bad59040ee8139d260b49a14", func := "domino/dominolaw11.VmSlots", spec := "vmSlots", inPlace := ["math/bits.Sub64"], unfollowed := true, recurses := true, apart := false, narrowed := true }
def VmSlotsUptoSaid : Prop := vmSlotsUptoRow.holds Try.pinned (OpenSpec.upto vmSlotsSpec)

/-- 'dominolaw11.VmBad', WHERE WHAT IT READS IS OF BULK AT MOST 1048576: true; the input reads as it did. -/
def vmBadUptoRow : OpenClaim := { program := "yteipkkakjgfchaa", sum := "9a88ff88003c05a04130ef359181d687a2d0cee2bad59040ee8139d260b49a14", func := "domino/dominolaw11.VmBad", spec := "vmBad", inPlace := ["math/bits.Sub64"], unfollowed := true, recurses := true, apart := false, narrowed := true }
def VmBadUptoSaid : Prop := vmBadUptoRow.holds Try.pinned (OpenSpec.upto vmBadSpec)

/-- 'dominolaw11.VmLines', WHERE WHAT IT READS IS OF BULK AT MOST 1048576: true; the input reads as it did. -/
def vmLinesUptoRow : OpenClaim := { program := "yteipkkakjgfchaa", sum := "9a88ff88003c05a04130ef359181d687a2d0cee2bad59040ee8139d260b49a14", func := "domino/dominolaw11.VmLines", spec := "vmLines", inPlace := ["math/bits.Sub64"], unfollowed := true, recurses := true, apart := false, narrowed := true }
def VmLinesUptoSaid : Prop := vmLinesUptoRow.holds Try.pinned (OpenSpec.upto vmLinesSpec)

/-- 'dominolaw11.VmPure', WHERE WHAT IT READS IS OF BULK AT MOST 1048576: true; the input reads as it did. -/
def vmPureUptoRow : OpenClaim := { program := "yteipkkakjgfchaa", sum := "9a88ff88003c05a04130ef359181d687a2d0cee2bad59040ee8139d260b49a14", func := "domino/dominolaw11.VmPure", spec := "vmPure", inPlace := ["math/bits.Sub64"], unfollowed := true, recurses := true, apart := false, narrowed := true }
def VmPureUptoSaid : Prop := vmPureUptoRow.holds Try.pinned (OpenSpec.upto vmPureSpec)

end Rows
end Go.Proofs.Yteipkkakjgfchaa
