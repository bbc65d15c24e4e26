/-
  NARROWER THAN 'FOR EVERY INPUT', by the rows' own cells (each row's printed sentence says how): PolyTags: laid · PolyEdges: laid · PolyOne: laid · PolyTwice: laid · PolyClamps: laid · PolyParts: laid.
  DERIVED. THE GIVEN ROWS OF THIS SEAT. 6 by the template 'for every input the law returns true; each argument reads behind the call as it read before'; 0 by the template 'total and deterministic' (their statements: YtebkicikpeicmaaDoorTotals.lean).
  GIVEN WITH THE SEED: the statements are not yours to turn. If you find one false, say at which input.
  Laid BY PROGRAM, IN A SANDBOX (cutbox-rows.mjs): the forced cells as the released guide's own fill.sh prints them over the translation 4301d6fa31ac4141… (all of the seat's roots in one cut). By AI agents, Wed Nov 11 2026. No macro, syntax, notation, axiom, sorry.
-/
import Derived.Test.YtebkicikpeicmaaDoorChecked
import GoSem.Claim
import GoSem.ClaimJoined
import GoSem.ClaimMapViews
import Derived.JoinedTies
import Derived.KernelRfl
namespace Go.Proofs.YtebkicikpeicmaaDoor
/- THE CELL 'sum', in the pinned program and in every row, IS THE sha256 OF THE DUMP (.gsa) THAT YtebkicikpeicmaaDoorProg.lean LOADS. Nothing in Lean hashes anything: it is a label: what it is worth is what the hold of that sum in a sandbox is worth. -/
noncomputable def Tryd.pinned : Pinned := { name := "ytebkicikpeicmaadoor", sum := "4301d6fa31ac41419537749022bd8bd5080cf0b3ae790fd41bfa64b1744778c8", checked := Tryd.checked }
namespace Rows
def none {H : Type} : Left H := { results := [], args := [] }

/- WHAT THE LISTED PACKAGE-LEVEL VARIABLES READ AS WHEN THE CALL BEGINS. Each datum BY PROGRAM (the guide's laid-datum.mjs) off the statement by which the dump's own 'gosem.cut.vars' lays the variable. In a bare row this is a premise. The card (YtebkicikpeicmaaDoorCards.lean) ties it to the program's text. -/
def laid_domino_poly_kept {H : Type} : DataW H := .agg [.lit (.int .u8 255), .lit (.int .u8 255), .lit (.int .u8 255), .lit (.int .u8 15), .lit (.int .u8 252), .lit (.int .u8 255), .lit (.int .u8 255), .lit (.int .u8 15), .lit (.int .u8 252), .lit (.int .u8 255), .lit (.int .u8 255), .lit (.int .u8 15), .lit (.int .u8 252), .lit (.int .u8 255), .lit (.int .u8 255), .lit (.int .u8 15)]

/-- 'dominolaw06.PolyTags': WHATEVER THE INPUT: true; the input reads as it did. -/
def polyTagsSpec : ChangeSpec := { name := "polyTags", fn := fun _ => fun
  | [d1, d2] => { results := [.lit (.bool true)], args := [d1, d2] }
  | _ => none }
def polyTagsRow : OpenClaim := { program := "ytebkicikpeicmaadoor", sum := "4301d6fa31ac41419537749022bd8bd5080cf0b3ae790fd41bfa64b1744778c8", func := "domino/dominolaw06.PolyTags", spec := "polyTags", unfollowed := true, recurses := true, named := ["domino/poly.kept"], apart := false, laid := [("domino/poly.kept", laid_domino_poly_kept)] }
def PolyTagsSaid : Prop := polyTagsRow.holds Tryd.pinned (OpenSpec.ofChange polyTagsSpec)

/-- ITS FALSE NEIGHBOUR: 'it returns false'. Refute it at one input. -/
def polyTagsWrong : ChangeSpec := { name := "polyTags", fn := fun _ => fun
  | [d1, d2] => { results := [.lit (.bool false)], args := [d1, d2] }
  | _ => none }
def PolyTagsWrongFalsely : Prop := polyTagsRow.holds Tryd.pinned (OpenSpec.ofChange polyTagsWrong)

/-- 'dominolaw06.PolyEdges': WHATEVER THE INPUT: true; the input reads as it did. -/
def polyEdgesSpec : ChangeSpec := { name := "polyEdges", fn := fun _ => fun
  | [d1, d2, d3, d4] => { results := [.lit (.bool true)], args := [d1, d2, d3, d4] }
  | _ => none }
def polyEdgesRow : OpenClaim := { program := "ytebkicikpeicmaadoor", sum := "4301d6fa31ac41419537749022bd8bd5080cf0b3ae790fd41bfa64b1744778c8", func := "domino/dominolaw06.PolyEdges", spec := "polyEdges", unfollowed := true, recurses := true, named := ["domino/poly.kept"], apart := false, laid := [("domino/poly.kept", laid_domino_poly_kept)] }
def PolyEdgesSaid : Prop := polyEdgesRow.holds Tryd.pinned (OpenSpec.ofChange polyEdgesSpec)

/-- ITS FALSE NEIGHBOUR: 'it returns false'. Refute it at one input. -/
def polyEdgesWrong : ChangeSpec := { name := "polyEdges", fn := fun _ => fun
  | [d1, d2, d3, d4] => { results := [.lit (.bool false)], args := [d1, d2, d3, d4] }
  | _ => none }
def PolyEdgesWrongFalsely : Prop := polyEdgesRow.holds Tryd.pinned (OpenSpec.ofChange polyEdgesWrong)

/-- 'dominolaw06.PolyOne': WHATEVER THE INPUT: true; the input reads as it did. -/
def polyOneSpec : ChangeSpec := { name := "polyOne", fn := fun _ => fun
  | [d1, d2] => { results := [.lit (.bool true)], args := [d1, d2] }
  | _ => none }
def polyOneRow : OpenClaim := { program := "ytebkicikpeicmaadoor", sum := "4301d6fa31ac41419537749022bd8bd5080cf0b3ae790fd41bfa64b1744778c8", func := "domino/dominolaw06.PolyOne", spec := "polyOne", unfollowed := true, recurses := true, named := ["domino/poly.kept"], apart := false, laid := [("domino/poly.kept", laid_domino_poly_kept)] }
def PolyOneSaid : Prop := polyOneRow.holds Tryd.pinned (OpenSpec.ofChange polyOneSpec)

/-- ITS FALSE NEIGHBOUR: 'it returns false'. Refute it at one input. -/
def polyOneWrong : ChangeSpec := { name := "polyOne", fn := fun _ => fun
  | [d1, d2] => { results := [.lit (.bool false)], args := [d1, d2] }
  | _ => none }
def PolyOneWrongFalsely : Prop := polyOneRow.holds Tryd.pinned (OpenSpec.ofChange polyOneWrong)

/-- 'dominolaw06.PolyTwice': WHATEVER THE INPUT: true; the input reads as it did. -/
def polyTwiceSpec : ChangeSpec := { name := "polyTwice", fn := fun _ => fun
  | [d1, d2] => { results := [.lit (.bool true)], args := [d1, d2] }
  | _ => none }
def polyTwiceRow : OpenClaim := { program := "ytebkicikpeicmaadoor", sum := "4301d6fa31ac41419537749022bd8bd5080cf0b3ae790fd41bfa64b1744778c8", func := "domino/dominolaw06.PolyTwice", spec := "polyTwice", unfollowed := true, recurses := true, named := ["domino/poly.kept"], apart := false, laid := [("domino/poly.kept", laid_domino_poly_kept)] }
def PolyTwiceSaid : Prop := polyTwiceRow.holds Tryd.pinned (OpenSpec.ofChange polyTwiceSpec)

/-- ITS FALSE NEIGHBOUR: 'it returns false'. Refute it at one input. -/
def polyTwiceWrong : ChangeSpec := { name := "polyTwice", fn := fun _ => fun
  | [d1, d2] => { results := [.lit (.bool false)], args := [d1, d2] }
  | _ => none }
def PolyTwiceWrongFalsely : Prop := polyTwiceRow.holds Tryd.pinned (OpenSpec.ofChange polyTwiceWrong)

/-- 'dominolaw06.PolyClamps': WHATEVER THE INPUT: true; the input reads as it did. -/
def polyClampsSpec : ChangeSpec := { name := "polyClamps", fn := fun _ => fun
  | [d1, d2] => { results := [.lit (.bool true)], args := [d1, d2] }
  | _ => none }
def polyClampsRow : OpenClaim := { program := "ytebkicikpeicmaadoor", sum := "4301d6fa31ac41419537749022bd8bd5080cf0b3ae790fd41bfa64b1744778c8", func := "domino/dominolaw06.PolyClamps", spec := "polyClamps", unfollowed := true, recurses := true, named := ["domino/poly.kept"], apart := false, laid := [("domino/poly.kept", laid_domino_poly_kept)] }
def PolyClampsSaid : Prop := polyClampsRow.holds Tryd.pinned (OpenSpec.ofChange polyClampsSpec)

/-- ITS FALSE NEIGHBOUR: 'it returns false'. Refute it at one input. -/
def polyClampsWrong : ChangeSpec := { name := "polyClamps", fn := fun _ => fun
  | [d1, d2] => { results := [.lit (.bool false)], args := [d1, d2] }
  | _ => none }
def PolyClampsWrongFalsely : Prop := polyClampsRow.holds Tryd.pinned (OpenSpec.ofChange polyClampsWrong)

/-- 'dominolaw06.PolyParts': WHATEVER THE INPUT: true; the input reads as it did. -/
def polyPartsSpec : ChangeSpec := { name := "polyParts", fn := fun _ => fun
  | [d1, d2, d3] => { results := [.lit (.bool true)], args := [d1, d2, d3] }
  | _ => none }
def polyPartsRow : OpenClaim := { program := "ytebkicikpeicmaadoor", sum := "4301d6fa31ac41419537749022bd8bd5080cf0b3ae790fd41bfa64b1744778c8", func := "domino/dominolaw06.PolyParts", spec := "polyParts", unfollowed := true, recurses := true, named := ["domino/poly.kept"], apart := false, laid := [("domino/poly.kept", laid_domino_poly_kept)] }
def PolyPartsSaid : Prop := polyPartsRow.holds Tryd.pinned (OpenSpec.ofChange polyPartsSpec)

/-- ITS FALSE NEIGHBOUR: 'it returns false'. Refute it at one input. -/
def polyPartsWrong : ChangeSpec := { name := "polyParts", fn := fun _ => fun
  | [d1, d2, d3] => { results := [.lit (.bool false)], args := [d1, d2, d3] }
  | _ => none }
def PolyPartsWrongFalsely : Prop := polyPartsRow.holds Tryd.pinned (OpenSpec.ofChange polyPartsWrong)

/- THE SECOND FORM. 'bulk': how many values and letters a reading holds, each counted each time it is reached (what is shared counts as often as it is met; a slice's spare places count too). A statement '..UptoSaid' is the law's where the arguments, and the package variables that the reading takes, are together of bulk at most 1048576: NARROWER than '..Said'. Prove '..Said' where nothing that the law and all that it calls make is longer than what came in: it says more and counts as full. Else prove '..UptoSaid'. A law counts once. -/
mutual
def uptoBulk {H : Type} : DataW H → Nat
  | .lit (.string bytes) => bytes.length + 1
  | .lit _ => 1
  | .nil => 1
  | .ptr d => uptoBulk d + 1
  | .slice elems spare => uptoBulkAll elems + uptoBulkAll spare + 1
  | .agg parts => uptoBulkAll parts + 1
  | .iface _ d => uptoBulk d + 1
  | .map entries => uptoBulkEntries entries + 1
  | .held _ => 1
def uptoBulkAll {H : Type} : List (DataW H) → Nat
  | [] => 0
  | d :: r => uptoBulk d + uptoBulkAll r
def uptoBulkEntries {H : Type} : List (Lit × DataW H) → Nat
  | [] => 0
  | x :: r => uptoBulkEntry x + uptoBulkEntries r
def uptoBulkEntry {H : Type} : Lit × DataW H → Nat
  | (.string bytes, d) => bytes.length + uptoBulk d + 1
  | (_, d) => uptoBulk d + 1
 end
def uptoSmall : (H : Type) → List (DataW H) → Bool := fun _ ds => decide (uptoBulkAll ds ≤ 1048576)
def OpenSpec.upto (s : _root_.Go.ChangeSpec) : _root_.Go.OpenSpec := { _root_.Go.OpenSpec.ofChange s with cond := some uptoSmall }

/-- 'dominolaw06.PolyTags', WHERE WHAT IT READS IS OF BULK AT MOST 1048576: true; the input reads as it did. -/
def polyTagsUptoRow : OpenClaim := { program := "ytebkicikpeicmaadoor", sum := "4301d6fa31ac41419537749022bd8bd5080cf0b3ae790fd41bfa64b1744778c8", func := "domino/dominolaw06.PolyTags", spec := "polyTags", unfollowed := true, recurses := true, named := ["domino/poly.kept"], apart := false, laid := [("domino/poly.kept", laid_domino_poly_kept)], narrowed := true }
def PolyTagsUptoSaid : Prop := polyTagsUptoRow.holds Tryd.pinned (OpenSpec.upto polyTagsSpec)

/-- 'dominolaw06.PolyEdges', WHERE WHAT IT READS IS OF BULK AT MOST 1048576: true; the input reads as it did. -/
def polyEdgesUptoRow : OpenClaim := { program := "ytebkicikpeicmaadoor", sum := "4301d6fa31ac41419537749022bd8bd5080cf0b3ae790fd41bfa64b1744778c8", func := "domino/dominolaw06.PolyEdges", spec := "polyEdges", unfollowed := true, recurses := true, named := ["domino/poly.kept"], apart := false, laid := [("domino/poly.kept", laid_domino_poly_kept)], narrowed := true }
def PolyEdgesUptoSaid : Prop := polyEdgesUptoRow.holds Tryd.pinned (OpenSpec.upto polyEdgesSpec)

/-- 'dominolaw06.PolyOne', WHERE WHAT IT READS IS OF BULK AT MOST 1048576: true; the input reads as it did. -/
def polyOneUptoRow : OpenClaim := { program := "ytebkicikpeicmaadoor", sum := "4301d6fa31ac41419537749022bd8bd5080cf0b3ae790fd41bfa64b1744778c8", func := "domino/dominolaw06.PolyOne", spec := "polyOne", unfollowed := true, recurses := true, named := ["domino/poly.kept"], apart := false, laid := [("domino/poly.kept", laid_domino_poly_kept)], narrowed := true }
def PolyOneUptoSaid : Prop := polyOneUptoRow.holds Tryd.pinned (OpenSpec.upto polyOneSpec)

/-- 'dominolaw06.PolyTwice', WHERE WHAT IT READS IS OF BULK AT MOST 1048576: true; the input reads as it did. -/
def polyTwiceUptoRow : OpenClaim := { program := "ytebkicikpeicmaadoor", sum := "4301d6fa31ac41419537749022bd8bd5080cf0b3ae790fd41bfa64b1744778c8", func := "domino/dominolaw06.PolyTwice", spec := "polyTwice", unfollowed := true, recurses := true, named := ["domino/poly.kept"], apart := false, laid := [("domino/poly.kept", laid_domino_poly_kept)], narrowed := true }
def PolyTwiceUptoSaid : Prop := polyTwiceUptoRow.holds Tryd.pinned (OpenSpec.upto polyTwiceSpec)

/-- 'dominolaw06.PolyClamps', WHERE WHAT IT READS IS OF BULK AT MOST 1048576: true; the input reads as it did. -/
def polyClampsUptoRow : OpenClaim := { program := "ytebkicikpeicmaadoor", sum := "4301d6fa31ac41419537749022bd8bd5080cf0b3ae790fd41bfa64b1744778c8", func := "domino/dominolaw06.PolyClamps", spec := "polyClamps", unfollowed := true, recurses := true, named := ["domino/poly.kept"], apart := false, laid := [("domino/poly.kept", laid_domino_poly_kept)], narrowed := true }
def PolyClampsUptoSaid : Prop := polyClampsUptoRow.holds Tryd.pinned (OpenSpec.upto polyClampsSpec)

/-- 'dominolaw06.PolyParts', WHERE WHAT IT READS IS OF BULK AT MOST 1048576: true; the input reads as it did. -/
def polyPartsUptoRow : OpenClaim := { program := "ytebkicikpeicmaadoor", sum := "4301d6fa31ac41419537749022bd8bd5080cf0b3ae790fd41bfa64b1744778c8", func := "domino/dominolaw06.PolyParts", spec := "polyParts", unfollowed := true, recurses := true, named := ["domino/poly.kept"], apart := false, laid := [("domino/poly.kept", laid_domino_poly_kept)], narrowed := true }
def PolyPartsUptoSaid : Prop := polyPartsUptoRow.holds Tryd.pinned (OpenSpec.upto polyPartsSpec)

end Rows
end Go.Proofs.YtebkicikpeicmaaDoor
