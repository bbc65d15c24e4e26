/-
  NARROWER THAN 'FOR EVERY INPUT', by the rows' own cells (each row's printed sentence says how): ChachaBlocks: laid · ChachaXors: laid · ChachaBack: laid · ChachaStream: laid.
  DERIVED. THE GIVEN ROWS OF THIS SEAT. 4 by the template 'for every input the law returns true; each argument reads behind the call as it read before'; 0 by the template 'total and deterministic' (their statements: YtejgnjnmlojdpaaDoorTotals.lean).
  GIVEN WITH THE SEED: the statements are not yours to turn. If you find one false, say at which input.
  Laid BY PROGRAM, IN A SANDBOX (cutbox-rows.mjs): the forced cells as the released guide's own fill.sh prints them over the translation 537c25c016c34a9e… (all of the seat's roots in one cut). By AI agents, Wed Nov 11 2026. No macro, syntax, notation, axiom, sorry.
-/
import Derived.Test.YtejgnjnmlojdpaaDoorChecked
import GoSem.Claim
import GoSem.ClaimJoined
import GoSem.ClaimMapViews
import Derived.JoinedTies
import Derived.KernelRfl
namespace Go.Proofs.YtejgnjnmlojdpaaDoor
/- THE CELL 'sum', in the pinned program and in every row, IS THE sha256 OF THE DUMP (.gsa) THAT YtejgnjnmlojdpaaDoorProg.lean LOADS. Nothing in Lean hashes anything: it is a label: what it is worth is what the hold of that sum in a sandbox is worth. -/
noncomputable def Tryd.pinned : Pinned := { name := "ytejgnjnmlojdpaadoor", sum := "537c25c016c34a9e85650f255577ecfa4dd3900e71c78d801509846c7a4eaba9", checked := Tryd.checked }
namespace Rows
def none {H : Type} : Left H := { results := [], args := [] }

/- WHAT THE LISTED PACKAGE-LEVEL VARIABLES READ AS WHEN THE CALL BEGINS. Each datum BY PROGRAM (the guide's laid-datum.mjs) off the statement by which the dump's own 'gosem.cut.vars' lays the variable. In a bare row this is a premise. The card (YtejgnjnmlojdpaaDoorCards.lean) ties it to the program's text. -/
def laid_domino_chacha_start {H : Type} : DataW H := .agg [.lit (.int .u32 1634760805), .lit (.int .u32 857760878), .lit (.int .u32 2036477234), .lit (.int .u32 1797285236)]

/-- 'dominolaw05.ChachaBlocks': WHATEVER THE INPUT: true; the input reads as it did. -/
def chachaBlocksSpec : ChangeSpec := { name := "chachaBlocks", fn := fun _ => fun
  | [d1, d2, d3, d4, d5] => { results := [.lit (.bool true)], args := [d1, d2, d3, d4, d5] }
  | _ => none }
def chachaBlocksRow : OpenClaim := { program := "ytejgnjnmlojdpaadoor", sum := "537c25c016c34a9e85650f255577ecfa4dd3900e71c78d801509846c7a4eaba9", func := "domino/dominolaw05.ChachaBlocks", spec := "chachaBlocks", unfollowed := true, recurses := true, named := ["domino/chacha.start"], apart := false, laid := [("domino/chacha.start", laid_domino_chacha_start)] }
def ChachaBlocksSaid : Prop := chachaBlocksRow.holds Tryd.pinned (OpenSpec.ofChange chachaBlocksSpec)

/-- ITS FALSE NEIGHBOUR: 'it returns false'. Refute it at one input. -/
def chachaBlocksWrong : ChangeSpec := { name := "chachaBlocks", fn := fun _ => fun
  | [d1, d2, d3, d4, d5] => { results := [.lit (.bool false)], args := [d1, d2, d3, d4, d5] }
  | _ => none }
def ChachaBlocksWrongFalsely : Prop := chachaBlocksRow.holds Tryd.pinned (OpenSpec.ofChange chachaBlocksWrong)

/-- 'dominolaw05.ChachaXors': WHATEVER THE INPUT: true; the input reads as it did. -/
def chachaXorsSpec : ChangeSpec := { name := "chachaXors", fn := fun _ => fun
  | [d1, d2, d3, d4] => { results := [.lit (.bool true)], args := [d1, d2, d3, d4] }
  | _ => none }
def chachaXorsRow : OpenClaim := { program := "ytejgnjnmlojdpaadoor", sum := "537c25c016c34a9e85650f255577ecfa4dd3900e71c78d801509846c7a4eaba9", func := "domino/dominolaw05.ChachaXors", spec := "chachaXors", unfollowed := true, recurses := true, named := ["domino/chacha.start"], apart := false, laid := [("domino/chacha.start", laid_domino_chacha_start)] }
def ChachaXorsSaid : Prop := chachaXorsRow.holds Tryd.pinned (OpenSpec.ofChange chachaXorsSpec)

/-- ITS FALSE NEIGHBOUR: 'it returns false'. Refute it at one input. -/
def chachaXorsWrong : ChangeSpec := { name := "chachaXors", fn := fun _ => fun
  | [d1, d2, d3, d4] => { results := [.lit (.bool false)], args := [d1, d2, d3, d4] }
  | _ => none }
def ChachaXorsWrongFalsely : Prop := chachaXorsRow.holds Tryd.pinned (OpenSpec.ofChange chachaXorsWrong)

/-- 'dominolaw05.ChachaBack': WHATEVER THE INPUT: true; the input reads as it did. -/
def chachaBackSpec : ChangeSpec := { name := "chachaBack", fn := fun _ => fun
  | [d1, d2, d3, d4, d5] => { results := [.lit (.bool true)], args := [d1, d2, d3, d4, d5] }
  | _ => none }
def chachaBackRow : OpenClaim := { program := "ytejgnjnmlojdpaadoor", sum := "537c25c016c34a9e85650f255577ecfa4dd3900e71c78d801509846c7a4eaba9", func := "domino/dominolaw05.ChachaBack", spec := "chachaBack", unfollowed := true, recurses := true, named := ["domino/chacha.start"], apart := false, laid := [("domino/chacha.start", laid_domino_chacha_start)] }
def ChachaBackSaid : Prop := chachaBackRow.holds Tryd.pinned (OpenSpec.ofChange chachaBackSpec)

/-- ITS FALSE NEIGHBOUR: 'it returns false'. Refute it at one input. -/
def chachaBackWrong : ChangeSpec := { name := "chachaBack", fn := fun _ => fun
  | [d1, d2, d3, d4, d5] => { results := [.lit (.bool false)], args := [d1, d2, d3, d4, d5] }
  | _ => none }
def ChachaBackWrongFalsely : Prop := chachaBackRow.holds Tryd.pinned (OpenSpec.ofChange chachaBackWrong)

/-- 'dominolaw05.ChachaStream': WHATEVER THE INPUT: true; the input reads as it did. -/
def chachaStreamSpec : ChangeSpec := { name := "chachaStream", fn := fun _ => fun
  | [d1, d2, d3, d4] => { results := [.lit (.bool true)], args := [d1, d2, d3, d4] }
  | _ => none }
def chachaStreamRow : OpenClaim := { program := "ytejgnjnmlojdpaadoor", sum := "537c25c016c34a9e85650f255577ecfa4dd3900e71c78d801509846c7a4eaba9", func := "domino/dominolaw05.ChachaStream", spec := "chachaStream", unfollowed := true, recurses := true, named := ["domino/chacha.start"], apart := false, laid := [("domino/chacha.start", laid_domino_chacha_start)] }
def ChachaStreamSaid : Prop := chachaStreamRow.holds Tryd.pinned (OpenSpec.ofChange chachaStreamSpec)

/-- ITS FALSE NEIGHBOUR: 'it returns false'. Refute it at one input. -/
def chachaStreamWrong : ChangeSpec := { name := "chachaStream", fn := fun _ => fun
  | [d1, d2, d3, d4] => { results := [.lit (.bool false)], args := [d1, d2, d3, d4] }
  | _ => none }
def ChachaStreamWrongFalsely : Prop := chachaStreamRow.holds Tryd.pinned (OpenSpec.ofChange chachaStreamWrong)

/- THE SECOND FORM. 'bulk': how many values and letters a reading holds, each counted each time it is reached (what is shared counts as often as it is met; a slice's spare places count too). A statement '..UptoSaid' is the law's where the arguments, and the package variables that the reading takes, are together of bulk at most 1048576: NARROWER than '..Said'. Prove '..Said' where nothing that the law and all that it calls make is longer than what came in: it says more and counts as full. Else prove '..UptoSaid'. A law counts once. -/
mutual
def uptoBulk {H : Type} : DataW H → Nat
  | .lit (.string bytes) => bytes.length + 1
  | .lit _ => 1
  | .nil => 1
  | .ptr d => uptoBulk d + 1
  | .slice elems spare => uptoBulkAll elems + uptoBulkAll spare + 1
  | .agg parts => uptoBulkAll parts + 1
  | .iface _ d => uptoBulk d + 1
  | .map entries => uptoBulkEntries entries + 1
  | .held _ => 1
def uptoBulkAll {H : Type} : List (DataW H) → Nat
  | [] => 0
  | d :: r => uptoBulk d + uptoBulkAll r
def uptoBulkEntries {H : Type} : List (Lit × DataW H) → Nat
  | [] => 0
  | x :: r => uptoBulkEntry x + uptoBulkEntries r
def uptoBulkEntry {H : Type} : Lit × DataW H → Nat
  | (.string bytes, d) => bytes.length + uptoBulk d + 1
  | (_, d) => uptoBulk d + 1
 end
def uptoSmall : (H : Type) → List (DataW H) → Bool := fun _ ds => decide (uptoBulkAll ds ≤ 1048576)
def OpenSpec.upto (s : _root_.Go.ChangeSpec) : _root_.Go.OpenSpec := { _root_.Go.OpenSpec.ofChange s with cond := some uptoSmall }

/-- 'dominolaw05.ChachaBlocks', WHERE WHAT IT READS IS OF BULK AT MOST 1048576: true; the input reads as it did. -/
def chachaBlocksUptoRow : OpenClaim := { program := "ytejgnjnmlojdpaadoor", sum := "537c25c016c34a9e85650f255577ecfa4dd3900e71c78d801509846c7a4eaba9", func := "domino/dominolaw05.ChachaBlocks", spec := "chachaBlocks", unfollowed := true, recurses := true, named := ["domino/chacha.start"], apart := false, laid := [("domino/chacha.start", laid_domino_chacha_start)], narrowed := true }
def ChachaBlocksUptoSaid : Prop := chachaBlocksUptoRow.holds Tryd.pinned (OpenSpec.upto chachaBlocksSpec)

/-- 'dominolaw05.ChachaXors', WHERE WHAT IT READS IS OF BULK AT MOST 1048576: true; the input reads as it did. -/
def chachaXorsUptoRow : OpenClaim := { program := "ytejgnjnmlojdpaadoor", sum := "537c25c016c34a9e85650f255577ecfa4dd3900e71c78d801509846c7a4eaba9", func := "domino/dominolaw05.ChachaXors", spec := "chachaXors", unfollowed := true, recurses := true, named := ["domino/chacha.start"], apart := false, laid := [("domino/chacha.start", laid_domino_chacha_start)], narrowed := true }
def ChachaXorsUptoSaid : Prop := chachaXorsUptoRow.holds Tryd.pinned (OpenSpec.upto chachaXorsSpec)

/-- 'dominolaw05.ChachaBack', WHERE WHAT IT READS IS OF BULK AT MOST 1048576: true; the input reads as it did. -/
def chachaBackUptoRow : OpenClaim := { program := "ytejgnjnmlojdpaadoor", sum := "537c25c016c34a9e85650f255577ecfa4dd3900e71c78d801509846c7a4eaba9", func := "domino/dominolaw05.ChachaBack", spec := "chachaBack", unfollowed := true, recurses := true, named := ["domino/chacha.start"], apart := false, laid := [("domino/chacha.start", laid_domino_chacha_start)], narrowed := true }
def ChachaBackUptoSaid : Prop := chachaBackUptoRow.holds Tryd.pinned (OpenSpec.upto chachaBackSpec)

/-- 'dominolaw05.ChachaStream', WHERE WHAT IT READS IS OF BULK AT MOST 1048576: true; the input reads as it did. -/
def chachaStreamUptoRow : OpenClaim := { program := "ytejgnjnmlojdpaadoor", sum := "537c25c016c34a9e85650f255577ecfa4dd3900e71c78d801509846c7a4eaba9", func := "domino/dominolaw05.ChachaStream", spec := "chachaStream", unfollowed := true, recurses := true, named := ["domino/chacha.start"], apart := false, laid := [("domino/chacha.start", laid_domino_chacha_start)], narrowed := true }
def ChachaStreamUptoSaid : Prop := chachaStreamUptoRow.holds Tryd.pinned (OpenSpec.upto chachaStreamSpec)

end Rows
end Go.Proofs.YtejgnjnmlojdpaaDoor
