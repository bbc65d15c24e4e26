/-
  No cell of these rows narrows 'for every input' (looked for: loops, veiled, ifaces, maps, wideKeys, modest, calm, conditions, laid).
  DERIVED. THE GIVEN ROWS OF THIS SEAT. 5 by the template 'for every input the law returns true; each argument reads behind the call as it read before'; 0 by the template 'total and deterministic' (their statements: YtdfnacnklmmjhaaTotals.lean).
  GIVEN WITH THE SEED: the statements are not yours to turn. If you find one false, say at which input.
  Laid BY PROGRAM, IN A SANDBOX (cutbox-rows.mjs): the forced cells as the released guide's own fill.sh prints them over the translation 6c003fcbac25ca46… (all of the seat's roots in one cut). By AI agents, Wed Nov 11 2026. No macro, syntax, notation, axiom, sorry.
-/
import Derived.Test.YtdfnacnklmmjhaaChecked
import GoSem.Claim
import GoSem.ClaimJoined
import GoSem.ClaimMapViews
import Derived.JoinedTies
import Derived.KernelRfl
namespace Go.Proofs.Ytdfnacnklmmjhaa
/- THE CELL 'sum', in the pinned program and in every row, IS THE sha256 OF THE DUMP (.gsa) THAT YtdfnacnklmmjhaaProg.lean LOADS. Nothing in Lean hashes anything: it is a label: what it is worth is what the hold of that sum in a sandbox is worth. -/
noncomputable def Try.pinned : Pinned := { name := "ytdfnacnklmmjhaa", sum := "6c003fcbac25ca4676d4c950b6b13b035b22c4eb2a69714f86a19cffb786f57c", checked := Try.checked }
namespace Rows
def none {H : Type} : Left H := { results := [], args := [] }

/-- 'dominolaw09.RecordPacks': WHATEVER THE INPUT: true; the input reads as it did. -/
def recordPacksSpec : ChangeSpec := { name := "recordPacks", fn := fun _ => fun
  | [d1, d2] => { results := [.lit (.bool true)], args := [d1, d2] }
  | _ => none }
def recordPacksRow : OpenClaim := { program := "ytdfnacnklmmjhaa", sum := "6c003fcbac25ca4676d4c950b6b13b035b22c4eb2a69714f86a19cffb786f57c", func := "domino/dominolaw09.RecordPacks", spec := "recordPacks", inPlace := ["math/bits.Sub64"], unfollowed := true, recurses := true, apart := false }
def RecordPacksSaid : Prop := recordPacksRow.holds Try.pinned (OpenSpec.ofChange recordPacksSpec)

/-- ITS FALSE NEIGHBOUR: 'it returns false'. Refute it at one input. -/
def recordPacksWrong : ChangeSpec := { name := "recordPacks", fn := fun _ => fun
  | [d1, d2] => { results := [.lit (.bool false)], args := [d1, d2] }
  | _ => none }
def RecordPacksWrongFalsely : Prop := recordPacksRow.holds Try.pinned (OpenSpec.ofChange recordPacksWrong)

/-- 'dominolaw09.RecordBack': WHATEVER THE INPUT: true; the input reads as it did. -/
def recordBackSpec : ChangeSpec := { name := "recordBack", fn := fun _ => fun
  | [d1, d2] => { results := [.lit (.bool true)], args := [d1, d2] }
  | _ => none }
def recordBackRow : OpenClaim := { program := "ytdfnacnklmmjhaa", sum := "6c003fcbac25ca4676d4c950b6b13b035b22c4eb2a69714f86a19cffb786f57c", func := "domino/dominolaw09.RecordBack", spec := "recordBack", inPlace := ["math/bits.Sub64"], unfollowed := true, recurses := true, apart := false }
def RecordBackSaid : Prop := recordBackRow.holds Try.pinned (OpenSpec.ofChange recordBackSpec)

/-- ITS FALSE NEIGHBOUR: 'it returns false'. Refute it at one input. -/
def recordBackWrong : ChangeSpec := { name := "recordBack", fn := fun _ => fun
  | [d1, d2] => { results := [.lit (.bool false)], args := [d1, d2] }
  | _ => none }
def RecordBackWrongFalsely : Prop := recordBackRow.holds Try.pinned (OpenSpec.ofChange recordBackWrong)

/-- 'dominolaw09.RecordOrder': WHATEVER THE INPUT: true; the input reads as it did. -/
def recordOrderSpec : ChangeSpec := { name := "recordOrder", fn := fun _ => fun
  | [d1, d2, d3, d4] => { results := [.lit (.bool true)], args := [d1, d2, d3, d4] }
  | _ => none }
def recordOrderRow : OpenClaim := { program := "ytdfnacnklmmjhaa", sum := "6c003fcbac25ca4676d4c950b6b13b035b22c4eb2a69714f86a19cffb786f57c", func := "domino/dominolaw09.RecordOrder", spec := "recordOrder", inPlace := ["math/bits.Sub64"], apart := false }
def RecordOrderSaid : Prop := recordOrderRow.holds Try.pinned (OpenSpec.ofChange recordOrderSpec)

/-- ITS FALSE NEIGHBOUR: 'it returns false'. Refute it at one input. -/
def recordOrderWrong : ChangeSpec := { name := "recordOrder", fn := fun _ => fun
  | [d1, d2, d3, d4] => { results := [.lit (.bool false)], args := [d1, d2, d3, d4] }
  | _ => none }
def RecordOrderWrongFalsely : Prop := recordOrderRow.holds Try.pinned (OpenSpec.ofChange recordOrderWrong)

/-- 'dominolaw09.RecordDead': WHATEVER THE INPUT: true; the input reads as it did. -/
def recordDeadSpec : ChangeSpec := { name := "recordDead", fn := fun _ => fun
  | [d] => { results := [.lit (.bool true)], args := [d] }
  | _ => none }
def recordDeadRow : OpenClaim := { program := "ytdfnacnklmmjhaa", sum := "6c003fcbac25ca4676d4c950b6b13b035b22c4eb2a69714f86a19cffb786f57c", func := "domino/dominolaw09.RecordDead", spec := "recordDead", inPlace := ["math/bits.Sub64"], unfollowed := true, recurses := true, apart := false }
def RecordDeadSaid : Prop := recordDeadRow.holds Try.pinned (OpenSpec.ofChange recordDeadSpec)

/-- ITS FALSE NEIGHBOUR: 'it returns false'. Refute it at one input. -/
def recordDeadWrong : ChangeSpec := { name := "recordDead", fn := fun _ => fun
  | [d] => { results := [.lit (.bool false)], args := [d] }
  | _ => none }
def RecordDeadWrongFalsely : Prop := recordDeadRow.holds Try.pinned (OpenSpec.ofChange recordDeadWrong)

/-- 'dominolaw09.RecordTotal': WHATEVER THE INPUT: true; the input reads as it did. -/
def recordTotalSpec : ChangeSpec := { name := "recordTotal", fn := fun _ => fun
  | [d1, d2] => { results := [.lit (.bool true)], args := [d1, d2] }
  | _ => none }
def recordTotalRow : OpenClaim := { program := "ytdfnacnklmmjhaa", sum := "6c003fcbac25ca4676d4c950b6b13b035b22c4eb2a69714f86a19cffb786f57c", func := "domino/dominolaw09.RecordTotal", spec := "recordTotal", inPlace := ["math/bits.Sub64"], apart := false }
def RecordTotalSaid : Prop := recordTotalRow.holds Try.pinned (OpenSpec.ofChange recordTotalSpec)

/-- ITS FALSE NEIGHBOUR: 'it returns false'. Refute it at one input. -/
def recordTotalWrong : ChangeSpec := { name := "recordTotal", fn := fun _ => fun
  | [d1, d2] => { results := [.lit (.bool false)], args := [d1, d2] }
  | _ => none }
def RecordTotalWrongFalsely : Prop := recordTotalRow.holds Try.pinned (OpenSpec.ofChange recordTotalWrong)

/- THE SECOND FORM. 'bulk': how many values and letters a reading holds, each counted each time it is reached (what is shared counts as often as it is met; a slice's spare places count too). A statement '..UptoSaid' is the law's where the arguments, and the package variables that the reading takes, are together of bulk at most 1048576: NARROWER than '..Said'. Prove '..Said' where nothing that the law and all that it calls make is longer than what came in: it says more and counts as full. Else prove '..UptoSaid'. A law counts once. -/
mutual
def uptoBulk {H : Type} : DataW H → Nat
  | .lit (.string bytes) => bytes.length + 1
  | .lit _ => 1
  | .nil => 1
  | .ptr d => uptoBulk d + 1
  | .slice elems spare => uptoBulkAll elems + uptoBulkAll spare + 1
  | .agg parts => uptoBulkAll parts + 1
  | .iface _ d => uptoBulk d + 1
  | .map entries => uptoBulkEntries entries + 1
  | .held _ => 1
def uptoBulkAll {H : Type} : List (DataW H) → Nat
  | [] => 0
  | d :: r => uptoBulk d + uptoBulkAll r
def uptoBulkEntries {H : Type} : List (Lit × DataW H) → Nat
  | [] => 0
  | x :: r => uptoBulkEntry x + uptoBulkEntries r
def uptoBulkEntry {H : Type} : Lit × DataW H → Nat
  | (.string bytes, d) => bytes.length + uptoBulk d + 1
  | (_, d) => uptoBulk d + 1
 end
def uptoSmall : (H : Type) → List (DataW H) → Bool := fun _ ds => decide (uptoBulkAll ds ≤ 1048576)
def OpenSpec.upto (s : _root_.Go.ChangeSpec) : _root_.Go.OpenSpec := { _root_.Go.OpenSpec.ofChange s with cond := some uptoSmall }

/-- 'dominolaw09.RecordPacks', WHERE WHAT IT READS IS OF BULK AT MOST 1048576: true; the input reads as it did. -/
def recordPacksUptoRow : OpenClaim := { program := "ytdfnacnklmmjhaa", sum := "6c003fcbac25ca4676d4c950b6b13b035b22c4eb2a69714f86a19cffb786f57c", func := "domino/dominolaw09.RecordPacks", spec := "recordPacks", inPlace := ["math/bits.Sub64"], unfollowed := true, recurses := true, apart := false, narrowed := true }
def RecordPacksUptoSaid : Prop := recordPacksUptoRow.holds Try.pinned (OpenSpec.upto recordPacksSpec)

/-- 'dominolaw09.RecordBack', WHERE WHAT IT READS IS OF BULK AT MOST 1048576: true; the input reads as it did. -/
def recordBackUptoRow : OpenClaim := { program := "ytdfnacnklmmjhaa", sum := "6c003fcbac25ca4676d4c950b6b13b035b22c4eb2a69714f86a19cffb786f57c", func := "domino/dominolaw09.RecordBack", spec := "recordBack", inPlace := ["math/bits.Sub64"], unfollowed := true, recurses := true, apart := false, narrowed := true }
def RecordBackUptoSaid : Prop := recordBackUptoRow.holds Try.pinned (OpenSpec.upto recordBackSpec)

/-- 'dominolaw09.RecordOrder', WHERE WHAT IT READS IS OF BULK AT MOST 1048576: true; the input reads as it did. -/
def recordOrderUptoRow : OpenClaim := { program := "ytdfnacnklmmjhaa", sum := "6c003fcbac25ca4676d4c950b6b13b035b22c4eb2a69714f86a19cffb786f57c", func := "domino/dominolaw09.RecordOrder", spec := "recordOrder", inPlace := ["math/bits.Sub64"], apart := false, narrowed := true }
def RecordOrderUptoSaid : Prop := recordOrderUptoRow.holds Try.pinned (OpenSpec.upto recordOrderSpec)

/-- 'dominolaw09.RecordDead', WHERE WHAT IT READS IS OF BULK AT MOST 1048576: true; the input reads as it did. -/
def recordDeadUptoRow : OpenClaim := { program := "ytdfnacnklmmjhaa", sum := "6c003fcbac25ca4676d4c950b6b13b035b22c4eb2a69714f86a19cffb786f57c", func := "domino/dominolaw09.RecordDead", spec := "recordDead", inPlace := ["math/bits.Sub64"], unfollowed := true, recurses := true, apart := false, narrowed := true }
def RecordDeadUptoSaid : Prop := recordDeadUptoRow.holds Try.pinned (OpenSpec.upto recordDeadSpec)

/-- 'dominolaw09.RecordTotal', WHERE WHAT IT READS IS OF BULK AT MOST 1048576: true; the input reads as it did. -/
def recordTotalUptoRow : OpenClaim := { program := "ytdfnacnklmmjhaa", sum := "6c003fcbac25ca4676d4c950b6b13b035b22c4eb2a69714f86a19cffb786f57c", func := "domino/dominolaw09.RecordTotal", spec := "recordTotal", inPlace := ["math/bits.Sub64"], apart := false, narrowed := true }
def RecordTotalUptoSaid : Prop := recordTotalUptoRow.holds Try.pinned (OpenSpec.upto recordTotalSpec)

end Rows
end Go.Proofs.Ytdfnacnklmmjhaa
