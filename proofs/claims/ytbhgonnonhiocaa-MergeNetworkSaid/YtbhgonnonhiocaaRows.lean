/-
  No cell of these rows narrows 'for every input' (looked for: loops, veiled, ifaces, maps, wideKeys, modest, calm, conditions, laid).
  DERIVED. THE GIVEN ROWS OF THIS SEAT. 5 by the template 'for every input the law returns true; each argument reads behind the call as it read before'; 0 by the template 'total and deterministic' (their statements: YtbhgonnonhiocaaTotals.lean).
  GIVEN WITH THE SEED: the statements are not yours to turn. If you find one false, say at which input.
  Laid BY PROGRAM, IN A SANDBOX (cutbox-rows.mjs): the forced cells as the released guide's own fill.sh prints them over the translation 4a1870a24fe78d86… (all of the seat's roots in one cut). By AI agents, Wed Nov 11 2026. No macro, syntax, notation, axiom, sorry.
-/
import Derived.Test.YtbhgonnonhiocaaChecked
import GoSem.Claim
import GoSem.ClaimJoined
import GoSem.ClaimMapViews
import Derived.JoinedTies
import Derived.KernelRfl
namespace Go.Proofs.Ytbhgonnonhiocaa
/- THE CELL 'sum', in the pinned program and in every row, IS THE sha256 OF THE DUMP (.gsa) THAT YtbhgonnonhiocaaProg.lean LOADS. Nothing in Lean hashes anything: it is a label: what it is worth is what the hold of that sum in a sandbox is worth. -/
noncomputable def Try.pinned : Pinned := { name := "ytbhgonnonhiocaa", sum := "4a1870a24fe78d86cf91174c1bc52cb4ff89633fb69af3d1449c7f22e33b1764", checked := Try.checked }
namespace Rows
def none {H : Type} : Left H := { results := [], args := [] }

/-- 'dominolaw14.MergeSorts': WHATEVER THE INPUT: true; the input reads as it did. -/
def mergeSortsSpec : ChangeSpec := { name := "mergeSorts", fn := fun _ => fun
  | [d1, d2, d3] => { results := [.lit (.bool true)], args := [d1, d2, d3] }
  | _ => none }
def mergeSortsRow : OpenClaim := { program := "ytbhgonnonhiocaa", sum := "4a1870a24fe78d86cf91174c1bc52cb4ff89633fb69af3d1449c7f22e33b1764", func := "domino/dominolaw14.MergeSorts", spec := "mergeSorts", inPlace := ["math/bits.Sub64"], unfollowed := true, recurses := true, plainKeys := false, apart := false }
def MergeSortsSaid : Prop := mergeSortsRow.holds Try.pinned (OpenSpec.ofChange mergeSortsSpec)

/-- ITS FALSE NEIGHBOUR: 'it returns false'. Refute it at one input. -/
def mergeSortsWrong : ChangeSpec := { name := "mergeSorts", fn := fun _ => fun
  | [d1, d2, d3] => { results := [.lit (.bool false)], args := [d1, d2, d3] }
  | _ => none }
def MergeSortsWrongFalsely : Prop := mergeSortsRow.holds Try.pinned (OpenSpec.ofChange mergeSortsWrong)

/-- 'dominolaw14.MergeKeeps': WHATEVER THE INPUT: true; the input reads as it did. -/
def mergeKeepsSpec : ChangeSpec := { name := "mergeKeeps", fn := fun _ => fun
  | [d1, d2] => { results := [.lit (.bool true)], args := [d1, d2] }
  | _ => none }
def mergeKeepsRow : OpenClaim := { program := "ytbhgonnonhiocaa", sum := "4a1870a24fe78d86cf91174c1bc52cb4ff89633fb69af3d1449c7f22e33b1764", func := "domino/dominolaw14.MergeKeeps", spec := "mergeKeeps", inPlace := ["math/bits.Sub64"], unfollowed := true, recurses := true, plainKeys := false, apart := false }
def MergeKeepsSaid : Prop := mergeKeepsRow.holds Try.pinned (OpenSpec.ofChange mergeKeepsSpec)

/-- ITS FALSE NEIGHBOUR: 'it returns false'. Refute it at one input. -/
def mergeKeepsWrong : ChangeSpec := { name := "mergeKeeps", fn := fun _ => fun
  | [d1, d2] => { results := [.lit (.bool false)], args := [d1, d2] }
  | _ => none }
def MergeKeepsWrongFalsely : Prop := mergeKeepsRow.holds Try.pinned (OpenSpec.ofChange mergeKeepsWrong)

/-- 'dominolaw14.MergeNetwork': WHATEVER THE INPUT: true; the input reads as it did. -/
def mergeNetworkSpec : ChangeSpec := { name := "mergeNetwork", fn := fun _ => fun
  | [d1, d2, d3, d4] => { results := [.lit (.bool true)], args := [d1, d2, d3, d4] }
  | _ => none }
def mergeNetworkRow : OpenClaim := { program := "ytbhgonnonhiocaa", sum := "4a1870a24fe78d86cf91174c1bc52cb4ff89633fb69af3d1449c7f22e33b1764", func := "domino/dominolaw14.MergeNetwork", spec := "mergeNetwork", inPlace := ["math/bits.Sub64"], unfollowed := true, recurses := true, plainKeys := false, apart := false }
def MergeNetworkSaid : Prop := mergeNetworkRow.holds Try.pinned (OpenSpec.ofChange mergeNetworkSpec)

/-- ITS FALSE NEIGHBOUR: 'it returns false'. Refute it at one input. -/
def mergeNetworkWrong : ChangeSpec := { name := "mergeNetwork", fn := fun _ => fun
  | [d1, d2, d3, d4] => { results := [.lit (.bool false)], args := [d1, d2, d3, d4] }
  | _ => none }
def MergeNetworkWrongFalsely : Prop := mergeNetworkRow.holds Try.pinned (OpenSpec.ofChange mergeNetworkWrong)

/-- 'dominolaw14.MergeHalves': WHATEVER THE INPUT: true; the input reads as it did. -/
def mergeHalvesSpec : ChangeSpec := { name := "mergeHalves", fn := fun _ => fun
  | [d1, d2, d3] => { results := [.lit (.bool true)], args := [d1, d2, d3] }
  | _ => none }
def mergeHalvesRow : OpenClaim := { program := "ytbhgonnonhiocaa", sum := "4a1870a24fe78d86cf91174c1bc52cb4ff89633fb69af3d1449c7f22e33b1764", func := "domino/dominolaw14.MergeHalves", spec := "mergeHalves", inPlace := ["math/bits.Sub64"], unfollowed := true, recurses := true, plainKeys := false, apart := false }
def MergeHalvesSaid : Prop := mergeHalvesRow.holds Try.pinned (OpenSpec.ofChange mergeHalvesSpec)

/-- ITS FALSE NEIGHBOUR: 'it returns false'. Refute it at one input. -/
def mergeHalvesWrong : ChangeSpec := { name := "mergeHalves", fn := fun _ => fun
  | [d1, d2, d3] => { results := [.lit (.bool false)], args := [d1, d2, d3] }
  | _ => none }
def MergeHalvesWrongFalsely : Prop := mergeHalvesRow.holds Try.pinned (OpenSpec.ofChange mergeHalvesWrong)

/-- 'dominolaw14.MergeStable': WHATEVER THE INPUT: true; the input reads as it did. -/
def mergeStableSpec : ChangeSpec := { name := "mergeStable", fn := fun _ => fun
  | [d] => { results := [.lit (.bool true)], args := [d] }
  | _ => none }
def mergeStableRow : OpenClaim := { program := "ytbhgonnonhiocaa", sum := "4a1870a24fe78d86cf91174c1bc52cb4ff89633fb69af3d1449c7f22e33b1764", func := "domino/dominolaw14.MergeStable", spec := "mergeStable", inPlace := ["math/bits.Sub64"], unfollowed := true, recurses := true, plainKeys := false, apart := false }
def MergeStableSaid : Prop := mergeStableRow.holds Try.pinned (OpenSpec.ofChange mergeStableSpec)

/-- ITS FALSE NEIGHBOUR: 'it returns false'. Refute it at one input. -/
def mergeStableWrong : ChangeSpec := { name := "mergeStable", fn := fun _ => fun
  | [d] => { results := [.lit (.bool false)], args := [d] }
  | _ => none }
def MergeStableWrongFalsely : Prop := mergeStableRow.holds Try.pinned (OpenSpec.ofChange mergeStableWrong)

/- THE SECOND FORM. 'bulk': how many values and letters a reading holds, each counted each time it is reached (what is shared counts as often as it is met; a slice's spare places count too). A statement '..UptoSaid' is the law's where the arguments, and the package variables that the reading takes, are together of bulk at most 1048576: NARROWER than '..Said'. Prove '..Said' where nothing that the law and all that it calls make is longer than what came in: it says more and counts as full. Else prove '..UptoSaid'. A law counts once. -/
mutual
def uptoBulk {H : Type} : DataW H → Nat
  | .lit (.string bytes) => bytes.length + 1
  | .lit _ => 1
  | .nil => 1
  | .ptr d => uptoBulk d + 1
  | .slice elems spare => uptoBulkAll elems + uptoBulkAll spare + 1
  | .agg parts => uptoBulkAll parts + 1
  | .iface _ d => uptoBulk d + 1
  | .map entries => uptoBulkEntries entries + 1
  | .held _ => 1
def uptoBulkAll {H : Type} : List (DataW H) → Nat
  | [] => 0
  | d :: r => uptoBulk d + uptoBulkAll r
def uptoBulkEntries {H : Type} : List (Lit × DataW H) → Nat
  | [] => 0
  | x :: r => uptoBulkEntry x + uptoBulkEntries r
def uptoBulkEntry {H : Type} : Lit × DataW H → Nat
  | (.string bytes, d) => bytes.length + uptoBulk d + 1
  | (_, d) => uptoBulk d + 1
 end
def uptoSmall : (H : Type) → List (DataW H) → Bool := fun _ ds => decide (uptoBulkAll ds ≤ 1048576)
def OpenSpec.upto (s : _root_.Go.ChangeSpec) : _root_.Go.OpenSpec := { _root_.Go.OpenSpec.ofChange s with cond := some uptoSmall }

/-- 'dominolaw14.MergeSorts', WHERE WHAT IT READS IS OF BULK AT MOST 1048576: true; the input reads as it did. -/
def mergeSortsUptoRow : OpenClaim := { program := "ytbhgonnonhiocaa", sum := "4a1870a24fe78d86cf91174c1bc52cb4ff89633fb69af3d1449c7f22e33b1764", func := "domino/dominolaw14.MergeSorts", spec := "mergeSorts", inPlace := ["math/bits.Sub64"], unfollowed := true, recurses := true, plainKeys := false, apart := false, narrowed := true }
def MergeSortsUptoSaid : Prop := mergeSortsUptoRow.holds Try.pinned (OpenSpec.upto mergeSortsSpec)

/-- 'dominolaw14.MergeKeeps', WHERE WHAT IT READS IS OF BULK AT MOST 1048576: true; the input reads as it did. -/
def mergeKeepsUptoRow : OpenClaim := { program := "ytbhgonnonhiocaa", sum := "4a1870a24fe78d86cf91174c1bc52cb4ff89633fb69af3d1449c7f22e33b1764", func := "domino/dominolaw14.MergeKeeps", spec := "mergeKeeps", inPlace := ["math/bits.Sub64"], unfollowed := true, recurses := true, plainKeys := false, apart := false, narrowed := true }
def MergeKeepsUptoSaid : Prop := mergeKeepsUptoRow.holds Try.pinned (OpenSpec.upto mergeKeepsSpec)

/-- 'dominolaw14.MergeNetwork', WHERE WHAT IT READS IS OF BULK AT MOST 1048576: true; the input reads as it did. -/
def mergeNetworkUptoRow : OpenClaim := { program := "ytbhgonnonhiocaa", sum := "4a1870a24fe78d86cf91174c1bc52cb4ff89633fb69af3d1449c7f22e33b1764", func := "domino/dominolaw14.MergeNetwork", spec := "mergeNetwork", inPlace := ["math/bits.Sub64"], unfollowed := true, recurses := true, plainKeys := false, apart := false, narrowed := true }
def MergeNetworkUptoSaid : Prop := mergeNetworkUptoRow.holds Try.pinned (OpenSpec.upto mergeNetworkSpec)

/-- 'dominolaw14.MergeHalves', WHERE WHAT IT READS IS OF BULK AT MOST 1048576: true; the input reads as it did. -/
def mergeHalvesUptoRow : OpenClaim := { program := "ytbhgonnonhiocaa", sum := "4a1870a24fe78d86cf91174c1bc52cb4ff89633fb69af3d1449c7f22e33b1764", func := "domino/dominolaw14.MergeHalves", spec := "mergeHalves", inPlace := ["math/bits.Sub64"], unfollowed := true, recurses := true, plainKeys := false, apart := false, narrowed := true }
def MergeHalvesUptoSaid : Prop := mergeHalvesUptoRow.holds Try.pinned (OpenSpec.upto mergeHalvesSpec)

/-- 'dominolaw14.MergeStable', WHERE WHAT IT READS IS OF BULK AT MOST 1048576: true; the input reads as it did. -/
def mergeStableUptoRow : OpenClaim := { program := "ytbhgonnonhiocaa", sum := "4a1870a24fe78d86cf91174c1bc52cb4ff89633fb69af3d1449c7f22e33b1764", func := "domino/dominolaw14.MergeStable", spec := "mergeStable", inPlace := ["math/bits.Sub64"], unfollowed := true, recurses := true, plainKeys := false, apart := false, narrowed := true }
def MergeStableUptoSaid : Prop := mergeStableUptoRow.holds Try.pinned (OpenSpec.upto mergeStableSpec)

end Rows
end Go.Proofs.Ytbhgonnonhiocaa
