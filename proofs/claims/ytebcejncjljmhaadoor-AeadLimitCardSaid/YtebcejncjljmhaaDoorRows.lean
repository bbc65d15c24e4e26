/-
  NARROWER THAN 'FOR EVERY INPUT', by the rows' own cells (each row's printed sentence says how): AeadSeals: laid · AeadOpens: laid · AeadBack: laid · AeadLimit: laid · AeadStream: laid · AeadLengths: laid · AeadShort: laid.
  DERIVED. THE GIVEN ROWS OF THIS SEAT. 7 by the template 'for every input the law returns true; each argument reads behind the call as it read before'; 0 by the template 'total and deterministic' (their statements: YtebcejncjljmhaaDoorTotals.lean).
  GIVEN WITH THE SEED: the statements are not yours to turn. If you find one false, say at which input.
  Laid BY PROGRAM, IN A SANDBOX (cutbox-rows.mjs): the forced cells as the released guide's own fill.sh prints them over the translation 847f2d41698636a7… (all of the seat's roots in one cut). By AI agents, Wed Nov 11 2026. No macro, syntax, notation, axiom, sorry.
-/
import Derived.Test.YtebcejncjljmhaaDoorChecked
import GoSem.Claim
import GoSem.ClaimJoined
import GoSem.ClaimMapViews
import Derived.JoinedTies
import Derived.KernelRfl
namespace Go.Proofs.YtebcejncjljmhaaDoor
/- THE CELL 'sum', in the pinned program and in every row, IS THE sha256 OF THE DUMP (.gsa) THAT YtebcejncjljmhaaDoorProg.lean LOADS. Nothing in Lean hashes anything: it is a label: what it is worth is what the hold of that sum in a sandbox is worth. -/
noncomputable def Tryd.pinned : Pinned := { name := "ytebcejncjljmhaadoor", sum := "847f2d41698636a739a832ba9c5ebe2565b170c391f52af404ae99bd8806602d", checked := Tryd.checked }
namespace Rows
def none {H : Type} : Left H := { results := [], args := [] }

/- WHAT THE LISTED PACKAGE-LEVEL VARIABLES READ AS WHEN THE CALL BEGINS. Each datum BY PROGRAM (the guide's laid-datum.mjs) off the statement by which the dump's own 'gosem.cut.vars' lays the variable. In a bare row this is a premise. The card (YtebcejncjljmhaaDoorCards.lean) ties it to the program's text. -/
def laid_domino_chacha_start {H : Type} : DataW H := .agg [.lit (.int .u32 1634760805), .lit (.int .u32 857760878), .lit (.int .u32 2036477234), .lit (.int .u32 1797285236)]
def laid_domino_poly_kept {H : Type} : DataW H := .agg [.lit (.int .u8 255), .lit (.int .u8 255), .lit (.int .u8 255), .lit (.int .u8 15), .lit (.int .u8 252), .lit (.int .u8 255), .lit (.int .u8 255), .lit (.int .u8 15), .lit (.int .u8 252), .lit (.int .u8 255), .lit (.int .u8 255), .lit (.int .u8 15), .lit (.int .u8 252), .lit (.int .u8 255), .lit (.int .u8 255), .lit (.int .u8 15)]

/-- 'dominolaw07.AeadSeals': WHATEVER THE INPUT: true; the input reads as it did. -/
def aeadSealsSpec : ChangeSpec := { name := "aeadSeals", fn := fun _ => fun
  | [d1, d2, d3, d4] => { results := [.lit (.bool true)], args := [d1, d2, d3, d4] }
  | _ => none }
def aeadSealsRow : OpenClaim := { program := "ytebcejncjljmhaadoor", sum := "847f2d41698636a739a832ba9c5ebe2565b170c391f52af404ae99bd8806602d", func := "domino/dominolaw07.AeadSeals", spec := "aeadSeals", unfollowed := true, recurses := true, named := ["domino/chacha.start", "domino/poly.kept"], apart := false, laid := [("domino/chacha.start", laid_domino_chacha_start), ("domino/poly.kept", laid_domino_poly_kept)] }
def AeadSealsSaid : Prop := aeadSealsRow.holds Tryd.pinned (OpenSpec.ofChange aeadSealsSpec)

/-- ITS FALSE NEIGHBOUR: 'it returns false'. Refute it at one input. -/
def aeadSealsWrong : ChangeSpec := { name := "aeadSeals", fn := fun _ => fun
  | [d1, d2, d3, d4] => { results := [.lit (.bool false)], args := [d1, d2, d3, d4] }
  | _ => none }
def AeadSealsWrongFalsely : Prop := aeadSealsRow.holds Tryd.pinned (OpenSpec.ofChange aeadSealsWrong)

/-- 'dominolaw07.AeadOpens': WHATEVER THE INPUT: true; the input reads as it did. -/
def aeadOpensSpec : ChangeSpec := { name := "aeadOpens", fn := fun _ => fun
  | [d1, d2, d3, d4] => { results := [.lit (.bool true)], args := [d1, d2, d3, d4] }
  | _ => none }
def aeadOpensRow : OpenClaim := { program := "ytebcejncjljmhaadoor", sum := "847f2d41698636a739a832ba9c5ebe2565b170c391f52af404ae99bd8806602d", func := "domino/dominolaw07.AeadOpens", spec := "aeadOpens", unfollowed := true, recurses := true, named := ["domino/chacha.start", "domino/poly.kept"], apart := false, laid := [("domino/chacha.start", laid_domino_chacha_start), ("domino/poly.kept", laid_domino_poly_kept)] }
def AeadOpensSaid : Prop := aeadOpensRow.holds Tryd.pinned (OpenSpec.ofChange aeadOpensSpec)

/-- ITS FALSE NEIGHBOUR: 'it returns false'. Refute it at one input. -/
def aeadOpensWrong : ChangeSpec := { name := "aeadOpens", fn := fun _ => fun
  | [d1, d2, d3, d4] => { results := [.lit (.bool false)], args := [d1, d2, d3, d4] }
  | _ => none }
def AeadOpensWrongFalsely : Prop := aeadOpensRow.holds Tryd.pinned (OpenSpec.ofChange aeadOpensWrong)

/-- 'dominolaw07.AeadBack': WHATEVER THE INPUT: true; the input reads as it did. -/
def aeadBackSpec : ChangeSpec := { name := "aeadBack", fn := fun _ => fun
  | [d1, d2, d3, d4, d5, d6, d7] => { results := [.lit (.bool true)], args := [d1, d2, d3, d4, d5, d6, d7] }
  | _ => none }
def aeadBackRow : OpenClaim := { program := "ytebcejncjljmhaadoor", sum := "847f2d41698636a739a832ba9c5ebe2565b170c391f52af404ae99bd8806602d", func := "domino/dominolaw07.AeadBack", spec := "aeadBack", unfollowed := true, recurses := true, named := ["domino/chacha.start", "domino/poly.kept"], apart := false, laid := [("domino/chacha.start", laid_domino_chacha_start), ("domino/poly.kept", laid_domino_poly_kept)] }
def AeadBackSaid : Prop := aeadBackRow.holds Tryd.pinned (OpenSpec.ofChange aeadBackSpec)

/-- ITS FALSE NEIGHBOUR: 'it returns false'. Refute it at one input. -/
def aeadBackWrong : ChangeSpec := { name := "aeadBack", fn := fun _ => fun
  | [d1, d2, d3, d4, d5, d6, d7] => { results := [.lit (.bool false)], args := [d1, d2, d3, d4, d5, d6, d7] }
  | _ => none }
def AeadBackWrongFalsely : Prop := aeadBackRow.holds Tryd.pinned (OpenSpec.ofChange aeadBackWrong)

/-- 'dominolaw07.AeadLimit': WHATEVER THE INPUT: true; the input reads as it did. -/
def aeadLimitSpec : ChangeSpec := { name := "aeadLimit", fn := fun _ => fun
  | [d1, d2] => { results := [.lit (.bool true)], args := [d1, d2] }
  | _ => none }
def aeadLimitRow : OpenClaim := { program := "ytebcejncjljmhaadoor", sum := "847f2d41698636a739a832ba9c5ebe2565b170c391f52af404ae99bd8806602d", func := "domino/dominolaw07.AeadLimit", spec := "aeadLimit", unfollowed := true, recurses := true, named := ["domino/chacha.start", "domino/poly.kept"], apart := false, laid := [("domino/chacha.start", laid_domino_chacha_start), ("domino/poly.kept", laid_domino_poly_kept)] }
def AeadLimitSaid : Prop := aeadLimitRow.holds Tryd.pinned (OpenSpec.ofChange aeadLimitSpec)

/-- ITS FALSE NEIGHBOUR: 'it returns false'. Refute it at one input. -/
def aeadLimitWrong : ChangeSpec := { name := "aeadLimit", fn := fun _ => fun
  | [d1, d2] => { results := [.lit (.bool false)], args := [d1, d2] }
  | _ => none }
def AeadLimitWrongFalsely : Prop := aeadLimitRow.holds Tryd.pinned (OpenSpec.ofChange aeadLimitWrong)

/-- 'dominolaw07.AeadStream': WHATEVER THE INPUT: true; the input reads as it did. -/
def aeadStreamSpec : ChangeSpec := { name := "aeadStream", fn := fun _ => fun
  | [d1, d2, d3, d4, d5] => { results := [.lit (.bool true)], args := [d1, d2, d3, d4, d5] }
  | _ => none }
def aeadStreamRow : OpenClaim := { program := "ytebcejncjljmhaadoor", sum := "847f2d41698636a739a832ba9c5ebe2565b170c391f52af404ae99bd8806602d", func := "domino/dominolaw07.AeadStream", spec := "aeadStream", unfollowed := true, recurses := true, named := ["domino/chacha.start", "domino/poly.kept"], apart := false, laid := [("domino/chacha.start", laid_domino_chacha_start), ("domino/poly.kept", laid_domino_poly_kept)] }
def AeadStreamSaid : Prop := aeadStreamRow.holds Tryd.pinned (OpenSpec.ofChange aeadStreamSpec)

/-- ITS FALSE NEIGHBOUR: 'it returns false'. Refute it at one input. -/
def aeadStreamWrong : ChangeSpec := { name := "aeadStream", fn := fun _ => fun
  | [d1, d2, d3, d4, d5] => { results := [.lit (.bool false)], args := [d1, d2, d3, d4, d5] }
  | _ => none }
def AeadStreamWrongFalsely : Prop := aeadStreamRow.holds Tryd.pinned (OpenSpec.ofChange aeadStreamWrong)

/-- 'dominolaw07.AeadLengths': WHATEVER THE INPUT: true; the input reads as it did. -/
def aeadLengthsSpec : ChangeSpec := { name := "aeadLengths", fn := fun _ => fun
  | [d1, d2, d3, d4] => { results := [.lit (.bool true)], args := [d1, d2, d3, d4] }
  | _ => none }
def aeadLengthsRow : OpenClaim := { program := "ytebcejncjljmhaadoor", sum := "847f2d41698636a739a832ba9c5ebe2565b170c391f52af404ae99bd8806602d", func := "domino/dominolaw07.AeadLengths", spec := "aeadLengths", unfollowed := true, recurses := true, named := ["domino/chacha.start", "domino/poly.kept"], apart := false, laid := [("domino/chacha.start", laid_domino_chacha_start), ("domino/poly.kept", laid_domino_poly_kept)] }
def AeadLengthsSaid : Prop := aeadLengthsRow.holds Tryd.pinned (OpenSpec.ofChange aeadLengthsSpec)

/-- ITS FALSE NEIGHBOUR: 'it returns false'. Refute it at one input. -/
def aeadLengthsWrong : ChangeSpec := { name := "aeadLengths", fn := fun _ => fun
  | [d1, d2, d3, d4] => { results := [.lit (.bool false)], args := [d1, d2, d3, d4] }
  | _ => none }
def AeadLengthsWrongFalsely : Prop := aeadLengthsRow.holds Tryd.pinned (OpenSpec.ofChange aeadLengthsWrong)

/-- 'dominolaw07.AeadShort': WHATEVER THE INPUT: true; the input reads as it did. -/
def aeadShortSpec : ChangeSpec := { name := "aeadShort", fn := fun _ => fun
  | [d1, d2, d3, d4] => { results := [.lit (.bool true)], args := [d1, d2, d3, d4] }
  | _ => none }
def aeadShortRow : OpenClaim := { program := "ytebcejncjljmhaadoor", sum := "847f2d41698636a739a832ba9c5ebe2565b170c391f52af404ae99bd8806602d", func := "domino/dominolaw07.AeadShort", spec := "aeadShort", unfollowed := true, recurses := true, named := ["domino/chacha.start", "domino/poly.kept"], apart := false, laid := [("domino/chacha.start", laid_domino_chacha_start), ("domino/poly.kept", laid_domino_poly_kept)] }
def AeadShortSaid : Prop := aeadShortRow.holds Tryd.pinned (OpenSpec.ofChange aeadShortSpec)

/-- ITS FALSE NEIGHBOUR: 'it returns false'. Refute it at one input. -/
def aeadShortWrong : ChangeSpec := { name := "aeadShort", fn := fun _ => fun
  | [d1, d2, d3, d4] => { results := [.lit (.bool false)], args := [d1, d2, d3, d4] }
  | _ => none }
def AeadShortWrongFalsely : Prop := aeadShortRow.holds Tryd.pinned (OpenSpec.ofChange aeadShortWrong)

/- THE SECOND FORM. 'bulk': how many values and letters a reading holds, each counted each time it is reached (what is shared counts as often as it is met; a slice's spare places count too). A statement '..UptoSaid' is the law's where the arguments, and the package variables that the reading takes, are together of bulk at most 1048576: NARROWER than '..Said'. Prove '..Said' where nothing that the law and all that it calls make is longer than what came in: it says more and counts as full. Else prove '..UptoSaid'. A law counts once. -/
mutual
def uptoBulk {H : Type} : DataW H → Nat
  | .lit (.string bytes) => bytes.length + 1
  | .lit _ => 1
  | .nil => 1
  | .ptr d => uptoBulk d + 1
  | .slice elems spare => uptoBulkAll elems + uptoBulkAll spare + 1
  | .agg parts => uptoBulkAll parts + 1
  | .iface _ d => uptoBulk d + 1
  | .map entries => uptoBulkEntries entries + 1
  | .held _ => 1
def uptoBulkAll {H : Type} : List (DataW H) → Nat
  | [] => 0
  | d :: r => uptoBulk d + uptoBulkAll r
def uptoBulkEntries {H : Type} : List (Lit × DataW H) → Nat
  | [] => 0
  | x :: r => uptoBulkEntry x + uptoBulkEntries r
def uptoBulkEntry {H : Type} : Lit × DataW H → Nat
  | (.string bytes, d) => bytes.length + uptoBulk d + 1
  | (_, d) => uptoBulk d + 1
 end
def uptoSmall : (H : Type) → List (DataW H) → Bool := fun _ ds => decide (uptoBulkAll ds ≤ 1048576)
def OpenSpec.upto (s : _root_.Go.ChangeSpec) : _root_.Go.OpenSpec := { _root_.Go.OpenSpec.ofChange s with cond := some uptoSmall }

/-- 'dominolaw07.AeadSeals', WHERE WHAT IT READS IS OF BULK AT MOST 1048576: true; the input reads as it did. -/
def aeadSealsUptoRow : OpenClaim := { program := "ytebcejncjljmhaadoor", sum := "847f2d41698636a739a832ba9c5ebe2565b170c391f52af404ae99bd8806602d", func := "domino/dominolaw07.AeadSeals", spec := "aeadSeals", unfollowed := true, recurses := true, named := ["domino/chacha.start", "domino/poly.kept"], apart := false, laid := [("domino/chacha.start", laid_domino_chacha_start), ("domino/poly.kept", laid_domino_poly_kept)], narrowed := true }
def AeadSealsUptoSaid : Prop := aeadSealsUptoRow.holds Tryd.pinned (OpenSpec.upto aeadSealsSpec)

/-- 'dominolaw07.AeadOpens', WHERE WHAT IT READS IS OF BULK AT MOST 1048576: true; the input reads as it did. -/
def aeadOpensUptoRow : OpenClaim := { program := "ytebcejncjljmhaadoor", sum := "847f2d41698636a739a832ba9c5ebe2565b170c391f52af404ae99bd8806602d", func := "domino/dominolaw07.AeadOpens", spec := "aeadOpens", unfollowed := true, recurses := true, named := ["domino/chacha.start", "domino/poly.kept"], apart := false, laid := [("domino/chacha.start", laid_domino_chacha_start), ("domino/poly.kept", laid_domino_poly_kept)], narrowed := true }
def AeadOpensUptoSaid : Prop := aeadOpensUptoRow.holds Tryd.pinned (OpenSpec.upto aeadOpensSpec)

/-- 'dominolaw07.AeadBack', WHERE WHAT IT READS IS OF BULK AT MOST 1048576: true; the input reads as it did. -/
def aeadBackUptoRow : OpenClaim := { program := "ytebcejncjljmhaadoor", sum := "847f2d41698636a739a832ba9c5ebe2565b170c391f52af404ae99bd8806602d", func := "domino/dominolaw07.AeadBack", spec := "aeadBack", unfollowed := true, recurses := true, named := ["domino/chacha.start", "domino/poly.kept"], apart := false, laid := [("domino/chacha.start", laid_domino_chacha_start), ("domino/poly.kept", laid_domino_poly_kept)], narrowed := true }
def AeadBackUptoSaid : Prop := aeadBackUptoRow.holds Tryd.pinned (OpenSpec.upto aeadBackSpec)

/-- 'dominolaw07.AeadLimit', WHERE WHAT IT READS IS OF BULK AT MOST 1048576: true; the input reads as it did. -/
def aeadLimitUptoRow : OpenClaim := { program := "ytebcejncjljmhaadoor", sum := "847f2d41698636a739a832ba9c5ebe2565b170c391f52af404ae99bd8806602d", func := "domino/dominolaw07.AeadLimit", spec := "aeadLimit", unfollowed := true, recurses := true, named := ["domino/chacha.start", "domino/poly.kept"], apart := false, laid := [("domino/chacha.start", laid_domino_chacha_start), ("domino/poly.kept", laid_domino_poly_kept)], narrowed := true }
def AeadLimitUptoSaid : Prop := aeadLimitUptoRow.holds Tryd.pinned (OpenSpec.upto aeadLimitSpec)

/-- 'dominolaw07.AeadStream', WHERE WHAT IT READS IS OF BULK AT MOST 1048576: true; the input reads as it did. -/
def aeadStreamUptoRow : OpenClaim := { program := "ytebcejncjljmhaadoor", sum := "847f2d41698636a739a832ba9c5ebe2565b170c391f52af404ae99bd8806602d", func := "domino/dominolaw07.AeadStream", spec := "aeadStream", unfollowed := true, recurses := true, named := ["domino/chacha.start", "domino/poly.kept"], apart := false, laid := [("domino/chacha.start", laid_domino_chacha_start), ("domino/poly.kept", laid_domino_poly_kept)], narrowed := true }
def AeadStreamUptoSaid : Prop := aeadStreamUptoRow.holds Tryd.pinned (OpenSpec.upto aeadStreamSpec)

/-- 'dominolaw07.AeadLengths', WHERE WHAT IT READS IS OF BULK AT MOST 1048576: true; the input reads as it did. -/
def aeadLengthsUptoRow : OpenClaim := { program := "ytebcejncjljmhaadoor", sum := "847f2d41698636a739a832ba9c5ebe2565b170c391f52af404ae99bd8806602d", func := "domino/dominolaw07.AeadLengths", spec := "aeadLengths", unfollowed := true, recurses := true, named := ["domino/chacha.start", "domino/poly.kept"], apart := false, laid := [("domino/chacha.start", laid_domino_chacha_start), ("domino/poly.kept", laid_domino_poly_kept)], narrowed := true }
def AeadLengthsUptoSaid : Prop := aeadLengthsUptoRow.holds Tryd.pinned (OpenSpec.upto aeadLengthsSpec)

/-- 'dominolaw07.AeadShort', WHERE WHAT IT READS IS OF BULK AT MOST 1048576: true; the input reads as it did. -/
def aeadShortUptoRow : OpenClaim := { program := "ytebcejncjljmhaadoor", sum := "847f2d41698636a739a832ba9c5ebe2565b170c391f52af404ae99bd8806602d", func := "domino/dominolaw07.AeadShort", spec := "aeadShort", unfollowed := true, recurses := true, named := ["domino/chacha.start", "domino/poly.kept"], apart := false, laid := [("domino/chacha.start", laid_domino_chacha_start), ("domino/poly.kept", laid_domino_poly_kept)], narrowed := true }
def AeadShortUptoSaid : Prop := aeadShortUptoRow.holds Tryd.pinned (OpenSpec.upto aeadShortSpec)

end Rows
end Go.Proofs.YtebcejncjljmhaaDoor
