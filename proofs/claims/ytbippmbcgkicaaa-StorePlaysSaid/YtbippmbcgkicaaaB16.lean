/-
  The document's store's calls, as they answer to what a store says.
-/
import Derived.Test.YtbippmbcgkicaaaB15
set_option linter.unusedVariables false
namespace Go.Proofs.Ytbippmbcgkicaaa.Sto
open Go.RowKit Go.Shelf Go.Proofs.Ytbippmbcgkicaaa Mem Held Sl Go.Proofs.Ytbippmbcgkicaaa.Range
attribute [local irreducible] wpList wpListIn Calls
def SayPost (ow2 : Nat → Nat) (w : World) (r M : Nat) (O : List Ol) (W : Int) (p : Bool × Lp) (e : Ending) (w' : World) : Prop :=
  e = .returned (.bool p.1) ∧ ∃ ow2' l', Ref ow2' w' r M l' O ∧ Chg ow2 ow2' w w' ∧ Say p.2 W l' O
section
variable {ow2 : Nat → Nat} {w : World} {r M : Nat} {L : Lp} {W : Int} {l : List Cr} {O : List Ol} {x y : Nm}
theorem rdelete_say (H : Ref ow2 w r M l O) (S : Say L W l O) (hg : GoodL L W) (hM : M ≤ 400000) : Calls Try.prog 14 #[.pointer (some ⟨r, 0, none⟩), encStr x] w (SayPost ow2 w r M O W (delP W x L)) := by
  refine (rdelete_any (x := x) H S.doc.srt (by omega)).mono ?_
  rintro e w' (⟨rfl, hf, ow', H', C⟩ | ⟨rfl, m, d, hm, rfl, hs, ow', H', C⟩)
  · rw [S.delete_no hf]
    exact ⟨rfl, ow', l, H', C, S⟩
  · obtain ⟨h1, h2⟩ := S.delete hg hm hs
    exact ⟨by rw [h1], ow', _, H', C, h2⟩
theorem rreplay_say (H : Ref ow2 w r M l O) (S : Say L W l O) (hg : GoodL L W) (hM : M ≤ 400000) (q : Int) : Calls Try.prog 10 #[.pointer (some ⟨r, 0, none⟩), encStr x, .int .i64 q] w (SayPost ow2 w r M O W (replayP W x q L)) := by
  refine (rreplay_any (x := x) H S.doc.srt (by omega) q).mono ?_
  rintro e w' (⟨rfl, hf, ow', H', C⟩ | ⟨rfl, m, j, d, z, hm, rfl, rfl, hz, ow', H', C⟩)
  · rw [S.replay_no hf]
    exact ⟨rfl, ow', l, H', C, S⟩
  · obtain ⟨h1, h2⟩ := S.replay hg hm hz
    exact ⟨by rw [h1], ow', _, H', C, h2⟩
theorem rflip_say (H : Ref ow2 w r M l O) (S : Say L W l O) (hg : GoodL L W) (hM : M ≤ 400000) (q : Int) (hw : (Lit.int .i64 q).wf = true) : Calls Try.prog 18 #[.pointer (some ⟨r, 0, none⟩), encStr x, .int .i64 q] w (SayPost ow2 w r M O W (flipP W x q L)) := by
  refine (rflip_any (x := x) H S.doc.srt (by omega) q hw).mono ?_
  rintro e w' (⟨rfl, hf, ow', H', C⟩ | ⟨rfl, m, j, d, z, hm, rfl, hs, rfl, hj, hz, ow', H', C⟩)
  · rw [S.flip_no hg hf]
    exact ⟨rfl, ow', l, H', C, S⟩
  · obtain ⟨h1, h2⟩ := S.flip hg hm hs hj hz
    exact ⟨by rw [h1], ow', _, H', C, h2⟩
theorem rswap_say (H : Ref ow2 w r M l O) (S : Say L W l O) (hg : GoodL L W) (hM : M ≤ 400000) : Calls Try.prog 12 #[.pointer (some ⟨r, 0, none⟩), encStr x, encStr y] w (SayPost ow2 w r M O W (swapP W x y L)) := by
  refine (rswap_any (x := x) (x' := y) H S.doc.srt (by omega)).mono ?_
  rintro e w' (⟨rfl, hf, ow', H', C⟩ | ⟨rfl, m, m', d, d', hm, rfl, hs, hm', rfl, hs', (⟨rfl, ow', H', C⟩ | ⟨-, ow', H', C⟩)⟩)
  · rw [S.swap_no hf]
    exact ⟨rfl, ow', l, H', C, S⟩
  · have e : d' = d := by rw [hm] at hm'; injection hm' with hm'; exact hm'.symm
    subst e
    obtain ⟨h1, h2⟩ := S.swap_same hg hm hs
    exact ⟨by rw [h1], ow', l, H', C, h2⟩
  · obtain ⟨h1, h2⟩ := S.swap hg hm hs hm' hs'
    exact ⟨by rw [h1], ow', _, H', C, h2⟩
theorem rroll_say (H : Ref ow2 w r M l O) (S : Say L W l O) (hg : GoodL L W) (hM : M ≤ 400000) (q : Int) : Calls Try.prog 16 #[.pointer (some ⟨r, 0, none⟩), .int .i64 q] w (SayPost ow2 w r M O W (rollsP W q L)) := by
  refine (rroll_any H hM q).mono ?_
  rintro e w' (⟨rfl, hf, ow', H', C⟩ | ⟨rfl, rfl, ow', H', C⟩ | ⟨rfl, j, o, hq, h0, ho, ow', H', C⟩)
  · rw [S.roll_no hf]
    exact ⟨rfl, ow', l, H', C, S⟩
  · rw [S.roll_zero]
    exact ⟨rfl, ow', l, H', C, S⟩
  · obtain ⟨h1, h2⟩ := S.roll hg hq h0 ho
    exact ⟨by rw [h1], ow', _, H', C, h2⟩
theorem rput_say (H : Ref ow2 w r M l O) (S : Say L W l O) (hg : GoodL L W) (hM : M ≤ 400000) {z : Bs} {Sy : Nat → Prop} (hz : Rd Sy w z) (hSy : ∀ b, Sy b → ow2 b ≠ 2) :
    Calls Try.prog 22 #[.pointer (some ⟨r, 0, none⟩), encStr x, .slice z.A z.n z.c] w fun e w' => e = .returned (.tuple #[]) ∧ ∃ ow2' l' O', Ref ow2' w' r (M + 2) l' O' ∧ Chg ow2 ow2' w w' ∧ Say (putP (W + 1) x z.zs L) (W + 1) l' O' ∧ O'.length = O.length + 1 := by
  refine (rput_any (x := x) H hz hSy hM).mono ?_
  rintro e w' ⟨rfl, ow', l', O', H', C, hO, hl⟩
  exact ⟨rfl, ow', l', O', H', C, S.put hg hO hl, by have := congrArg List.length hO; unfold absO at this; simpa using this⟩
end
end Go.Proofs.Ytbippmbcgkicaaa.Sto
