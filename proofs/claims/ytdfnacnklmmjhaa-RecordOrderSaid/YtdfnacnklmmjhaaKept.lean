/-
  The functions Own and Kept of package dominohelp on bytes, each by its contract. Conditions: the slices read as lists of bytes, of at most 2^40 bytes.
-/
import Derived.Test.YtdfnacnklmmjhaaHelp
import Derived.Laws.Slices
namespace Go.Proofs.Ytdfnacnklmmjhaa.Help
open Go.RowKit Go.Proofs.Ytdfnacnklmmjhaa.Mem
set_option linter.unusedVariables false

theorem own_any (B : Nat) (A : Option Addr) (n c : Nat) (zs : List Int) (f : Int) (w : World) (h : Ints w .u8 B A n zs) (hB : B ≤ w.heap.size) (hn : n ≤ 1099511627776) (hf : (Lit.int .u8 f).wf = true) :
    Calls Try.prog 9 #[.slice A n c, .int .u8 f] w fun e w' => ∃ g, e = .returned (.slice (some ⟨g, 0, none⟩) n (n + 3)) ∧ w.heap.size ≤ g ∧ Row w' g 5 .u8 (zs ++ [f, f, f]) ∧ Below w.heap.size w w' := by
  obtain ⟨i0, hi0, hz0, hs0, hb0⟩ := info_parts info_u8
  have HL := Lib.hid h.1
  go_enter Try.func9, Try.ntmps9
  go_wp2_with (first
    | (at_make; refine wpList_make_own _ rfl _ _ 24 rfl w.heap.size 5 i0 (.int .u8 0) 1 Try.underlying24 hi0 hz0 hs0 .i64 .i64 _ (n + 3) rfl rfl (by simp) (by rw [hb0]; omega) (by unfold maxLen; omega) (Nat.le_refl _) ?_; intro w1 hown1 hg1)
    | (at_builtin; refine wpList_append_ints_fits _ rfl _ _ 24 rfl w.heap.size 5 .u8 1 Try.underlying24 info_u8 w.heap.size (n + 3) [] rfl ⟨by simp, hown1⟩ B A n c zs rfl (h.keep fun p hp => World.cell?_of_block (hg1.block _ (by omega) (by simp))) (by simp) ?_; intro w2 hown2 hg2))
  simp only [List.length_nil, Nat.zero_add, List.nil_append] at hown2
  have hfill := hown2.fill (M := (zs ++ [f, f, f]).map (Value.int .u8)) (by rw [List.map_append, List.take_left' (by simpa using HL.out)])
  have hbel : Below w.heap.size w w2 := ((Below.refl _ _).grown hg1 (Nat.le_refl _) (by simp)).grown hg2 (by have := hg1.size; omega) (by simp)
  clear hown2 hown1 hg1 hg2
  go_loopw [7] (fun i wr => ∃ k : Nat, n ≤ k ∧ k ≤ n + 3 ∧ i = .int .i64 k ∧ Below w.heap.size w wr ∧ Fill wr w.heap.size 5 (n + 3) ((zs ++ [f, f, f]).map (Value.int .u8)) k) (fun i _ => n + 3 - (intOf i).toNat)
  case atStart => exact ⟨n, by omega, by omega, rfl, hbel, hfill⟩
  case round =>
    obtain ⟨k, hk0, hk, rfl, hbl, hfl⟩ := hrel
    by_cases hlt : k < n + 3
    · obtain ⟨u, hu⟩ := hfl.cell hlt
      have hfr := hfl.frozen k
      have HS := Lib.hid (hfl.step (u := .int .u8 f) (by
        have hz := HL.out
        rw [List.getElem?_map, List.getElem?_append_right (by omega), hz]
        have : k - n = 0 ∨ k - n = 1 ∨ k - n = 2 := by omega
        rcases this with e | e | e <;> rw [e] <;> rfl) hlt)
      have hlt' : (k : Int) < (n : Int) + 3 := by omega
      have hk1 : (0 : Int) ≤ (k : Int) := by omega
      go_wp2_with fail
      go_roundw
      case rel => exact ⟨k + 1, by omega, by omega, by go_num, hbl.setCell (by simp) _, HS.out⟩
      case measure => simp [intOf]; omega
    · have HD := Lib.hid (hfl.done (by omega) (by have := HL.out; simp; omega))
      go_wp2_with fail
      go_ret
      exact ⟨w.heap.size, rfl, Nat.le_refl _, ⟨fun z hz => by
        rcases List.mem_append.1 hz with hz | hz
        · exact h.2.1 z hz
        · have : z = f := by simpa using hz
          rw [this]; exact hf, HD.out⟩, hbl⟩

theorem kept_any (B : Nat) (A : Option Addr) (n c g : Nat) (zs : List Int) (f : Int) (w : World) (h : Ints w .u8 B A n zs) (hn : n ≤ 1099511627776) (hr : Row w g 5 .u8 (zs ++ [f, f, f])) :
    Calls Try.prog 14 #[.slice (some ⟨g, 0, none⟩) n (n + 3), .slice A n c, .int .u8 f] w fun e w' => e = .returned (.bool true) ∧ Still w w' := by
  have HL := Lib.hid h.1
  have hi := hr.ints (n := n) (by simp; have := HL.out; omega)
  rw [List.take_left' HL.out] at hi
  go_enter Try.func14, Try.ntmps14
  go_wp2_with fail
  refine (plain_any _ _ _ _ _ _ _ _ _ _ _ hi h (by omega) (by omega)).mono ?_
  rintro e w1 ⟨rfl, hst⟩
  go_wp2_with fail
  go_loop [8] (fun i => ∃ k : Nat, n ≤ k ∧ k ≤ n + 3 ∧ i = .int .i64 k) (fun i => n + 3 - (intOf i).toNat)
  case atStart => exact ⟨n, by omega, by omega, rfl⟩
  case round =>
    obtain ⟨k, hk0, hk, rfl⟩ := hrel
    by_cases hlt : k < n + 3
    · have hc : w1.cell? ⟨g, k, none⟩ = some (.int .u8 f) := by
        have hz := HL.out
        rw [hst.cell, hr.cell (by simp; omega)]
        simp only [List.getD_eq_getElem?_getD]
        rw [List.getElem?_append_right (by omega), hz]
        have : k - n = 0 ∨ k - n = 1 ∨ k - n = 2 := by omega
        rcases this with e | e | e <;> rw [e] <;> rfl
      have hlt' : (k : Int) < (n : Int) + 3 := by omega
      have hk1 : (0 : Int) ≤ (k : Int) := by omega
      go_wp2_with fail
      go_round
      case rel => exact ⟨k + 1, by omega, by omega, by go_num⟩
      case measure => simp [intOf]; omega
    · go_wp2_with fail
      go_ret
      exact ⟨rfl, hst⟩
end Go.Proofs.Ytdfnacnklmmjhaa.Help

