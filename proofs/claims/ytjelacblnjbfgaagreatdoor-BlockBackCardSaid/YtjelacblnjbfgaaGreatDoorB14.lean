/-
  The document's own may, Size and Pack of blocks, by their contracts.
  ChaCha20 as plain functions: no program here.
  What follows of ChaCha20 as plain functions: a quarter round turned back; bytes turned twice; a part from a whole block on.
  Bytes turned by ChaCha20, as a plain function: turned twice; from a whole block on; of zeros.
  AEAD_CHACHA20_POLY1305 as plain functions: no program here.
  Small functions of package poly, each by its contract: Clamp, withoutOne, plus.
  The document's own eight and padded (package dominoref07) by their contracts: a number's eight bytes, the lowest first; bytes, and zeros up to a multiple of 16.
  The small functions of package chacha and of the document's own, each by its contract: turning, the quarter round, four bytes as a number, a number as four bytes.
-/
import Derived.Test.YtjelacblnjbfgaaGreatDoorB13
import Derived.Test.YtjelacblnjbfgaaGreatDoorB2
import Derived.Test.YtjelacblnjbfgaaGreatDoorB9
import Derived.Test.YtjelacblnjbfgaaGreatDoorRows
import Derived.WalkLawsBesides
import Derived.IntWalk
import Derived.Lib.BufferOwn
import Derived.StillTailTactics
import Derived.Test.YtjelacblnjbfgaaGreatDoorB8
import Derived.Test.YtjelacblnjbfgaaGreatDoorB1
set_option linter.unusedVariables false
namespace Go.Proofs.YtjelacblnjbfgaaGreatDoor.Rs
open Go.RowKit Go.Shelf Go.Proofs.YtjelacblnjbfgaaGreatDoor Mem Held Rc Po
attribute [local irreducible] wpList wpListIn Calls
def pad (rs : List R) (size : Nat) : List R := rs ++ List.replicate (size - rs.length) RD
theorem pad_length {rs : List R} {size : Nat} (h : rs.length ≤ size) : (pad rs size).length = size := by simp [pad]; omega
theorem pad_lt {rs : List R} {size i : Nat} (h : i < rs.length) : (pad rs size).getD i R0 = rs.getD i R0 := by
  simp only [pad, List.getD_eq_getElem?_getD]
  rw [List.getElem?_append_left h]
theorem pad_ge {rs : List R} {size i : Nat} (h : ¬ i < rs.length) (hi : i < size) : (pad rs size).getD i R0 = RD := by
  simp only [pad, List.getD_eq_getElem?_getD]
  rw [List.getElem?_append_right (by omega), List.getElem?_replicate, if_pos (by omega)]
  rfl
def packR (r : R) : List Int := packed r.d r.k r.v r.s
theorem packR_length (r : R) : (packR r).length = 32 := packed_length _ _ _ _
def packs (rs : List R) : List Int := rs.flatMap packR
theorem packs_length : ∀ rs : List R, (packs rs).length = 32 * rs.length
  | [] => rfl
  | r :: rs => by
    have := packs_length rs
    simp only [packs, List.flatMap_cons, List.length_append, packR_length, List.length_cons] at this ⊢
    omega
theorem packs_wf (rs : List R) : ∀ z ∈ packs rs, (Lit.int .u8 z).wf = true := fun z hz => by
  obtain ⟨r, _, h⟩ := List.mem_flatMap.1 hz
  exact packed_wf _ _ _ _ z h
def mayS (size : Int) : Bool := decide (1 ≤ size) && decide (size ≤ 8)
theorem may_any (size : Int) (w : World) : Calls Tryz.prog 27 #[.int .i64 size] w fun e w' => e = .returned (.bool (mayS size)) ∧ w = w' := by
  by_cases h1 : 1 ≤ size
  · by_cases h8 : size ≤ 8
    · have hm : mayS size = true := by simp [mayS, h1, h8]
      have HM := Lib.hid hm
      clear hm
      go_enter Tryz.func27, Tryz.ntmps27
      go_wp2_with fail
      go_ret
      exact ⟨Mem.ret_bool HM.out.symm, rfl⟩
    · have hm : mayS size = false := by simp [mayS, h8]
      have HM := Lib.hid hm
      clear hm
      go_enter Tryz.func27, Tryz.ntmps27
      go_wp2_with fail
      go_ret
      exact ⟨Mem.ret_bool HM.out.symm, rfl⟩
  · have hm : mayS size = false := by simp [mayS, h1]
    have HM := Lib.hid hm
    clear hm
    go_enter Tryz.func27, Tryz.ntmps27
    go_wp2_with fail
    go_ret
    exact ⟨Mem.ret_bool HM.out.symm, rfl⟩
def word (zs : List Int) (i : Nat) : List Int := (zs.drop (32 * i)).take 32
theorem word_length {zs : List Int} {i size : Nat} (hl : zs.length = 32 * size) (hi : i < size) : (word zs i).length = 32 := by
  rw [word, List.length_take, List.length_drop, hl]
  omega
def recT (zs : List Int) : R := ⟨fld zs 0 == 1, wrap64 (fld zs 1), wrap64 (fld zs 2), wrap64 (fld zs 3)⟩
theorem recT_wf (zs : List Int) : (recT zs).wf := ⟨wrap64_wf _, wrap64_wf _, wrap64_wf _⟩
def allOk (zs : List Int) (size : Nat) : Bool := (List.range size).all fun i => mayB (word zs i)
theorem allOk_iff {zs : List Int} {size : Nat} : allOk zs size = true ↔ ∀ i, i < size → mayB (word zs i) = true := by simp [allOk]
def recsOf (zs : List Int) (k : Nat) : List R := (List.range k).map fun i => recT (word zs i)
theorem recsOf_length (zs : List Int) (k : Nat) : (recsOf zs k).length = k := by simp [recsOf]
theorem recsOf_snoc (zs : List Int) (k : Nat) : recsOf zs (k + 1) = recsOf zs k ++ [recT (word zs k)] := by simp [recsOf, List.range_succ]
theorem recsOf_wf (zs : List Int) (k : Nat) : ∀ r ∈ recsOf zs k, r.wf := fun r hr => by
  obtain ⟨i, _, rfl⟩ := List.mem_map.1 hr
  exact recT_wf _
def takesR (zs : List Int) (size : Int) : List R := if mayS size = true ∧ (zs.length : Int) = 32 * size ∧ allOk zs size.toNat = true then recsOf zs size.toNat else []
def takesE (zs : List Int) (size : Int) : Int := if mayS size = false then 1 else if (zs.length : Int) < 32 * size then 3 else if 32 * size < (zs.length : Int) then 4 else if allOk zs size.toNat = true then 0 else 4
theorem ints_mid {w : World} {B b off n : Nat} {zs : List Int} (hi : Ints w .u8 B (some ⟨b, off, none⟩) n zs) {o m : Nat} (hx : o + m ≤ n) (hm : 0 < m) : Ints w .u8 B (some ⟨b, off + o, none⟩) m ((zs.drop o).take m) := by
  refine ⟨by rw [List.length_take, List.length_drop, hi.1]; omega, fun z hz => hi.2.1 z (List.mem_of_mem_drop (List.mem_of_mem_take hz)), fun _ => ?_⟩
  obtain ⟨b', off', e, hb, hcc⟩ := hi.2.2 (by omega)
  injection e with e
  injection e with e1 e2
  subst e1
  subst e2
  refine ⟨b, off + o, rfl, hb, fun i hi8 => ?_⟩
  rw [Nat.add_assoc, hcc (o + i) (by omega)]
  simp [List.getD_eq_getElem?_getD, hi8]
theorem rtakes_bad (A : Option Addr) (n c : Nat) (size : Int) (w : World) (hs : mayS size = false) :
    Calls Tryz.prog 29 #[.slice A n c, .int .i64 size] w fun e w' => e = .returned (.tuple #[.slice none 0 0, .int .i64 1]) ∧ w = w' := by
  go_enter Tryz.func29, Tryz.ntmps29
  go_wp2_with fail
  refine (may_any size w).mono ?_
  rintro e w1 ⟨rfl, rfl⟩
  rw [hs]
  go_wp2_with fail
  exact bodyPost_ret (results_tmp2 rfl _ _ _) rfl ⟨rfl, rfl⟩
theorem rtakes_short (A : Option Addr) (n c : Nat) (size : Int) (w : World) (hs : mayS size = true) (hn : (n : Int) < 32 * size) :
    Calls Tryz.prog 29 #[.slice A n c, .int .i64 size] w fun e w' => e = .returned (.tuple #[.slice none 0 0, .int .i64 3]) ∧ w = w' := by
  have hb : 1 ≤ size ∧ size ≤ 8 := by simpa [mayS] using hs
  go_enter Tryz.func29, Tryz.ntmps29
  go_wp2_with fail
  refine (may_any size w).mono ?_
  rintro e w1 ⟨rfl, rfl⟩
  rw [hs]
  go_wp2_with fail
  exact bodyPost_ret (results_tmp2 rfl _ _ _) rfl ⟨rfl, rfl⟩
theorem rtakes_long (A : Option Addr) (n c : Nat) (size : Int) (w : World) (hs : mayS size = true) (hn : 32 * size < (n : Int)) :
    Calls Tryz.prog 29 #[.slice A n c, .int .i64 size] w fun e w' => e = .returned (.tuple #[.slice none 0 0, .int .i64 4]) ∧ w = w' := by
  have hb : 1 ≤ size ∧ size ≤ 8 := by simpa [mayS] using hs
  have hn' : ¬ (n : Int) < 32 * size := by omega
  go_enter Tryz.func29, Tryz.ntmps29
  go_wp2_with fail
  refine (may_any size w).mono ?_
  rintro e w1 ⟨rfl, rfl⟩
  rw [hs]
  go_wp2_with fail
  exact bodyPost_ret (results_tmp2 rfl _ _ _) rfl ⟨rfl, rfl⟩
set_option maxRecDepth 100000 in
set_option maxHeartbeats 4000000 in
theorem rtakes_at (B : Nat) (b off c : Nat) (zs : List Int) (size : Nat) (w : World) (h : Ints w .u8 B (some ⟨b, off, none⟩) (32 * size) zs) (hb : b < B) (hB : B ≤ w.heap.size) (hc : 32 * size ≤ c) (h1 : 1 ≤ size) (h8 : size ≤ 8) :
    Calls Tryz.prog 29 #[.slice (some ⟨b, off, none⟩) (32 * size) c, .int .i64 (size : Int)] w fun e w' => ∃ A' n' c', e = .returned (.tuple #[.slice A' n' c', .int .i64 (if allOk zs size = true then 0 else 4)]) ∧ OwnR w' w.heap.size (.slice A' n' c') (if allOk zs size = true then recsOf zs size else []) ∧ Below w.heap.size w w' := by
  have hs : mayS (size : Int) = true := by simp [mayS]; omega
  have HL := Lib.hid h.1
  have hsz : (size : Int) ≤ 8 := by omega
  have hmul : ((32 * size : Nat) : Int) = 32 * (size : Int) := by omega
  obtain ⟨n, hn⟩ : ∃ n, 32 * size = n := ⟨_, rfl⟩
  rw [hn] at h hc hmul HL ⊢
  have HN := Lib.hid hn
  clear hn
  have hlt0 : ¬ (n : Int) < 32 * (size : Int) := by omega
  have hgt0 : ¬ 32 * (size : Int) < (n : Int) := by omega
  have hld : decide ((n : Int) < 32 * (size : Int)) = false := by simp; omega
  have hgd : decide (32 * (size : Int) < (n : Int)) = false := by simp; omega
  clear hmul
  obtain ⟨E, hE⟩ : ∃ E, (if allOk zs size = true then (0 : Int) else 4) = E := ⟨_, rfl⟩
  obtain ⟨RR, hRR⟩ : ∃ RR, (if allOk zs size = true then recsOf zs size else []) = RR := ⟨_, rfl⟩
  rw [hE, hRR]
  have HEE := Lib.hid hE
  have HRR := Lib.hid hRR
  clear hE hRR
  go_enter Tryz.func29, Tryz.ntmps29
  go_wp2_with fail
  refine (may_any (size : Int) w).mono ?_
  rintro e w1 ⟨rfl, rfl⟩
  rw [hs]
  go_wp2_with fail
  go_loopw [6, 7] (fun u i wr => ∃ (k : Nat) (A1 : Option Addr) (c1 : Nat), k ≤ size ∧ u = .slice A1 k c1 ∧ i = .int .i64 k ∧ OwnR wr w.heap.size (.slice A1 k c1) (recsOf zs k) ∧ Hid (∀ i, i < k → mayB (word zs i) = true) ∧ Below w.heap.size w wr) (fun _ i _ => size - (intOf i).toNat)
  case atStart => exact ⟨0, none, 0, by omega, rfl, rfl, OwnR.nil _ _, Lib.hid (fun i hi => absurd hi (by omega)), Below.refl _ _⟩
  case round =>
    obtain ⟨k, A1, c1, hk, rfl, rfl, ok, hall, bk⟩ := hrel
    by_cases hlt : k < size
    · have hlt' : (k : Int) < (size : Int) := by omega
      have hk0 : (0 : Int) ≤ (k : Int) := by omega
      have hkn : 32 * k + 32 ≤ n := by have := HN.out; omega
      have iw := ints_mid (h.below (bk.mono hB)) (o := 32 * k) (m := 32) hkn (by omega)
      have hsl : ∀ W, (Instr.sliceAt 27 (.slice (some ⟨b, off, none⟩) n c) (some (.int .i64 (32 * (k : Int)))) (some (.int .i64 (32 * (k : Int) + 32))) none).run Tryz.prog W = .ok (.slice (some ⟨b, off + 32 * k, none⟩) 32 (c - 32 * k)) W := fun W => by
        have := run_midO (P := Tryz.prog) Tryz.underlying27 Rc.size_u8 b off n (cap := c) (l := 32 * k) (h := 32 * k + 32) (by omega) (by omega) (by omega) W
        rwa [show 32 * k + 32 - 32 * k = 32 by omega] at this
      have hc32 : 32 ≤ c - 32 * k := by omega
      go_wp2_with (refine wpList_run (w := wr) rfl (v := .slice (some ⟨b, off + 32 * k, none⟩) 32 (c - 32 * k)) (Held.y_slice (S := fun _ => True) rfl hsl _ trivial) ?_)
      refine (rtake_any B (some ⟨b, off + 32 * k, none⟩) 32 (c - 32 * k) _ wr iw (Nat.le_trans hB bk.size) hc32 (by omega)).mono ?_
      rintro e w1 ⟨rfl, b1⟩
      have ok := ok.below b1
      have bk := bk.trans (b1.mono bk.size)
      have hwl := word_length (i := k) (by rw [HL.out, HN.out]) hlt
      clear b1 iw hsl
      by_cases hm : mayB (word zs k) = true
      · have HC := Lib.hid (show takenC ((zs.drop (32 * k)).take 32) = #[.bool (recT (word zs k)).d, .int .i64 (recT (word zs k)).k, .int .i64 (recT (word zs k)).v, .int .i64 (recT (word zs k)).s] by
          show takenC (word zs k) = _
          unfold takenC
          rw [if_pos ⟨hwl, hm⟩]
          rfl)
        have HE := Lib.hid (show takenE ((zs.drop (32 * k)).take 32) = 0 by
          show takenE (word zs k) = 0
          unfold takenE
          rw [if_neg (by omega), if_pos ⟨hwl, hm⟩])
        have HALL := Lib.hid (show ∀ i, i < k + 1 → mayB (word zs i) = true from fun i hi => by
          by_cases hik : i < k
          · exact hall.out i hik
          · rw [show i = k by omega]; exact hm)
        have HS := Lib.hid (recsOf_snoc zs k)
        have hrw := recT_wf (word zs k)
        have HRL := Lib.hid (recsOf_length zs k)
        have HRL2 := Lib.hid (recsOf_length zs (k + 1))
        rw [HC.out, HE.out]
        generalize recT (word zs k) = x at HC HS hrw
        clear hm hall hwl HC
        go_wp2_with (first
          | (refine wpList_alloc_blk (w := w1) rfl 37 rfl _ zero_rec ?_; intro w2 q2 g2 z2)
          | (refine wpList_store_blk (w := w2) rfl 37 _ _ rfl w1.heap.size 4 rfl 37 _ #[.bool x.d, .int .i64 x.k, .int .i64 x.v, .int .i64 x.s] rfl q2 info_rec rfl rfl (by kernel_rfl) ?_; intro w3 q3 g3 z3; have o3 := (ok.kept g2 (by cases (Value.slice A1 k c1).ownBlock <;> simp)).kept g3 (by cases hq : (Value.slice A1 k c1).ownBlock with | none => exact .inl rfl | some b => exact .inr (fun e => by injection e with e; have := (ok.lt b hq).2; omega)); have b3 := (bk.grown g2 bk.size (by simp)).grown g3 (Nat.le_trans bk.size g2.size) (fun r e => by cases e; exact bk.size))
          | (refine wpList_load_blk (w := w3) rfl 37 _ rfl w1.heap.size 4 rfl 37 _ q3 _ Tryz.underlying37 rfl (by kernel_rfl) rfl ?_)
          | (refine wpList_build_rec (w := w3) rfl _ rfl x rfl ?_; intro w4 q4 g4 z4; have o4 := o3.kept g4 (by cases (Value.slice A1 k c1).ownBlock <;> simp); have b4 := b3.grown g4 b3.size (by simp); have i4 : Recs w4 w4.heap.size (some ⟨w3.heap.size, 0, none⟩) 1 [x] := recs_of_blk (rs := [x]) (qs := []) (by rw [List.append_nil, flat_one]; exact q4) (fun r hr => by rw [List.mem_singleton.1 hr]; exact hrw))
          | (at_builtin; refine wpList_append_recs (w := w4) rfl _ _ rfl w.heap.size w4.heap.size w3.heap.size 0 1 1 (.slice A1 k c1) (recsOf zs k) [x] rfl rfl o4 i4 (by rw [HRL.out]; omega) b4.size ?_; intro v5 w5 o5 g5 t5; rw [← HS.out] at o5; obtain ⟨A5, c5, rfl, _⟩ := o5.form; rw [HRL2.out] at o5 ⊢; have b5 := b4.grown g5 b4.size (fun r e => (o4.lt r e).1); clear g5 t5 g4 g3 g2 z2 z3 z4 q2 q3 q4 i4 o4 o3 b3 b4))
        go_roundw
        case rel => exact ⟨k + 1, A5, c5, by omega, rfl, by go_num, o5, HALL, b5⟩
        case measure => simp [intOf]; omega
      · have HC := Lib.hid (show takenC ((zs.drop (32 * k)).take 32) = noneC by
          show takenC (word zs k) = _
          unfold takenC
          rw [if_neg (fun h => hm h.2)])
        have HE := Lib.hid (show takenE ((zs.drop (32 * k)).take 32) = 4 by
          show takenE (word zs k) = 4
          unfold takenE
          rw [if_neg (by omega), if_neg (fun h => hm h.2)])
        have HA := Lib.hid (show allOk zs size = false by
          cases hq : allOk zs size
          · rfl
          · exact absurd (allOk_iff.1 hq k hlt) hm)
        rw [HC.out, HE.out]
        clear hm hall hwl HC
        go_wp2_with (first
          | (refine wpList_alloc_blk (w := w1) rfl 37 rfl _ zero_rec ?_; intro w2 q2 g2 z2)
          | (refine wpList_store_blk (w := w2) rfl 37 _ _ rfl w1.heap.size 4 rfl 37 _ noneC rfl q2 info_rec rfl rfl (by kernel_rfl) ?_; intro w3 q3 g3 z3; have b3 := (bk.grown g2 bk.size (by simp)).grown g3 (Nat.le_trans bk.size g2.size) (fun r e => by cases e; exact bk.size)))
        exact bodyPost_ret (results_tmp2 rfl _ _ _) rfl ⟨none, 0, 0, by rw [← HEE.out, HA.out]; rfl, by rw [← HRR.out, HA.out]; exact OwnR.nil _ _, b3⟩
    · have hks : k = size := by omega
      subst hks
      have HA := Lib.hid (allOk_iff.2 hall.out)
      go_wp2_with fail
      exact bodyPost_ret (results_tmp2 rfl _ _ _) rfl ⟨A1, k, c1, by rw [← HEE.out, HA.out]; rfl, by rw [← HRR.out, HA.out]; exact ok, bk⟩
theorem rtakes_any (B : Nat) (A : Option Addr) (n c : Nat) (zs : List Int) (size : Int) (w : World) (h : Ints w .u8 B A n zs) (hB : B ≤ w.heap.size) (hc : n ≤ c) :
    Calls Tryz.prog 29 #[.slice A n c, .int .i64 size] w fun e w' => ∃ A' n' c', e = .returned (.tuple #[.slice A' n' c', .int .i64 (takesE zs size)]) ∧ OwnR w' w.heap.size (.slice A' n' c') (takesR zs size) ∧ Below w.heap.size w w' := by
  have hl := h.1
  by_cases hs : mayS size = true
  · have hb : 1 ≤ size ∧ size ≤ 8 := by simpa [mayS] using hs
    by_cases h1 : (n : Int) < 32 * size
    · refine (rtakes_short A n c size w hs h1).mono ?_
      rintro e w' ⟨rfl, rfl⟩
      refine ⟨none, 0, 0, ?_, ?_, Below.refl _ _⟩
      · unfold takesE
        rw [if_neg (by simp [hs]), hl, if_pos h1]
      · unfold takesR
        rw [if_neg (fun h => by have := h.2.1; omega)]
        exact OwnR.nil _ _
    · by_cases h2 : 32 * size < (n : Int)
      · refine (rtakes_long A n c size w hs h2).mono ?_
        rintro e w' ⟨rfl, rfl⟩
        refine ⟨none, 0, 0, ?_, ?_, Below.refl _ _⟩
        · unfold takesE
          rw [if_neg (by simp [hs]), hl, if_neg h1, if_pos h2]
        · unfold takesR
          rw [if_neg (fun h => by have := h.2.1; omega)]
          exact OwnR.nil _ _
      · obtain ⟨q, rfl⟩ : ∃ q : Nat, (q : Int) = size := ⟨size.toNat, by omega⟩
        have hn : n = 32 * q := by omega
        subst hn
        obtain ⟨b, off, rfl, hbB, _⟩ := h.2.2 (by omega)
        refine (rtakes_at B b off c zs q w h hbB hB hc (by omega) (by omega)).mono ?_
        rintro e w' ⟨A', n', c', rfl, ho, hw⟩
        refine ⟨A', n', c', ?_, ?_, hw⟩
        · have HE : takesE zs (q : Int) = if allOk zs q = true then 0 else 4 := by
            unfold takesE
            rw [if_neg (by simp [hs]), hl, if_neg h1, if_neg h2]
            rfl
          rw [HE]
        · unfold takesR
          rw [hl, Int.toNat_natCast]
          by_cases ha : allOk zs q = true
          · rw [if_pos ha] at ho
            rw [if_pos ⟨hs, by omega, ha⟩]
            exact ho
          · rw [if_neg ha] at ho
            rw [if_neg (fun h => ha h.2.2)]
            exact ho
  · have hs' : mayS size = false := by simpa using hs
    refine (rtakes_bad A n c size w hs').mono ?_
    rintro e w' ⟨rfl, rfl⟩
    refine ⟨none, 0, 0, ?_, ?_, Below.refl _ _⟩
    · unfold takesE
      rw [if_pos hs']
    · unfold takesR
      rw [if_neg (fun h => hs h.1)]
      exact OwnR.nil _ _
def packE (n : Nat) (size : Int) : Int := if mayS size = false then 1 else if size < (n : Int) then 5 else 0
def packB (rs : List R) (size : Int) : List Int := if mayS size = true ∧ (rs.length : Int) ≤ size then packs (pad rs size.toNat) else []
theorem takesR_wf (zs : List Int) (size : Int) : ∀ r ∈ takesR zs size, r.wf := by
  unfold takesR
  split
  · exact recsOf_wf _ _
  · exact fun r hr => absurd hr (by simp)
theorem takesR_length (zs : List Int) (size : Int) : (takesR zs size).length ≤ 8 := by
  unfold takesR
  split
  · rename_i h
    have hb : 1 ≤ size ∧ size ≤ 8 := by simpa [mayS] using h.1
    rw [recsOf_length]
    omega
  · simp
def sizeV (size : Int) : Int := 32 * max 0 (min size 8) + 16
end Go.Proofs.YtjelacblnjbfgaaGreatDoor.Rs
namespace Go.Proofs.YtjelacblnjbfgaaGreatDoor.Cc
open Go.Proofs.YtjelacblnjbfgaaGreatDoor.Sum
def lft (x : Int) (n : Nat) : Int := rotI x (32 - n)
def qr (a b c d : Int) : Int × Int × Int × Int :=
  let a1 := addI a b
  let d1 := lft (xorI d a1) 16
  let c1 := addI c d1
  let b1 := lft (xorI b c1) 12
  let a2 := addI a1 b1
  let d2 := lft (xorI d1 a2) 8
  let c2 := addI c1 d2
  let b2 := lft (xorI b1 c2) 7
  (a2, b2, c2, d2)
def at4 (s : List Int) (i j k l : Nat) : List Int :=
  let q := qr (s.getD i 0) (s.getD j 0) (s.getD k 0) (s.getD l 0)
  (((s.set i q.1).set j q.2.1).set k q.2.2.1).set l q.2.2.2
def columns (s : List Int) : List Int := at4 (at4 (at4 (at4 s 0 4 8 12) 1 5 9 13) 2 6 10 14) 3 7 11 15
def diagonals (s : List Int) : List Int := at4 (at4 (at4 (at4 s 0 5 10 15) 1 6 11 12) 2 7 8 13) 3 4 9 14
def twice (s : List Int) : List Int := diagonals (columns s)
def turns : Nat → List Int → List Int
  | 0, s => s
  | n + 1, s => twice (turns n s)
def lew (bs : List Int) (t : Nat) : Int := ((bs.getD (4 * t + 3) 0 * 256 + bs.getD (4 * t + 2) 0) * 256 + bs.getD (4 * t + 1) 0) * 256 + bs.getD (4 * t) 0
def sigma : List Int := [0x61707865, 0x3320646e, 0x79622d32, 0x6b206574]
def first (key : List Int) (ctr : Int) (nonce : List Int) : List Int := sigma ++ ((List.range 8).map (lew key) ++ (ctr :: (List.range 3).map (lew nonce)))
def byteOf (v s : List Int) (i : Nat) : Int := addI (v.getD (i / 4) 0) (s.getD (i / 4) 0) / 2 ^ (8 * (i % 4)) % 256
def block (key : List Int) (ctr : Int) (nonce : List Int) : List Int := (List.range 64).map (byteOf (turns 10 (first key ctr nonce)) (first key ctr nonce))
def streamAt (key : List Int) (ctr : Int) (nonce : List Int) (i : Nat) : Int := (block key (addI ctr ((i / 64 : Nat) : Int)) nonce).getD (i % 64) 0
def xors (key nonce : List Int) (ctr : Int) (bs : List Int) : List Int := (List.range bs.length).map fun i => bits .xor .u8 (bs.getD i 0) (streamAt key ctr nonce i)
theorem r32_lft (x : Int) (n : Nat) : R32 (lft x n) := r32_rot _ _
theorem r32_qr (a b c d : Int) : R32 (qr a b c d).1 ∧ R32 (qr a b c d).2.1 ∧ R32 (qr a b c d).2.2.1 ∧ R32 (qr a b c d).2.2.2 := ⟨r32_add _ _, r32_lft _ _, r32_add _ _, r32_lft _ _⟩
def Sixteen (s : List Int) : Prop := s.length = 16 ∧ ∀ z ∈ s, R32 z
theorem Sixteen.at4 {s : List Int} (h : Sixteen s) (i j k l : Nat) : Sixteen (at4 s i j k l) := by
  refine ⟨by simp [Cc.at4, h.1], fun z hz => ?_⟩
  obtain ⟨q1, q2, q3, q4⟩ := r32_qr (s.getD i 0) (s.getD j 0) (s.getD k 0) (s.getD l 0)
  rcases List.mem_or_eq_of_mem_set hz with hz | rfl
  · rcases List.mem_or_eq_of_mem_set hz with hz | rfl
    · rcases List.mem_or_eq_of_mem_set hz with hz | rfl
      · rcases List.mem_or_eq_of_mem_set hz with hz | rfl
        · exact h.2 z hz
        · exact q1
      · exact q2
    · exact q3
  · exact q4
attribute [irreducible] at4
theorem Sixteen.twice {s : List Int} (h : Sixteen s) : Sixteen (twice s) := by
  unfold Cc.twice diagonals columns
  exact (((((((h.at4 _ _ _ _).at4 _ _ _ _).at4 _ _ _ _).at4 _ _ _ _).at4 _ _ _ _).at4 _ _ _ _).at4 _ _ _ _).at4 _ _ _ _
theorem Sixteen.turns {s : List Int} (h : Sixteen s) : ∀ n, Sixteen (turns n s)
  | 0 => h
  | n + 1 => (Sixteen.turns h n).twice
theorem Sixteen.get {s : List Int} (h : Sixteen s) {i : Nat} (hi : i < 16) : R32 (s.getD i 0) := by
  have hl : i < s.length := by rw [h.1]; exact hi
  rw [List.getD_eq_getElem?_getD, List.getElem?_eq_getElem hl]
  exact h.2 _ (List.getElem_mem hl)
theorem r32_lew {bs : List Int} (h : Bs bs) (t : Nat) : R32 (lew bs t) := by
  have h0 := h.at_ (4 * t)
  have h1 := h.at_ (4 * t + 1)
  have h2 := h.at_ (4 * t + 2)
  have h3 := h.at_ (4 * t + 3)
  unfold R32 lew
  omega
theorem first_length (key : List Int) (ctr : Int) (nonce : List Int) : (first key ctr nonce).length = 16 := by simp [first, sigma]
theorem sixteen_first {key nonce : List Int} {ctr : Int} (hk : Bs key) (hn : Bs nonce) (hc : R32 ctr) : Sixteen (first key ctr nonce) := by
  refine ⟨first_length _ _ _, fun z hz => ?_⟩
  rcases List.mem_append.1 hz with h | h
  · have : ∀ z ∈ sigma, R32 z := by unfold R32; decide
    exact this z h
  · rcases List.mem_append.1 h with h | h
    · obtain ⟨t, _, rfl⟩ := List.mem_map.1 h
      exact r32_lew hk t
    · rcases List.mem_cons.1 h with rfl | h
      · exact hc
      · obtain ⟨t, _, rfl⟩ := List.mem_map.1 h
        exact r32_lew hn t
theorem block_length (key : List Int) (ctr : Int) (nonce : List Int) : (block key ctr nonce).length = 64 := by simp [block]
theorem byteOf_bound (v s : List Int) (i : Nat) : 0 ≤ byteOf v s i ∧ byteOf v s i ≤ 255 := by unfold byteOf; omega
theorem block_bytes (key : List Int) (ctr : Int) (nonce : List Int) : Bs (block key ctr nonce) := fun z hz => by
  obtain ⟨i, _, rfl⟩ := List.mem_map.1 hz
  exact byteOf_bound _ _ _
theorem xors_length (key nonce : List Int) (ctr : Int) (bs : List Int) : (xors key nonce ctr bs).length = bs.length := by simp [xors]
end Go.Proofs.YtjelacblnjbfgaaGreatDoor.Cc
namespace Go.Proofs.YtjelacblnjbfgaaGreatDoor.Cc
open Go.Proofs.YtjelacblnjbfgaaGreatDoor.Sum
def rn (a m : Nat) : Nat := a / 2 ^ m ||| a * 2 ^ (32 - m) % 4294967296
end Go.Proofs.YtjelacblnjbfgaaGreatDoor.Cc
namespace Go.Proofs.YtjelacblnjbfgaaGreatDoor.Cc
open Go.Proofs.YtjelacblnjbfgaaGreatDoor.Sum
theorem stream_bound (key : List Int) (ctr : Int) (nonce : List Int) (i : Nat) : 0 ≤ streamAt key ctr nonce i ∧ streamAt key ctr nonce i ≤ 255 := (block_bytes key (addI ctr ((i / 64 : Nat) : Int)) nonce).at_ (i % 64)
theorem byte_back {x s : Int} (hx : 0 ≤ x ∧ x ≤ 255) (hs : 0 ≤ s ∧ s ≤ 255) : bits .xor .u8 (bits .xor .u8 x s) s = x := by
  have h1 : x.toNat < 256 := by omega
  have h2 : s.toNat < 256 := by omega
  have h3 : x.toNat ^^^ s.toNat < 2 ^ 8 := Nat.xor_lt_two_pow h1 h2
  rw [u8_xor x s (by omega) (by omega) (by omega) (by omega), u8_xor _ s (by omega) (by omega) (by omega) (by omega), Int.toNat_natCast, Nat.xor_assoc, Nat.xor_self, Nat.xor_zero]
  omega
theorem byte_xor_bound {x s : Int} (hx : 0 ≤ x ∧ x ≤ 255) (hs : 0 ≤ s ∧ s ≤ 255) : 0 ≤ bits .xor .u8 x s ∧ bits .xor .u8 x s ≤ 255 := by
  have h3 : x.toNat ^^^ s.toNat < 2 ^ 8 := Nat.xor_lt_two_pow (show x.toNat < 2 ^ 8 by omega) (show s.toNat < 2 ^ 8 by omega)
  rw [u8_xor x s (by omega) (by omega) (by omega) (by omega)]
  omega
theorem xors_get (key nonce : List Int) (ctr : Int) (bs : List Int) {i : Nat} (hi : i < bs.length) : (xors key nonce ctr bs).getD i 0 = bits .xor .u8 (bs.getD i 0) (streamAt key ctr nonce i) := by
  simp [xors, List.getD_eq_getElem?_getD, hi]
theorem xors_bytes (key nonce : List Int) (ctr : Int) {bs : List Int} (h : Bs bs) : Bs (xors key nonce ctr bs) := fun z hz => by
  obtain ⟨i, _, rfl⟩ := List.mem_map.1 hz
  exact byte_xor_bound (h.at_ i) (stream_bound _ _ _ _)
theorem list_eq {xs ys : List Int} (hl : xs.length = ys.length) (h : ∀ i, i < xs.length → xs.getD i 0 = ys.getD i 0) : xs = ys := by
  apply List.ext_getElem hl
  intro i h1 h2
  have := h i h1
  simpa [List.getD_eq_getElem?_getD, h1, h2] using this
theorem xors_back (key nonce : List Int) (ctr : Int) {bs : List Int} (h : Bs bs) : xors key nonce ctr (xors key nonce ctr bs) = bs := by
  refine list_eq (by rw [xors_length, xors_length]) fun i hi => ?_
  rw [xors_length, xors_length] at hi
  rw [xors_get _ _ _ _ (by rw [xors_length]; exact hi), xors_get _ _ _ _ hi, byte_back (h.at_ i) (stream_bound _ _ _ _)]
theorem getD_left {xs ys : List Int} {i : Nat} (h : i < xs.length) : (xs ++ ys).getD i 0 = xs.getD i 0 := by simp [List.getD_eq_getElem?_getD, List.getElem?_append_left h]
theorem getD_last {xs : List Int} {y : Int} {i : Nat} (h : i = xs.length) : (xs ++ [y]).getD i 0 = y := by subst h; simp [List.getD_eq_getElem?_getD]
theorem xors_snoc (key nonce : List Int) (c : Int) (bs : List Int) {k : Nat} (hk : k < bs.length) : xors key nonce c (bs.take (k + 1)) = xors key nonce c (bs.take k) ++ [bits .xor .u8 (bs.getD k 0) (streamAt key c nonce k)] := by
  have l1 : (bs.take (k + 1)).length = k + 1 := by rw [List.length_take]; omega
  have l0 : (bs.take k).length = k := by rw [List.length_take]; omega
  refine list_eq (by rw [xors_length, List.length_append, xors_length, l1, l0]; rfl) fun i hi => ?_
  rw [xors_length, l1] at hi
  rw [xors_get _ _ _ _ (by omega)]
  have e1 : (bs.take (k + 1)).getD i 0 = bs.getD i 0 := by simp [List.getD_eq_getElem?_getD, hi]
  rw [e1]
  by_cases h : i < k
  · rw [getD_left (by rw [xors_length, l0]; exact h), xors_get _ _ _ _ (by omega)]
    congr 1
    simp [List.getD_eq_getElem?_getD, h]
  · have e : i = k := by omega
    subst e
    rw [getD_last (by rw [xors_length, l0])]
end Go.Proofs.YtjelacblnjbfgaaGreatDoor.Cc
namespace Go.Proofs.YtjelacblnjbfgaaGreatDoor.Ae
open Go.Proofs.YtjelacblnjbfgaaGreatDoor.Sum Po
def padN (n : Nat) : Nat := (16 - n % 16) % 16
def padL (b : List Int) : List Int := b ++ List.replicate (padN b.length) 0
theorem padN_whole (n : Nat) : (n + padN n) % 16 = 0 := by unfold padN; omega
theorem padN_lt (n : Nat) : padN n < 16 := by unfold padN; omega
theorem padL_length (b : List Int) : (padL b).length = b.length + padN b.length := by simp [padL]
theorem padL_bytes {b : List Int} (h : Bs b) : Bs (padL b) := fun z hz => by
  rcases List.mem_append.1 hz with h1 | h1
  · exact h z h1
  · rw [List.eq_of_mem_replicate h1]; omega
def text (aad c : List Int) : List Int := padL aad ++ padL c ++ digits (aad.length : Int) 8 ++ digits (c.length : Int) 8
def macKey (key nonce : List Int) : List Int := (Cc.block key 0 nonce).take 32
def aeTag (key nonce aad c : List Int) : List Int := poly (macKey key nonce) (text aad c)
def sealed (key nonce aad plain : List Int) : List Int := Cc.xors key nonce 1 plain ++ aeTag key nonce aad (Cc.xors key nonce 1 plain)
def opened (key nonce aad b : List Int) : Option (List Int) :=
  if aeTag key nonce aad (b.take (b.length - 16)) = b.drop (b.length - 16) then some (Cc.xors key nonce 1 (b.take (b.length - 16))) else none
theorem macKey_length (key nonce : List Int) : (macKey key nonce).length = 32 := by simp [macKey, Cc.block_length]
theorem macKey_bytes (key nonce : List Int) : Bs (macKey key nonce) := fun z hz => Cc.block_bytes _ _ _ z (List.mem_of_mem_take hz)
theorem text_bytes {aad c : List Int} (ha : Bs aad) (hc : Bs c) : Bs (text aad c) := fun z hz => by
  rcases List.mem_append.1 hz with hz | hz
  · rcases List.mem_append.1 hz with hz | hz
    · rcases List.mem_append.1 hz with hz | hz
      · exact padL_bytes ha z hz
      · exact padL_bytes hc z hz
    · exact digits_bytes _ _ z hz
  · exact digits_bytes _ _ z hz
theorem text_length (aad c : List Int) : (text aad c).length ≤ aad.length + c.length + 48 := by
  have h1 := padN_lt aad.length
  have h2 := padN_lt c.length
  simp only [text, List.length_append, padL_length, digits_length]
  omega
theorem aeTag_length (key nonce aad c : List Int) : (aeTag key nonce aad c).length = 16 := poly_length _ _
theorem aeTag_bytes (key nonce aad c : List Int) : Bs (aeTag key nonce aad c) := poly_bytes _ _
theorem sealed_length (key nonce aad plain : List Int) : (sealed key nonce aad plain).length = plain.length + 16 := by rw [sealed, List.length_append, Cc.xors_length, aeTag_length]
theorem opened_sealed (key nonce aad : List Int) {plain : List Int} (h : Bs plain) : opened key nonce aad (sealed key nonce aad plain) = some plain := by
  have hl : (sealed key nonce aad plain).length - 16 = (Cc.xors key nonce 1 plain).length := by rw [sealed_length, Cc.xors_length]; omega
  have ht : (sealed key nonce aad plain).take ((sealed key nonce aad plain).length - 16) = Cc.xors key nonce 1 plain := by rw [hl, sealed, List.take_left' rfl]
  have hd : (sealed key nonce aad plain).drop ((sealed key nonce aad plain).length - 16) = aeTag key nonce aad (Cc.xors key nonce 1 plain) := by rw [hl, sealed, List.drop_left' rfl]
  rw [opened, ht, hd, if_pos rfl, Cc.xors_back key nonce 1 h]
end Go.Proofs.YtjelacblnjbfgaaGreatDoor.Ae
namespace Go.Proofs.YtjelacblnjbfgaaGreatDoor.Po
open Go.RowKit Go.Shelf Mem Go.Proofs.YtjelacblnjbfgaaGreatDoor.Sum
attribute [local irreducible] wpList wpListIn
theorem info_16b : (Tryz.prog.info? 58).map (·.size) = some 16 := by kernel_rfl
theorem info_17 : (Tryz.prog.info? 113).map (·.size) = some 17 := by kernel_rfl
theorem info_num : (Tryz.prog.info? 111).map (·.size) = some 5 := by kernel_rfl
theorem info_ten : (Tryz.prog.info? 116).map (·.size) = some 10 := by kernel_rfl
theorem info_u8 : (Tryz.prog.info? 5).map (·.size) = some 1 := by kernel_rfl
theorem info_u64 : (Tryz.prog.info? 23).map (·.size) = some 1 := by kernel_rfl
theorem zero_16b : (Tryz.prog.info? 58).bind (·.zero) = some (.agg (arr .u8 (List.replicate 16 0))) := by kernel_rfl
theorem zero_17 : (Tryz.prog.info? 113).bind (·.zero) = some (.agg (arr .u8 (List.replicate 17 0))) := by kernel_rfl
theorem zero_num : (Tryz.prog.info? 111).bind (·.zero) = some (.agg (arr .u64 (List.replicate 5 0))) := by kernel_rfl
theorem zero_ten : (Tryz.prog.info? 116).bind (·.zero) = some (.agg (arr .u64 (List.replicate 10 0))) := by kernel_rfl
set_option maxRecDepth 100000 in
theorem clamp_any (key : List Int) (w : World) (hk : key.length = 32) (hkb : Bs key) (hT : TabK w 0 .u8 keptI) :
    Calls Tryz.prog 82 #[.agg (arr .u8 key)] w fun e w' => e = .returned (.agg (arr .u8 (clamp key))) ∧ Below w.heap.size w w' := by
  have HK := Lib.hid hk
  have HC := Lib.hid (fun i (h : i < 16) => clamp_kept hkb h)
  have HL := Lib.hid (clamp_length key)
  have HW := Lib.hid (bs_wf (clamp_bytes hkb))
  have HT := Lib.hid (show (key.take 16).length = 16 by simp [hk])
  have HG := Lib.hid (fun i (h : i < 16) => show (key.take 16).getD i 0 = key.getD i 0 by simp [List.getD_eq_getElem?_getD, h])
  clear hk
  go_enter Tryz.func82, Tryz.ntmps82
  go_wp2_with (first
    | (refine wpList_box_Row (w := w) rfl 22 _ rfl .u8 key rfl (bs_wf hkb) ?_; intro w1 r1 g1 z1)
    | (refine wpList_alloc_Row (w := w1) rfl 58 rfl .u8 16 zero_16b ?_; intro w2 r2 g2 z2; have p2 := r1.grown g2 (by simp); have hsl : ∀ W, (Instr.sliceAt 22 (.pointer (some ⟨w.heap.size, 0, none⟩)) none (some (.int .i64 16)) none).run Tryz.prog W = .ok (.slice (some ⟨w.heap.size, 0, none⟩) 16 32) W := fun W => Held.run_slice_arr_h (P := Tryz.prog) 22 5 32 w.heap.size 16 W Tryz.underlying22 (by kernel_rfl) (by omega) (by omega))
    | (refine wpList_arrayAt rfl 58 _ rfl _ 16 32 16 5 rfl Tryz.underlying58 (by omega) ?_)
    | (refine wpList_load_midRow (w := w2) rfl 58 _ rfl w.heap.size 0 rfl 22 .u8 key p2 16 5 Tryz.underlying58 info_16b (by rw [HK.out]; omega) ?_)
    | (refine wpList_alloc_Row (w := w2) rfl 58 rfl .u8 16 zero_16b ?_; intro w3 r3 g3 z3)
    | (refine wpList_store_RowTo (w := w3) rfl 58 _ _ rfl w2.heap.size rfl 58 .u8 _ (key.take 16) rfl r3 16 info_16b HT.out (by simp) (fun z hz => bs_wf hkb z (List.mem_of_mem_take hz)) ?_; intro w4 r4 g4 z4))
  obtain ⟨gr, hgr⟩ : ∃ g, w1.heap.size = g := ⟨_, rfl⟩
  obtain ⟨ga, hga⟩ : ∃ g, w2.heap.size = g := ⟨_, rfl⟩
  have l1 := r1.lt
  have l2 := r2.lt
  have l3 := r3.lt
  have s4 := g4.size
  have b4 : Below w.heap.size w w4 := ((((Below.refl _ w).grown g1 (Nat.le_refl _) (by simp)).grown g2 g1.size (by simp)).grown g3 (by omega) (by simp)).grown g4 (by omega) (fun r e => by cases e; omega)
  have e4 := (r2.grown g3 (by simp)).grown g4 (by intro e; injection e with e; omega)
  rw [hgr] at l2 e4
  rw [hga] at l2 l3 r4 ⊢
  rw [hgr]
  have hwa : w.heap.size < ga := by omega
  have hra : gr < ga := l2
  have hwr : w.heap.size < gr := by omega
  clear hgr hga r1 r2 r3 g1 g2 g3 g4 z1 z2 z3 z4 p2 hsl l1 l2 l3 s4
  go_loopw [8] (fun i wr => ∃ k : Nat, k ≤ 16 ∧ i = .int .i64 k ∧ Below w.heap.size w wr ∧ Row wr gr 58 .u8 (List.replicate 16 0) ∧ Row wr ga 58 .u8 (blend (clamp key) (key.take 16) k)) (fun i _ => 16 - (intOf i).toNat)
  case atStart => exact ⟨0, by omega, rfl, b4, e4, by rw [blend_zero]; exact r4⟩
  case round =>
    clear b4 e4 r4
    obtain ⟨k, hk, rfl, hbl, er, ar⟩ := hrel
    have hk0 : (0 : Int) ≤ (k : Int) := by omega
    by_cases hlt : k < 16
    · have hlt' : (k : Int) < 16 := by omega
      have hLen : (clamp key).length = (key.take 16).length := by rw [HL.out, HT.out]
      have ca := ar.cell (i := k) (by rw [blend_length hLen, HT.out]; exact hlt)
      have ck := (hT.below hbl hT.lt).cell (i := k) hlt
      rw [blend_get hLen (by rw [HT.out]; exact hlt), HG.out k hlt] at ca
      have fa := ar.frozen k
      have HS := Lib.hid (show Row (wr.setCell ⟨ga, k, none⟩ (.int .u8 ((clamp key).getD k 0))) ga 58 .u8 (blend (clamp key) (key.take 16) (k + 1)) by
        rw [← blend_set hLen (by rw [HT.out]; exact hlt)]
        exact ar.set k (HW.out _ (by rw [List.getD_eq_getElem?_getD, List.getElem?_eq_getElem (by rw [HL.out]; exact hlt)]; exact List.getElem_mem _)))
      have HE := er.other (p := ⟨ga, k, none⟩) (by simp; omega) (.int .u8 ((clamp key).getD k 0))
      have hand := HC.out k hlt
      have HB := Lib.hid (hbl.setCell (p := ⟨ga, k, none⟩) (by simp; omega) (.int .u8 ((clamp key).getD k 0)))
      generalize (clamp key).getD k 0 = x at *
      generalize key.getD k 0 = y at *
      generalize keptI.getD k 0 = z at *
      clear hLen ar er hbl
      go_wp2_with fail
      go_still_tail 8, (by kernel_rfl)
      change wpList _ _ _ _ _ wr.drew
      go_wp2_with fail
      go_roundw
      case rel => exact ⟨k + 1, by omega, by go_num, HB.out.drew, HE, HS.out⟩
      case measure => simp [intOf]; omega
    · have hk16 : k = 16 := by omega
      subst hk16
      have hz : blend (clamp key) (key.take 16) 16 = clamp key := by
        have := blend_all (F := clamp key) (a := key.take 16) (by rw [HL.out, HT.out])
        rwa [HT.out] at this
      rw [hz] at ar
      clear hz hk0 hlt
      go_wp2_with (first
        | (refine wpList_load_Row (w := wr) rfl 58 _ rfl ga rfl 58 .u8 _ ar 16 5 Tryz.underlying58 info_16b HL.out ?_)
        | (refine wpList_store_RowTo (w := wr) rfl 58 _ _ rfl gr rfl 58 .u8 _ (clamp key) rfl er 16 info_16b HL.out (by simp) HW.out ?_; intro w8 q8 g8 z8))
      refine bodyPost_ret (results_Row rfl _ _ gr _ _ _ rfl q8 16 5 Tryz.underlying58 info_16b HL.out) rfl ?_
      exact ⟨rfl, hbl.grown g8 hbl.size (fun r e => by cases e; omega)⟩
theorem laid_half {half : List Int} (h : half.length = 16) : laidOver (List.replicate 17 0) 0 half = half ++ [0] := by simp [laidOver, h]
set_option maxRecDepth 100000 in
theorem without_any (half : List Int) (w : World) (hh : half.length = 16) (hb : Bs half) :
    Calls Tryz.prog 81 #[.agg (arr .u8 half)] w fun e w' => e = .returned (.agg (arr .u8 (half ++ [0]))) ∧ Below w.heap.size w w' := by
  have HH := Lib.hid hh
  have HL := Lib.hid (show (half ++ [0]).length = 17 by simp [hh])
  have HW := Lib.hid (show ∀ z ∈ half ++ [0], (Lit.int .u8 z).wf = true from bs_wf (fun z hz => by
    rcases List.mem_append.1 hz with h | h
    · exact hb z h
    · rw [List.mem_singleton.1 h]; omega))
  have HO := Lib.hid (laid_half hh)
  clear hh
  go_enter Tryz.func81, Tryz.ntmps81
  go_wp2_with (first
    | (refine wpList_box_Row (w := w) rfl 58 _ rfl .u8 half rfl (bs_wf hb) ?_; intro w1 r1 g1 z1)
    | (refine wpList_alloc_Row (w := w1) rfl 113 rfl .u8 17 zero_17 ?_; intro w2 r2 g2 z2)
    | (refine wpList_alloc_Row (w := w2) rfl 113 rfl .u8 17 zero_17 ?_; intro w3 r3 g3 z3))
  obtain ⟨gr, hgr⟩ : ∃ g, w1.heap.size = g := ⟨_, rfl⟩
  obtain ⟨gp, hgp⟩ : ∃ g, w2.heap.size = g := ⟨_, rfl⟩
  have l1 := r1.lt
  have l2 := r2.lt
  have b3 : Below w.heap.size w w3 := (((Below.refl _ w).grown g1 (Nat.le_refl _) (by simp)).grown g2 g1.size (by simp)).grown g3 (by omega) (by simp)
  have e3 := r2.grown g3 (by simp)
  have h3 := (r1.grown g2 (by simp)).grown g3 (by simp)
  rw [hgr] at l1 l2 e3
  rw [hgp] at l2 r3
  rw [hgr, hgp]
  clear hgr hgp r1 r2 g1 g2 g3 z1 z2 z3
  have ih := h3.ints (n := 16) (by rw [HH.out]; omega)
  simp only [Act.put, Z1, Z2, Z3]
  refine wp_region_held (S := fun _ => True) (by kernel_rfl) ?_
  change wpAnyH _ _ _ _ _ _ _ _ w3.drew
  have c0 : True := trivial
  refine Held.tk (v := .slice (some ⟨gp, 0, none⟩) 17 17) 0 (some 4) rfl (Held.y_slice rfl (fun W => run_slice_arr_all (P := Tryz.prog) 113 5 17 gp W Tryz.underlying113 (by kernel_rfl) (by omega))) c0 ?_
  simp only [Act.put, Z1, Z2, Z3]
  refine Held.tk (v := .slice (some ⟨w.heap.size, 0, none⟩) 16 16) 1 (some 5) rfl (Held.y_slice rfl (fun W => run_slice_arr_all (P := Tryz.prog) 58 5 16 w.heap.size W Tryz.underlying58 (by kernel_rfl) (by omega))) c0 ?_
  simp only [Act.put, Z1, Z2, Z3]
  refine Held.one 2 (by kernel_rfl) ?_
  refine Held.op_copy_Row 2 (some 6) 27 27 rfl rfl rfl rfl 5 Tryz.underlying27 info_u8 gp 0 17 17 w3.heap.size (some ⟨w.heap.size, 0, none⟩) 16 16 rfl rfl 113 .u8 _ (half.take 16) r3 ih (by simp) ?_
  intro w5 r5 g5'
  have g5 : w3.grownBy w5 (some gp) := ⟨g5'.os, g5'.tape, g5'.output, g5'.size, g5'.block⟩
  clear g5'
  rw [show min 16 17 = 16 from rfl, List.take_take, Nat.min_self, List.take_of_length_le (by rw [HH.out]; omega), HO.out] at r5
  refine ⟨trivial, ?_⟩
  simp only [Act.put, Z1, Z2, Z3]
  refine wpAnyH_done (by kernel_rfl) ?_ _
  rw [show ((min 16 17 : Nat) : Int) = 16 from rfl]
  have b5 : Below w.heap.size w w5 := b3.grown g5 b3.size (fun r e => by cases e; omega)
  have e5 := e3.grown g5 (by intro e; injection e with e; omega)
  clear b3 e3 h3 r3 ih g5
  go_wp2_with (first
    | (refine wpList_load_Row (w := w5) rfl 113 _ rfl gp rfl 113 .u8 _ r5 17 5 Tryz.underlying113 info_17 HL.out ?_)
    | (refine wpList_store_RowTo (w := w5) rfl 113 _ _ rfl gr rfl 113 .u8 _ (half ++ [0]) rfl e5 17 info_17 HL.out (by simp) HW.out ?_; intro w8 q8 g8 z8))
  refine bodyPost_ret (results_Row rfl _ _ gr _ _ _ rfl q8 17 5 Tryz.underlying113 info_17 HL.out) rfl ?_
  exact ⟨rfl, b5.grown g8 b5.size (fun r e => by cases e; omega)⟩
theorem addL_length {a b : List Int} (ha : a.length = 5) (hb : b.length = 5) : (addL a b).length = 5 := by simp [addL, ha, hb]
theorem addL_get {a b : List Int} (ha : a.length = 5) (hb : b.length = 5) {i : Nat} (hi : i < 5) : (addL a b).getD i 0 = a.getD i 0 + b.getD i 0 := by
  have h1 : i < a.length := by omega
  have h2 : i < b.length := by omega
  simp [addL, List.getD_eq_getElem?_getD, List.getElem?_zipWith, h1, h2]
theorem addL_bound {a b : List Int} {A B : Int} (ha : ∀ x ∈ a, 0 ≤ x ∧ x < A) (hb : ∀ x ∈ b, 0 ≤ x ∧ x < B) : ∀ x ∈ addL a b, 0 ≤ x ∧ x < A + B := by
  intro x hx
  obtain ⟨i, hi, rfl⟩ := List.mem_iff_getElem.1 hx
  simp only [addL, List.length_zipWith] at hi
  simp only [addL, List.getElem_zipWith]
  have h1 := ha _ (List.getElem_mem (show i < a.length by omega))
  have h2 := hb _ (List.getElem_mem (show i < b.length by omega))
  omega
set_option maxRecDepth 100000 in
theorem plus_any (a b : List Int) (w : World) (ha : a.length = 5) (hb : b.length = 5) (hab : ∀ x ∈ a, 0 ≤ x ∧ x < 9223372036854775808) (hbb : ∀ x ∈ b, 0 ≤ x ∧ x < 9223372036854775808) :
    Calls Tryz.prog 86 #[.agg (arr .u64 a), .agg (arr .u64 b)] w fun e w' => e = .returned (.agg (arr .u64 (addL a b))) ∧ Below w.heap.size w w' := by
  have HA := Lib.hid ha
  have HB := Lib.hid hb
  have HL := Lib.hid (addL_length ha hb)
  have HF := Lib.hid (fun i (h : i < 5) => addL_get ha hb h)
  have HW := Lib.hid (show ∀ z ∈ addL a b, (Lit.int .u64 z).wf = true from fun z hz => wf_64 (by have := addL_bound hab hbb z hz; omega))
  have HAB := Lib.hid (fun i => getD_range (P := fun x => 0 ≤ x ∧ x < 9223372036854775808) hab (by omega) i)
  have HBB := Lib.hid (fun i => getD_range (P := fun x => 0 ≤ x ∧ x < 9223372036854775808) hbb (by omega) i)
  have haw : ∀ z ∈ a, (Lit.int .u64 z).wf = true := fun z hz => wf_64 (by have := hab z hz; omega)
  have hbw : ∀ z ∈ b, (Lit.int .u64 z).wf = true := fun z hz => wf_64 (by have := hbb z hz; omega)
  clear ha hb hab hbb
  go_enter Tryz.func86, Tryz.ntmps86
  go_wp2_with (first
    | (refine wpList_box_Row (w := w) rfl 111 _ rfl .u64 a rfl haw ?_; intro w1 r1 g1 z1)
    | (refine wpList_box_Row (w := w1) rfl 111 _ rfl .u64 b rfl hbw ?_; intro w2 r2 g2 z2)
    | (refine wpList_alloc_Row (w := w2) rfl 111 rfl .u64 5 zero_num ?_; intro w3 r3 g3 z3))
  obtain ⟨gb, hgb⟩ : ∃ g, w1.heap.size = g := ⟨_, rfl⟩
  obtain ⟨gr, hgr⟩ : ∃ g, w2.heap.size = g := ⟨_, rfl⟩
  have l1 := r1.lt
  have l2 := r2.lt
  have b3 : Below w.heap.size w w3 := (((Below.refl _ w).grown g1 (Nat.le_refl _) (by simp)).grown g2 g1.size (by simp)).grown g3 (by omega) (by simp)
  have p3 := (r1.grown g2 (by simp)).grown g3 (by simp)
  have q3 := r2.grown g3 (by simp)
  rw [hgb] at l1 l2 q3
  rw [hgr] at l2 r3
  rw [hgb, hgr]
  clear hgb hgr r1 r2 g1 g2 g3 z1 z2 z3
  go_loopw [6] (fun i wr => ∃ k : Nat, k ≤ 5 ∧ i = .int .i64 k ∧ Below w.heap.size w wr ∧ Row wr w.heap.size 111 .u64 (blend (addL a b) a k) ∧ Row wr gb 111 .u64 b ∧ Row wr gr 111 .u64 (List.replicate 5 0)) (fun i _ => 5 - (intOf i).toNat)
  case atStart => exact ⟨0, by omega, rfl, b3, by rw [blend_zero]; exact p3, q3, r3⟩
  case round =>
    clear b3 p3 q3 r3
    obtain ⟨k, hk, rfl, hbl, ar, br, er⟩ := hrel
    have hk0 : (0 : Int) ≤ (k : Int) := by omega
    by_cases hlt : k < 5
    · have hlt' : (k : Int) < 5 := by omega
      have hLen : (addL a b).length = a.length := by rw [HL.out, HA.out]
      have ca := ar.cell (i := k) (by rw [blend_length hLen, HA.out]; exact hlt)
      have cb := br.cell (i := k) (by rw [HB.out]; exact hlt)
      rw [blend_get hLen (by rw [HA.out]; exact hlt)] at ca
      have fa := ar.frozen k
      have HS := Lib.hid (show Row (wr.setCell ⟨w.heap.size, k, none⟩ (.int .u64 ((addL a b).getD k 0))) w.heap.size 111 .u64 (blend (addL a b) a (k + 1)) by
        rw [← blend_set hLen (by rw [HA.out]; exact hlt)]
        exact ar.set k (HW.out _ (by rw [List.getD_eq_getElem?_getD, List.getElem?_eq_getElem (by rw [HL.out]; exact hlt)]; exact List.getElem_mem _)))
      have HE := er.other (p := ⟨w.heap.size, k, none⟩) (by simp; omega) (.int .u64 ((addL a b).getD k 0))
      have HE2 := br.other (p := ⟨w.heap.size, k, none⟩) (by simp; omega) (.int .u64 ((addL a b).getD k 0))
      have ha := HAB.out k
      have hb := HBB.out k
      have HBL := Lib.hid (hbl.setCell (p := ⟨w.heap.size, k, none⟩) (by simp) (.int .u64 ((addL a b).getD k 0)))
      rw [HF.out k hlt] at HS HE HE2 HBL
      generalize a.getD k 0 = x at *
      generalize b.getD k 0 = y at *
      clear hLen ar br er hbl
      have hadd : IntKind.u64.wrap (x + y) = x + y := IntWalk.u64_in _ (by omega)
      go_wp2_with fail
      go_still_tail 8, (by kernel_rfl)
      change wpList _ _ _ _ _ wr.drew
      go_wp2_with fail
      go_roundw
      case rel => exact ⟨k + 1, by omega, by go_num, HBL.out.drew, HS.out, HE2, HE⟩
      case measure => simp [intOf]; omega
    · have hk5 : k = 5 := by omega
      subst hk5
      have hz : blend (addL a b) a 5 = addL a b := by
        have := blend_all (F := addL a b) (a := a) (by rw [HL.out, HA.out])
        rwa [HA.out] at this
      rw [hz] at ar
      clear hz hk0 hlt
      go_wp2_with (first
        | (refine wpList_load_Row (w := wr) rfl 111 _ rfl w.heap.size rfl 111 .u64 _ ar 5 23 Tryz.underlying111 info_num HL.out ?_)
        | (refine wpList_store_RowTo (w := wr) rfl 111 _ _ rfl gr rfl 111 .u64 _ (addL a b) rfl er 5 info_num HL.out (by simp) HW.out ?_; intro w8 q8 g8 z8))
      refine bodyPost_ret (results_Row rfl _ _ gr _ _ _ rfl q8 5 23 Tryz.underlying111 info_num HL.out) rfl ?_
      exact ⟨rfl, hbl.grown g8 hbl.size (fun r e => by cases e; omega)⟩
end Go.Proofs.YtjelacblnjbfgaaGreatDoor.Po
namespace Go.Proofs.YtjelacblnjbfgaaGreatDoor.Ae
open Go.RowKit Go.Shelf Mem Help Go.Proofs.YtjelacblnjbfgaaGreatDoor.Sum Po
attribute [local irreducible] wpList wpListIn
theorem wpList_shr {P : Program} {ops : Array Oper} {rest : List Oper} {o : Oper} {a : Act} {w : World} {Q : Exit → Act → World → Prop} (hgd : o.guard = none) (t u : TypeId) (x y : Operand) (ho : o.op = .binOp .shr t x y u) (k k' : IntKind) (v r : Int) (n : Nat) (hx : a.eval x = .int k v) (hy : a.eval y = .int k' (n : Int)) (hn : n ≤ k.bits) (hr : v / 2 ^ n = r)
    (h : wpList P ops Q rest (a.put o.dst (.int k r)) w) : wpList P ops Q (o :: rest) a w := by
  refine wpList_plain hgd fun K hK => ?_
  unfold Oper.wp execOp
  simp [ho, hx, hy, Held.run_shr t k k' n hn hr]
  exact hK _ _ h
theorem digits_snoc (n : Int) {k : Nat} (hk : k < 8) : (digits n 8).take (k + 1) = (digits n 8).take k ++ [(digits n 8).getD k 0] := by
  rw [List.take_add_one, List.getD_eq_getElem?_getD, List.getElem?_eq_getElem (by rw [digits_length]; exact hk)]
  rfl
theorem digit_mem (n : Int) {k : Nat} (hk : k < 8) : (digits n 8).getD k 0 ∈ digits n 8 := by
  rw [List.getD_eq_getElem?_getD, List.getElem?_eq_getElem (by rw [digits_length]; exact hk)]
  exact List.getElem_mem _
theorem byte_at (n : Int) {k : Nat} (hk : k < 8) : n / 2 ^ (8 * k) % 256 = (digits n 8).getD k 0 := by
  rw [digits_get 8 n k hk, show (256 : Int) = 2 ^ 8 from rfl, ← Int.pow_mul]
theorem shifted_lt {n : Int} (h0 : 0 ≤ n) (hn : n < 72057594037927936) (k : Nat) : 0 ≤ n / 2 ^ (8 * k) ∧ n / 2 ^ (8 * k) < 72057594037927936 := by
  have hp : (0 : Int) < 2 ^ (8 * k) := Int.pow_pos (by omega)
  refine ⟨Int.ediv_nonneg h0 (by omega), Int.lt_of_le_of_lt (Int.ediv_le_self _ h0) hn⟩
set_option maxRecDepth 100000 in
set_option maxHeartbeats 4000000 in
theorem eight_any (n : Int) (w : World) (h0 : 0 ≤ n) (hn : n < 72057594037927936) :
    Calls Tryz.prog 65 #[.int .i64 n] w fun e w' => ∃ A c, e = .returned (.slice A 8 c) ∧ Mem.Own w' w.heap.size 5 .u8 (.slice A 8 c) (digits n 8) ∧ Below w.heap.size w w' := by
  go_enter Tryz.func65, Tryz.ntmps65
  go_wp2_with fail
  go_loopw [3, 4] (fun v i wr => ∃ k : Nat, k ≤ 8 ∧ i = .int .i64 k ∧ Mem.Own wr w.heap.size 5 .u8 v ((digits n 8).take k) ∧ Below w.heap.size w wr) (fun _ i _ => 8 - (intOf i).toNat)
  case atStart => exact ⟨0, by omega, rfl, Mem.Own.nil _ _ _ _, Below.refl _ _⟩
  case round =>
    obtain ⟨k, hk, rfl, hown, hb⟩ := hrel
    by_cases hlt : k < 8
    · have hlt' : (k : Int) < 8 := by omega
      have hk0 : (0 : Int) ≤ (k : Int) := by omega
      have W1 : IntKind.u64.wrap n = n := by rw [IntKind.wrap_u64]; omega
      have W2 : IntKind.i64.wrap (8 * (k : Int)) = ((8 * k : Nat) : Int) := by rw [IntKind.wrap_i64]; omega
      have W3 : IntKind.u64.wrap ((8 * k : Nat) : Int) = ((8 * k : Nat) : Int) := by rw [IntKind.wrap_u64]; omega
      obtain ⟨S0, S1⟩ := shifted_lt h0 hn k
      have HBY := Lib.hid (byte_at n hlt)
      obtain ⟨q, hq⟩ : ∃ q, n / 2 ^ (8 * k) = q := ⟨_, rfl⟩
      rw [hq] at S0 S1 HBY
      have HQ := Lib.hid hq
      clear hq
      have W4 : IntKind.u8.wrap q = (digits n 8).getD k 0 := by rw [← HBY.out, IntKind.wrap_u8]
      have HWF := Lib.hid (bs_wf (digits_bytes 8 n) _ (digit_mem n hlt))
      have HS := Lib.hid (digits_snoc n hlt)
      obtain ⟨z, hz⟩ : ∃ z, (digits n 8).getD k 0 = z := ⟨_, rfl⟩
      rw [hz] at W4 HS HWF
      have hsz := hb.size
      clear hlt
      go_wp2_with (first
        | (refine wpList_shr rfl 23 39 _ _ rfl .u64 .u64 n q (8 * k) rfl (by simp [Act.eval]) (by simp [IntKind.bits]; omega) HQ.out ?_)
        | (refine Held.wpList_build_row (w := wr) rfl 27 5 1 _ rfl .u8 1 [z] Tryz.underlying27 info_u8 (by simp [Act.eval]) rfl (by omega) (by omega) (by intro y hy; rw [List.mem_singleton.1 hy]; exact HWF.out) ?_; intro w3 r3 g3 z3; have o3 := hown.kept g3 (by cases u3.ownBlock <;> simp); have i3 : Ints w3 .u8 w3.heap.size (some ⟨wr.heap.size, 0, none⟩) 1 [z] := r3.ints (n := 1) (by simp))
        | (at_builtin; refine wpList_append_ints w3 rfl _ _ 27 rfl w.heap.size 5 .u8 1 Tryz.underlying27 info_u8 _ _ rfl o3 w3.heap.size (some ⟨wr.heap.size, 0, none⟩) 1 1 [z] rfl i3 (by simp; omega) (by omega) (by have := g3.size; omega) ?_; intro v4 w4 o4 g4 t4))
      have HT := HS.out
      go_roundw
      case rel => exact ⟨k + 1, by omega, by go_num, by rw [HS.out]; exact o4, (hb.grown g3 hb.size (by simp)).grown g4 (by have := g3.size; have := hb.size; omega) (fun r e => (o3.2.lt r e).1)⟩
      case measure => simp [intOf]; omega
    · have hk8 : k = 8 := by omega
      subst hk8
      have e8 : (digits n 8).take 8 = digits n 8 := List.take_of_length_le (by rw [digits_length]; omega)
      rw [e8] at hown
      obtain ⟨A, c, rfl, _, _, _⟩ := hown.form
      rw [digits_length] at hown ⊢
      go_wp2_with fail
      go_ret
      exact ⟨A, c, rfl, hown, hb⟩
def lenOf : Value → Nat | .slice _ m _ => m | _ => 0
set_option maxRecDepth 100000 in
set_option maxHeartbeats 4000000 in
theorem padded_any (B : Nat) (A : Option Addr) (n c : Nat) (xs : List Int) (w : World) (h : Ints w .u8 B A n xs) (hn : n ≤ 1099511627776) :
    Calls Tryz.prog 64 #[.slice A n c] w fun e w' => ∃ A' c', e = .returned (.slice A' (padL xs).length c') ∧ Mem.Own w' w.heap.size 5 .u8 (.slice A' (padL xs).length c') (padL xs) ∧ Below w.heap.size w w' := by
  have HX := Lib.hid h.1
  go_enter Tryz.func64, Tryz.ntmps64
  go_wp2_with (at_builtin; refine wpList_append_ints w rfl _ _ 27 rfl w.heap.size 5 .u8 1 Tryz.underlying27 info_u8 (.slice none 0 0) [] rfl (Mem.Own.nil _ _ _ _) B A n c xs rfl h (by simp; omega) (by omega) (Nat.le_refl _) ?_; intro v1 w1 o1 g1 t1)
  have b1 : Below w.heap.size w w1 := (Below.refl _ w).grown g1 (Nat.le_refl _) (by simp [Value.ownBlock])
  rw [List.nil_append] at o1
  go_loopw [3] (fun v wr => ∃ j : Nat, j ≤ padN n ∧ Mem.Own wr w.heap.size 5 .u8 v (xs ++ List.replicate j 0) ∧ Below w.heap.size w wr) (fun v _ => n + 16 - lenOf v)
  case atStart => exact ⟨0, by omega, by simpa using o1, b1⟩
  case round =>
    clear o1 b1 g1 t1
    obtain ⟨j, hj, hown, hb⟩ := hrel
    have hpl := padN_lt n
    have hsz := hb.size
    obtain ⟨A1, c1, rfl, _, _, _⟩ := hown.form
    obtain ⟨m, hm⟩ : ∃ m, (xs ++ List.replicate j 0).length = m := ⟨_, rfl⟩
    rw [hm] at hown ⊢
    have em : m = n + j := by rw [← hm]; simp [HX.out]
    have HE := Lib.hid em
    have hm44 : m ≤ 1099511627792 := by omega
    have HM := Lib.hid hm
    clear hm
    by_cases hlt : j < padN n
    · have hne : ((m : Int) % 16 != 0) = true := by
        have h16 : ((m : Int) % 16) ≠ 0 := by unfold padN at hlt; omega
        simpa using h16
      clear em
      go_wp2_with (first
        | (refine Held.wpList_build_row (w := wr) rfl 27 5 1 _ rfl .u8 1 [0] Tryz.underlying27 info_u8 (by simp [Act.eval]) rfl (by omega) (by omega) (by decide) ?_; intro w3 r3 g3 z3; have o3 := hown.kept g3 (by cases (Value.slice A1 m c1).ownBlock <;> simp); have i3 : Ints w3 .u8 w3.heap.size (some ⟨wr.heap.size, 0, none⟩) 1 [0] := r3.ints (n := 1) (by simp))
        | (at_builtin; refine wpList_append_ints w3 rfl _ _ 27 rfl w.heap.size 5 .u8 1 Tryz.underlying27 info_u8 (.slice A1 m c1) _ rfl o3 w3.heap.size (some ⟨wr.heap.size, 0, none⟩) 1 1 [0] rfl i3 (by rw [HM.out]; omega) (by omega) (by have := g3.size; omega) ?_; intro v4 w4 o4 g4 t4))
      obtain ⟨A4, c4, rfl, _, _, _⟩ := o4.form
      go_roundw
      case rel => exact ⟨j + 1, by omega, by rw [List.replicate_succ', ← List.append_assoc]; exact o4, (hb.grown g3 hb.size (by simp)).grown g4 (by have := g3.size; have := hb.size; omega) (fun r e => (o3.2.lt r e).1)⟩
      case measure => simp only [lenOf]; have := HM.out; have := HE.out; rw [List.length_append, HM.out]; simp; omega
    · have hjj : j = padN n := by omega
      subst hjj
      have hne : ((m : Int) % 16 != 0) = false := by
        have h16 : ((m : Int) % 16) = 0 := by have := padN_whole n; omega
        simpa using h16
      clear em
      go_wp2_with fail
      go_ret
      have hpd : xs ++ List.replicate (padN n) 0 = padL xs := by rw [padL, HX.out]
      rw [hpd] at hown
      have hml : m = (padL xs).length := by rw [← HM.out, hpd]
      rw [hml] at hown ⊢
      exact ⟨A1, c1, rfl, hown, hb⟩
end Go.Proofs.YtjelacblnjbfgaaGreatDoor.Ae
namespace Go.Proofs.YtjelacblnjbfgaaGreatDoor.Cha
open Go.RowKit Mem Help Go.Proofs.YtjelacblnjbfgaaGreatDoor.Sum Cc
attribute [local irreducible] wpList wpListIn
theorem wf_byte {z : Int} (h : 0 ≤ z ∧ z ≤ 255) : (Lit.int .u8 z).wf = true := by simp [Lit.wf, IntKind.min, IntKind.max, IntKind.signed, IntKind.bits]; omega
theorem mask_p : ∀ p : Fin 32, (p.val &&& 31) = p.val := by decide +kernel
theorem lft_any (x : Int) (p : Nat) (w : World) (hx : R32 x) (hk : 1 ≤ p) (hk' : p ≤ 31) :
    Calls Tryz.prog 118 #[.int .u32 x, .int .i64 (p : Int)] w fun e w' => e = .returned (.int .u32 (lft x p)) ∧ w = w' := by
  have h2 : bits .and .u64 (p : Int) 31 = (p : Int) := by
    rw [u64_and _ _ (by omega) (by omega) (by omega) (by omega)]
    have e := mask_p ⟨p, by omega⟩
    simp only at e
    have e2 : (31 : Int).toNat = 31 := rfl
    rw [Int.toNat_natCast, e2, e]
  have e3 : 32 - (32 - p) = p := by omega
  have H : Hid (bits .or .u32 (x * 2 ^ p % 4294967296) (x / 2 ^ (32 - p)) = lft x p) := Lib.hid (by
    unfold lft rotI
    rw [e3]
    exact or_comm32 ⟨by omega, by omega⟩ (r32_shr hx (32 - p)))
  clear e3
  go_enter Tryz.func118, Tryz.ntmps118
  go_wp2
  go_ret
  exact ⟨ret_int H.out, rfl⟩
theorem rleft_any (x : Int) (p : Nat) (w : World) (hx : R32 x) (hk : 1 ≤ p) (hk' : p ≤ 31) :
    Calls Tryz.prog 114 #[.int .u32 x, .int .i64 (p : Int)] w fun e w' => e = .returned (.int .u32 (lft x p)) ∧ w = w' := by
  have e3 : 32 - (32 - p) = p := by omega
  have H : Hid (bits .or .u32 (x * 2 ^ p % 4294967296) (x / 2 ^ (32 - p)) = lft x p) := Lib.hid (by
    unfold lft rotI
    rw [e3]
    exact or_comm32 ⟨by omega, by omega⟩ (r32_shr hx (32 - p)))
  clear e3
  go_enter Tryz.func114, Tryz.ntmps114
  go_wp2
  go_ret
  exact ⟨ret_int H.out, rfl⟩
end Go.Proofs.YtjelacblnjbfgaaGreatDoor.Cha
