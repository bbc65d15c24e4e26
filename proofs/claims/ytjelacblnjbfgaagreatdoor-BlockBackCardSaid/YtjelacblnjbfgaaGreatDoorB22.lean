/-
  The iterator over packed records of package block, by its contract: it hands out what each 32 bytes are taken as, with the error.
  The iterator over records of package block, by its contract: it hands out each record of its list, in order, and dead ones behind them, up to a size.
  The function Pack of package block, by its contract.
  The function Take of package block, by its contract.
  What a call of package aead is handed: a slice that reads as bytes.
-/
import Derived.Test.YtjelacblnjbfgaaGreatDoorB21
import Derived.Test.YtjelacblnjbfgaaGreatDoorB13
import Derived.Test.YtjelacblnjbfgaaGreatDoorB1
import Derived.Test.YtjelacblnjbfgaaGreatDoorB6
import Derived.Test.YtjelacblnjbfgaaGreatDoorB9
import Derived.Test.YtjelacblnjbfgaaGreatDoorB4
import Derived.Test.YtjelacblnjbfgaaGreatDoorB5
import Derived.Laws.ResultCell
import Derived.Test.YtjelacblnjbfgaaGreatDoorB19
import Derived.Test.YtjelacblnjbfgaaGreatDoorB8
set_option linter.unusedVariables false
namespace Go.Proofs.YtjelacblnjbfgaaGreatDoor.Rs
open Go.RowKit Go.Shelf Go.Proofs.YtjelacblnjbfgaaGreatDoor Mem Held Go.Proofs.YtjelacblnjbfgaaGreatDoor.Range Rc
attribute [local go_sem] Oper.semAt_some
attribute [local irreducible] wpList wpListIn Calls
theorem taken_any (A : Option Addr) (n c : Nat) (w : World) :
    Calls Tryz.prog 47 #[.slice A n c] w fun e w' => ∃ bx : Nat, e = .returned (.func (.func 71) #[] #[.pointer (some ⟨bx, 0, none⟩)]) ∧ Blk w' bx 27 #[.slice A n c] ∧ w.heap.size ≤ bx ∧ Below w.heap.size w w' := by
  go_enter Tryz.func47, Tryz.ntmps47
  go_wp2_with (refine Held.wpList_box_cell (w := w) rfl 27 _ rfl (.slice A n c) rfl rfl ?_; intro u1 q1 g1 z1)
  go_ret
  exact ⟨_, rfl, q1, Nat.le_refl _, (Below.refl _ w).grown g1 (Nat.le_refl _) (by simp)⟩
def atT (zs : List Int) (size k : Nat) : Option (Array Value × Int) := if k < size then some (takenC (word zs k), takenE (word zs k)) else none
def encT (x : Array Value × Int) : Array Value := #[.agg x.1, .int .i64 x.2]
set_option maxRecDepth 100000 in
set_option maxHeartbeats 4000000 in
theorem taken_stop (N bx : Nat) (S : Nat → Prop) (B b off n c : Nat) (zs : List Int) (size : Nat) (w : World) (hbx : w.cell? ⟨bx, 0, none⟩ = some (.slice (some ⟨b, off, none⟩) n c)) (hSx : ¬ S bx) (h : Ints w .u8 B (some ⟨b, off, none⟩) n zs) (hSB : ∀ b, b < B → ¬ S b) (hb : b < B) (hB : B ≤ w.heap.size) (hn : 32 * size = n) (hc : n ≤ c) (h8 : size ≤ 8) :
    SeqStop Fence.wide N Tryz.prog 71 #[.pointer (some ⟨bx, 0, none⟩)] encT (Only S) (atT zs size) w := by
  intro l J Jx Nb W hW hJ hJx hN hY h0
  have kbx := (hW.cell (p := ⟨bx, 0, none⟩) (World.block_lt_of_cell? w _ hbx)).trans hbx
  have kv : IntsN W .u8 S (some ⟨b, off, none⟩) n zs := IntsN.of (h.below (hW.mono hB)) hSB
  have hq : (n : Int) / 32 = (size : Int) := by omega
  have hqt : Int.tdiv (n : Int) 32 = (size : Int) := by rw [Int.tdiv_eq_ediv_of_nonneg (by omega)]; exact hq
  have HN := Lib.hid hn
  clear hn hbx h hW
  refine callsIn_of_wp Tryz.func71 rfl trivial ?_ rfl
  simp only [Tryz.ntmps71, List.size_toArray, List.length_cons, List.length_nil, Nat.reduceAdd, Nat.reduceSub, Array.replicate_succ, Array.replicate_zero, List.push_toArray, List.append_toArray, List.nil_append, List.cons_append]
  gi_wp2_with fail
  gi_loopw [7] (fun i wr => ∃ k : Nat, k ≤ size ∧ i = .int .i64 k ∧ J k wr ∧ Only S W wr) (fun i _ => size - (intOf i).toNat)
  case atStart => exact ⟨0, by omega, rfl, h0, Only.refl _ _⟩
  case round =>
    obtain ⟨k, hk, rfl, Jk, ok⟩ := hrel
    by_cases hlt : k < size
    · have kb := ok.cell (p := ⟨bx, 0, none⟩) hSx kbx
      have iw := ints_mid ((kv.only ok).ints) (o := 32 * k) (m := 32) (by have := HN.out; omega) (by omega)
      have hlt' : (k : Int) < (size : Int) := by omega
      have hk0 : (0 : Int) ≤ (k : Int) := by omega
      have hkn : 32 * k + 32 ≤ n := by have := HN.out; omega
      have hsl : ∀ W, (Instr.sliceAt 27 (.slice (some ⟨b, off, none⟩) n c) (some (.int .i64 (32 * (k : Int)))) (some (.int .i64 (32 * ((k : Int) + 1)))) none).run Tryz.prog W = .ok (.slice (some ⟨b, off + 32 * k, none⟩) 32 (c - 32 * k)) W := fun W => by
        have := run_midO (P := Tryz.prog) Tryz.underlying27 Rc.size_u8 b off n (cap := c) (l := 32 * k) (h := 32 * k + 32) (by omega) (by omega) (by omega) W
        rwa [show 32 * k + 32 - 32 * k = 32 by omega, show ((32 * k + 32 : Nat) : Int) = 32 * ((k : Int) + 1) by omega, show ((32 * k : Nat) : Int) = 32 * (k : Int) by omega] at this
      have hc32 : 32 ≤ c - 32 * k := by omega
      have hY := hY k (takenC (word zs k), takenE (word zs k))
      rw [atT, if_pos hlt] at hY
      have HT := Lib.hid (show takenC ((zs.drop (32 * k)).take 32) = takenC (word zs k) from rfl)
      have HTE := Lib.hid (show takenE ((zs.drop (32 * k)).take 32) = takenE (word zs k) from rfl)
      generalize takenC (word zs k) = C at hY HT
      generalize takenE (word zs k) = E at hY HTE
      clear kbx
      gi_wp2_with (refine Held.wpListIn_one (r := none) rfl (by intro c e; cases e) ?_; refine wpList_run (w := wr) rfl (v := .slice (some ⟨b, off + 32 * k, none⟩) 32 (c - 32 * k)) (Held.y_slice (S := fun _ => True) rfl hsl _ trivial) ?_; refine wpList_nil ⟨rfl, ?_⟩)
      refine ⟨trivial, fun h => (by cases h), ?_⟩
      refine (callsIn_wide.2 (take_any wr.heap.size (some ⟨b, off + 32 * k, none⟩) 32 (c - 32 * k) _ wr iw (Nat.le_refl _) hc32 (by omega))).mono ?_
      rintro e w3 ⟨rfl, b3⟩
      rw [HT.out, HTE.out]
      obtain ⟨fn, tmps, assign, body, hy, hR⟩ := hY w3 (hJ k wr w3 none Jk (grown_of_below b3 none) (fun r e => by cases e)) trivial
      have hy : (Instr.yield l #[.agg C, .int .i64 E]).run Tryz.prog w3 = .ok (.round l fn tmps assign body) w3 := hy
      clear iw hsl
      gi_wp2_with fail
      refine ⟨fun h => (by cases h), ?_⟩
      refine hR.mono ?_
      rintro e W4 (⟨rfl, J4, o4⟩ | ⟨rfl, Jx4⟩)
      · have o5 := (ok.trans (Only.of_below b3)).trans o4
        clear hR hy o4 b3 ok Jk kb HT HTE
        gi_wp2_with fail
        go_roundw
        case rel => exact ⟨k + 1, by omega, by go_num, J4, o5⟩
        case measure => simp [intOf]; omega
      · gi_wp2_with fail
        exact bodyPost_ret (results_none rfl _ _ _) rfl ⟨⟨_, rfl⟩, .inr ⟨_, Jx4⟩⟩
    · have hks : k = size := by omega
      subst hks
      gi_wp2_with fail
      go_end0
      exact ⟨⟨_, rfl⟩, .inl ⟨k, by rw [atT, if_neg (Nat.lt_irrefl _)], Jk⟩⟩
end Go.Proofs.YtjelacblnjbfgaaGreatDoor.Rs
namespace Go.Proofs.YtjelacblnjbfgaaGreatDoor.Rs
open Go.RowKit Go.Shelf Go.Proofs.YtjelacblnjbfgaaGreatDoor Mem Held Go.Proofs.YtjelacblnjbfgaaGreatDoor.Range Rc
attribute [local go_sem] Oper.semAt_some
attribute [local irreducible] wpList wpListIn Calls
set_option maxRecDepth 100000 in
set_option maxHeartbeats 4000000 in
theorem filled_give (N bl bs : Nat) (S : Nat → Prop) (B : Nat) (A : Option Addr) (n c : Nat) (rs : List R) (size : Nat) (w : World) (hbl : w.cell? ⟨bl, 0, none⟩ = some (.slice A n c)) (hbs : w.cell? ⟨bs, 0, none⟩ = some (.int .i64 (size : Int))) (hSl : ¬ S bl) (hSs : ¬ S bs) (h : Recs w B A n rs) (hB : B ≤ w.heap.size) (hSB : ∀ b, b < B → ¬ S b) (hn : n ≤ size) (h8 : size ≤ 8) :
    SeqGive Fence.wide N Tryz.prog 49 #[.pointer (some ⟨bl, 0, none⟩), .pointer (some ⟨bs, 0, none⟩)] EncR (Only S) (pad rs size) w := by
  intro l J W hW hJ hY h0
  have kbl := (hW.cell (p := ⟨bl, 0, none⟩) (World.block_lt_of_cell? w _ hbl)).trans hbl
  have kbs := (hW.cell (p := ⟨bs, 0, none⟩) (World.block_lt_of_cell? w _ hbs)).trans hbs
  have kv := h.below (hW.mono hB)
  have hBW : B ≤ W.heap.size := Nat.le_trans hB hW.size
  have HL := Lib.hid h.1
  have HP := Lib.hid (pad_length (rs := rs) (size := size) (by rw [h.1]; exact hn))
  clear hbl hbs h
  refine callsIn_of_wp Tryz.func49 rfl trivial ?_ rfl
  simp only [Tryz.ntmps49, List.size_toArray, List.length_cons, List.length_nil, Nat.reduceAdd, Nat.reduceSub, Array.replicate_succ, Array.replicate_zero, List.push_toArray, List.append_toArray, List.nil_append, List.cons_append]
  gi_wp2_with fail
  gi_loopw [8] (fun i wr => ∃ k : Nat, k ≤ n ∧ i = .int .i64 k ∧ J ((pad rs size).take k) wr ∧ Only S W wr) (fun i _ => n - (intOf i).toNat)
  case atStart => exact ⟨0, by omega, rfl, by simpa using h0, Only.refl _ _⟩
  case round =>
    obtain ⟨k, hk, rfl, Jk, ok⟩ := hrel
    by_cases hlt : k < n
    · obtain ⟨b, off, rfl, hb, hx⟩ := (kv.only ok hSB).at_ hlt
      have hbw : b < wr.heap.size := Nat.lt_of_lt_of_le hb (Nat.le_trans hBW ok.size)
      have HPR := Lib.hid (take_snoc (pad rs size) (k := k) (by rw [HP.out]; omega))
      have hpre : (pad rs size).take k ++ [(pad rs size).getD k R0] <+: pad rs size := by rw [HPR.out]; exact List.take_prefix _ _
      rw [← pad_lt (rs := rs) (size := size) (by rw [HL.out]; exact hlt)] at hx
      generalize (pad rs size).getD k R0 = x at hx HPR hpre
      have hlt' : (k : Int) < (n : Int) := by omega
      have hk0 : (0 : Int) ≤ (k : Int) := by omega
      gi_wp2_with (first
        | (refine Held.wpListIn_one (r := none) rfl (by intro c e; cases e) ?_; refine wpList_run (w := wr) rfl (v := .pointer (some ⟨b, off + k * 4, none⟩)) (Held.y_addr (S := fun _ => True) rfl rfl rfl (run_addr_of (P := Tryz.prog) 26 37 b off n c k 4 .i64 Tryz.underlying26 (by kernel_rfl) hlt) _ trivial) ?_; refine wpList_nil ⟨rfl, ?_⟩)
        | (refine Held.wpListIn_one (r := none) rfl (by intro c e; cases e) ?_; refine wpList_run (w := wr) rfl (v := .agg #[.bool x.d, .int .i64 x.k, .int .i64 x.v, .int .i64 x.s]) (y_load_range (S := fun W => W = wr) (n := 4) (cs := x.cells) rfl rfl Tryz.underlying37 rfl (by kernel_rfl) rfl (fun W hW => by rw [hW]; exact hx) _ rfl) ?_; refine wpList_nil ⟨rfl, ?_⟩)
        | (refine Held.wpListIn_one (r := none) rfl (by intro c e; cases e) ?_; refine wpList_alloc_blk (w := wr) rfl 37 rfl _ zero_rec ?_; intro w2 q2 g2 z2; refine wpList_nil ⟨rfl, ?_⟩)
        | (refine Held.wpListIn_one (r := none) rfl (by intro c e; cases e) ?_; refine wpList_store_blk (w := w2) rfl 37 _ _ rfl wr.heap.size 4 rfl 37 _ #[.bool x.d, .int .i64 x.k, .int .i64 x.v, .int .i64 x.s] rfl q2 info_rec rfl rfl (by kernel_rfl) ?_; intro w3 q3 g3 z3; refine wpList_nil ⟨rfl, ?_⟩; have b3 : Below wr.heap.size wr w3 := ((Below.refl _ wr).grown g2 (Nat.le_refl _) (by simp)).grown g3 g2.size (fun r e => by cases e; exact Nat.le_refl _); clear g2 g3 z2 z3 q2)
        | (refine Held.wpListIn_one (r := none) rfl (by intro c e; cases e) ?_; refine wpList_load_blk (w := w3) rfl 37 _ rfl wr.heap.size 4 rfl 37 _ q3 _ Tryz.underlying37 rfl (by kernel_rfl) rfl ?_; refine wpList_nil ⟨rfl, ?_⟩; obtain ⟨fn, tmps, assign, body, hy, hR⟩ := hY ((pad rs size).take k) x #[.agg #[.bool x.d, .int .i64 x.k, .int .i64 x.v, .int .i64 x.s]] wr w3 Jk (grown_of_below b3 none) rfl hpre))
      refine ⟨fun h => (by cases h), ?_⟩
      refine hR.mono ?_
      rintro e W4 ⟨rfl, J4, o4⟩
      rw [HPR.out] at J4
      have o5 := (ok.trans (Only.of_below b3)).trans o4
      clear hR hy hpre o4 b3 q3 hx ok Jk
      gi_wp2_with fail
      go_roundw
      case rel => exact ⟨k + 1, by omega, by go_num, J4, o5⟩
      case measure => simp [intOf]; omega
    · have hkn : k = n := by omega
      subst hkn
      have kl2 := ok.cell (p := ⟨bl, 0, none⟩) hSl kbl
      have ks2 := ok.cell (p := ⟨bs, 0, none⟩) hSs kbs
      have hsub : IntKind.i64.wrap ((size : Int) - (k : Int)) = ((size - k : Nat) : Int) := by rw [IntKind.wrap_i64]; omega
      clear kbl kbs kv
      gi_wp2_with fail
      gi_loopw [21] (fun i wr => ∃ j : Nat, j ≤ size - k ∧ i = .int .i64 j ∧ J ((pad rs size).take (k + j)) wr ∧ Only S W wr) (fun i _ => size - k - (intOf i).toNat)
      case atStart => exact ⟨0, by omega, rfl, Jk, ok⟩
      case round =>
        clear kl2 ks2 Jk ok
        obtain ⟨j, hj, rfl, Jj, ok⟩ := hrel
        by_cases hlt2 : j < size - k
        · have hlt' : (j : Int) < ((size - k : Nat) : Int) := by omega
          have hj0 : (0 : Int) ≤ (j : Int) := by omega
          have HPR := Lib.hid (take_snoc (pad rs size) (k := k + j) (by rw [HP.out]; omega))
          have hpre : (pad rs size).take (k + j) ++ [(pad rs size).getD (k + j) R0] <+: pad rs size := by rw [HPR.out]; exact List.take_prefix _ _
          rw [pad_ge (rs := rs) (size := size) (i := k + j) (by rw [HL.out]; omega) (by omega)] at HPR hpre
          gi_wp2_with fail
          refine ⟨trivial, fun h => (by cases h), ?_⟩
          refine (callsIn_wide.2 (dead_any wr)).mono ?_
          rintro e w3 ⟨rfl, b3⟩
          obtain ⟨fn, tmps, assign, body, hy, hR⟩ := hY ((pad rs size).take (k + j)) RD #[.agg #[.bool true, .int .i64 0, .int .i64 0, .int .i64 0]] wr w3 Jj (grown_of_below b3 none) rfl hpre
          gi_wp2_with fail
          refine ⟨fun h => (by cases h), ?_⟩
          refine hR.mono ?_
          rintro e W4 ⟨rfl, J4, o4⟩
          rw [HPR.out] at J4
          have o5 := (ok.trans (Only.of_below b3)).trans o4
          clear hR hy hpre o4 b3 ok Jj
          gi_wp2_with fail
          go_roundw
          case rel => exact ⟨j + 1, by omega, by go_num, J4, o5⟩
          case measure => simp [intOf]; omega
        · have hjk : j = size - k := by omega
          subst hjk
          rw [List.take_of_length_le (by rw [HP.out]; omega)] at Jj
          gi_wp2_with fail
          go_end0
          exact ⟨⟨_, rfl⟩, Jj⟩
end Go.Proofs.YtjelacblnjbfgaaGreatDoor.Rs
namespace Go.Proofs.YtjelacblnjbfgaaGreatDoor.Rs
open Go.RowKit Go.Shelf Go.Proofs.YtjelacblnjbfgaaGreatDoor Mem Held Go.Proofs.YtjelacblnjbfgaaGreatDoor.Range Rc
attribute [local go_sem] Oper.semAt_some
attribute [local irreducible] wpList wpListIn Calls
theorem packs_bad (A : Option Addr) (n c : Nat) (size : Int) (w : World) (hs : mayS size = false) :
    Calls Tryz.prog 13 #[.slice A n c, .int .i64 size] w fun e w' => e = .returned (.tuple #[.slice none 0 0, .int .i64 1]) ∧ w = w' := by
  go_enter Tryz.func13, Tryz.ntmps13
  go_wp2_with fail
  refine (bmay_any size w).mono ?_
  rintro e w1 ⟨rfl, rfl⟩
  rw [hs]
  go_wp2_with fail
  exact bodyPost_ret (results_tmp2 rfl _ _ _) rfl ⟨rfl, rfl⟩
theorem packs_long (A : Option Addr) (n c : Nat) (size : Int) (w : World) (hs : mayS size = true) (hn : size < (n : Int)) :
    Calls Tryz.prog 13 #[.slice A n c, .int .i64 size] w fun e w' => e = .returned (.tuple #[.slice none 0 0, .int .i64 5]) ∧ w = w' := by
  go_enter Tryz.func13, Tryz.ntmps13
  go_wp2_with fail
  refine (bmay_any size w).mono ?_
  rintro e w1 ⟨rfl, rfl⟩
  rw [hs]
  go_wp2_with fail
  exact bodyPost_ret (results_tmp2 rfl _ _ _) rfl ⟨rfl, rfl⟩
def KInv (w : World) (g lb N : Nat) (pre : List R) (W : World) : Prop :=
  W.heap[lb]? = some (.cells #[.slice (some ⟨g, 0, none⟩) (32 * pre.length) N] 27 (0, 0)) ∧ Mem.Own W w.heap.size 5 .u8 (.slice (some ⟨g, 0, none⟩) (32 * pre.length) N) (packs pre) ∧ Below w.heap.size w W
theorem KInv.own (w : World) (g lb N : Nat) {B : Nat} (hB : w.heap.size ≤ B) : OwnFrom B (KInv w g lb N) := fun pre W W' row ⟨h1, h2, h4⟩ hg hr =>
  ⟨Held.keep_cells h1 hg (Held.ne_of_cells h1 (fun r e => (hr r e).2)), h2.kept hg (by obtain ⟨cs, hc⟩ := h2.cells_; exact .inr (fun e => Held.ne_of_cells hc (fun r e => (hr r e).2) e)), h4.grown hg h4.size (fun r e => Nat.le_trans hB (hr r e).1)⟩
set_option maxRecDepth 100000 in
set_option maxHeartbeats 4000000 in
theorem packs_ok (B : Nat) (A : Option Addr) (n c : Nat) (rs : List R) (size : Nat) (w : World) (h : Recs w B A n rs) (hB : B ≤ w.heap.size) (h1 : 1 ≤ size) (h8 : size ≤ 8) (hn : n ≤ size) :
    Calls Tryz.prog 13 #[.slice A n c, .int .i64 (size : Int)] w fun e w' => ∃ A' c', e = .returned (.tuple #[.slice A' (32 * size) c', .int .i64 0]) ∧ Mem.Own w' w.heap.size 5 .u8 (.slice A' (32 * size) c') (packs (pad rs size)) ∧ Below w.heap.size w w' := by
  have hs : mayS (size : Int) = true := by simp [mayS]; omega
  have hni : ¬ (size : Int) < (n : Int) := by omega
  have HP := Lib.hid (pad_length (rs := rs) (size := size) (by rw [h.1]; exact hn))
  have hs0 : (0 : Int) ≤ (size : Int) := by omega
  have hs8 : (size : Int) ≤ 8 := by omega
  obtain ⟨N, hN⟩ : ∃ N, 32 * size = N := ⟨_, rfl⟩
  have HNI := Lib.hid (show 32 * (size : Int) = (N : Int) by omega)
  have hNle : N ≤ 256 := by omega
  have HN := Lib.hid hN
  rw [hN]
  clear hN
  have HW := Lib.hid (show ∀ r ∈ pad rs size, r.wf from fun r hr => by
    rcases List.mem_append.1 hr with hr | hr
    · exact h.2.1 r hr
    · rw [List.eq_of_mem_replicate hr]; exact ⟨rfl, rfl, rfl⟩)
  obtain ⟨i0, hi0, hz0, hz1, hb0⟩ := info_parts Help.info_u8
  refine (callsIn_wide (n := 3)).1 ?_
  refine callsIn_of_wp_marks Tryz.func13 rfl trivial ?_ rfl
  simp only [Tryz.ntmps13, List.size_toArray, List.length_cons, List.length_nil, Nat.reduceAdd, Nat.reduceSub, Array.replicate_succ, Array.replicate_zero, List.push_toArray, List.append_toArray, List.nil_append, List.cons_append]
  refine wpIn_wide.2 ?_
  go_wp2_with fail
  refine (bmay_any (size : Int) w).mono ?_
  rintro e w1 ⟨rfl, rfl⟩
  rw [hs]
  go_wp2_with fail
  refine (bplain_any (size : Int) w hs0 hs8).mono ?_
  rintro e w1 ⟨rfl, rfl⟩
  rw [HNI.out]
  go_wp2_with (first
    | (refine wpList_make_own w rfl _ _ 27 rfl w.heap.size 5 i0 (.int .u8 0) 1 Tryz.underlying27 hi0 hz0 hz1 .i64 .i64 _ N rfl rfl rfl (by rw [hb0]; omega) (by unfold maxLen; omega) (Nat.le_refl _) ?_; intro w1 o1 g1)
    | (refine wpList_alloc_cell (w := w1) rfl 27 rfl (.slice none 0 0) (by kernel_rfl) rfl ?_; intro w2 q2 g2 z2)
    | (refine wpList_store_box (w := w2) rfl 27 _ _ rfl w1.heap.size rfl 27 _ (.slice (some ⟨w.heap.size, 0, none⟩) 0 N) rfl q2 (by kernel_rfl) rfl rfl ?_; intro w3 q3 g3))
  have lg : w.heap.size < w1.heap.size := (o1.lt _ rfl).2
  have b3 : Below w.heap.size w w3 := (((Below.refl _ w).grown g1 (Nat.le_refl _) (by simp)).grown g2 (by omega) (by simp)).grown g3 (Nat.le_trans (Nat.le_of_lt lg) g2.size) (fun r e => by cases e; omega)
  have o3 : Mem.Own w3 w.heap.size 5 .u8 (.slice (some ⟨w.heap.size, 0, none⟩) 0 N) [] := (Mem.Own.kept ⟨by simp, o1⟩ g2 (.inr (by simp [Value.ownBlock]))).kept g3 (.inr (fun e => by have e : some w.heap.size = some w1.heap.size := e; injection e with e; omega))
  have k3 : KInv w w.heap.size w1.heap.size N [] w3 := ⟨q3, o3, b3⟩
  have hl3 : w1.heap.size < w3.heap.size := (Array.getElem?_eq_some_iff.1 q3).1
  clear o3 b3 g3 q2 q3 g2 z2 o1 g1
  refine (filled_any A n c (size : Int) w3).mono ?_
  rintro e w4 ⟨bl, bs, rfl, ql, qs, hbl, hbs, b4⟩
  have k4 : KInv w w.heap.size w1.heap.size N [] w4 := KInv.own w w.heap.size w1.heap.size N k3.2.2.size [] w3 w4 none k3 (grown_of_below b4 none) (fun r e => by cases e)
  have hl4 : w1.heap.size < w4.heap.size := Nat.lt_of_lt_of_le hl3 b4.size
  clear k3 b4
  have hgl : w.heap.size ≠ w1.heap.size := by omega
  have lbl : bl ≠ w1.heap.size := by omega
  have lbs : bs ≠ w1.heap.size := by omega
  have lbg : bl ≠ w.heap.size := by omega
  have lsg : bs ≠ w.heap.size := by omega
  have hit := fun M => filled_give M bl bs (fun b => b = w.heap.size ∨ b = w1.heap.size) B A n c rs size w4 (ql.cell rfl) (qs.cell rfl) (fun e => e.elim lbg lbl) (fun e => e.elim lsg lbs) (h.below (k4.2.2.mono hB)) (Nat.le_trans hB k4.2.2.size) (fun b hb e => by have := hl4; rcases e with e | e <;> omega) hn h8
  have hlw := k4.2.2.size
  clear ql qs hbl hbs lbl lbs lbg lsg h hl3
  go_wp2_with fail
  refine (wpIn_wide (n := 3)).1 ?_
  refine wpIn_rangeFunc_give rfl (by omega) (gf := 49) (lb := #[.pointer (some ⟨bl, 0, none⟩), .pointer (some ⟨bs, 0, none⟩)]) rfl trivial (enters_of Tryz.func49 (by kernel_rfl) rfl)
    (hit _) (fun h k => h.trans k) (fun W l o o' hl ho hc _ => Only.put W l o o' ho hc) (Below.refl _ _) (fun x B W args hx => by cases hx; rfl)
    (KInv w w.heap.size w1.heap.size N) (KInv.own w _ _ N hlw) k4
    (fun x a' pre W => KInv w w.heap.size w1.heap.size N pre W ∧ ∃ p, Blk W p 37 #[.bool x.d, .int .i64 x.k, .int .i64 x.v, .int .i64 x.s] ∧ w1.heap.size < p ∧ a' = { tmps := #[.slice A n c, .int .i64 (size : Int), undef, undef, .slice none 0 0, .int .i64 0, .pointer (some ⟨w1.heap.size, 0, none⟩), .pointer (some ⟨p, 0, none⟩), undef, .int .i64 (size : Int), .bool true, .bool false, .slice A n c, .int .i64 (n : Int), .int .i64 (size : Int), .bool false, .int .i64 (size : Int), .int .i64 (N : Int), .slice (some ⟨w.heap.size, 0, none⟩) 0 N, .slice A n c, .int .i64 (size : Int), .func (.func 49) #[] #[.pointer (some ⟨bl, 0, none⟩), .pointer (some ⟨bs, 0, none⟩)], .agg #[.bool x.d, .int .i64 x.k, .int .i64 x.v, .int .i64 x.s], undef, undef, undef, undef, undef, undef], defers := [] }) ?ib ?assign ?body ?done
  case ib =>
    rintro x a' pre W W' row ⟨hv, p, hp, hlp, h7⟩ hgr hr
    exact ⟨KInv.own w _ _ N hlw pre W W' row hv hgr hr, p, blk_own hp hgr hr, hlp, h7⟩
  case assign =>
    rintro l pre x args W0 W K hv hg rfl hp hsz hK
    simp only [Held.zip_one, List.setIfInBounds_toArray, List.set_cons_zero, List.set_cons_succ]
    gi_wp2_with (first
      | (refine Held.wpListIn_one (r := some l) rfl (by intro c e; cases e) ?_; refine wpList_alloc_blk (w := W) rfl 37 rfl _ zero_rec ?_; intro v2 q2 g2 z2; refine wpList_nil ⟨rfl, ?_⟩)
      | (refine Held.wpListIn_one (r := some l) rfl (by intro c e; cases e) ?_; refine wpList_store_blk (w := v2) rfl 37 _ _ rfl W.heap.size 4 rfl 37 _ #[.bool x.d, .int .i64 x.k, .int .i64 x.v, .int .i64 x.s] rfl q2 info_rec rfl rfl (by kernel_rfl) ?_; intro v3 q3 g3 z3; refine wpList_nil ⟨rfl, ?_⟩))
    have hsW : w4.heap.size ≤ W.heap.size := Nat.le_trans hsz hg.size
    have b3 : Below W.heap.size W v3 := ((Below.refl _ W).grown g2 (Nat.le_refl _) (by simp)).grown g3 g2.size (fun r e => by cases e; exact Nat.le_refl _)
    have hv2 := KInv.own w w.heap.size w1.heap.size N hlw pre W0 W none hv hg (fun r e => by cases e)
    exact hK _ _ ((Held.others_of_new g2).trans (Held.others_of_grown q2 g3)) (Only.of_below b3) ⟨KInv.own w w.heap.size w1.heap.size N hlw pre W v3 none hv2 (grown_of_below b3 none) (fun r e => by cases e), W.heap.size, q3, by omega, rfl⟩
  case body =>
    rintro l pre x a' W ⟨⟨i1, i2, i4⟩, p, hp7, hlp, rfl⟩ hp hsz
    have hpl := hp.length_le
    rw [HP.out, List.length_append, List.length_singleton] at hpl
    have hxw := HW.out x (hp.subset (by simp))
    obtain ⟨q, hq⟩ : ∃ q, 32 * pre.length = q := ⟨_, rfl⟩
    rw [hq] at i1 i2
    have HF := Lib.hid (show q + 32 ≤ N by have := HN.out; omega)
    have HQ := Lib.hid (show (packs pre).length = q by rw [packs_length, hq])
    have HS := Lib.hid (show packs pre ++ packed x.d x.k x.v x.s = packs (pre ++ [x]) by simp [packs, packR])
    have HQ2 := Lib.hid (show q + 32 = 32 * (pre ++ [x]).length by rw [List.length_append, List.length_singleton]; omega)
    have HX := Lib.hid hxw
    clear hp hpl hq hxw hit
    gi_wp2_with (refine Held.wpListIn_one (r := some l) rfl (by intro c e; cases e) ?_; refine wpList_load_blk (w := W) rfl 37 _ rfl p 4 rfl 37 _ hp7 _ Tryz.underlying37 rfl (by kernel_rfl) rfl ?_; refine wpList_nil ⟨rfl, ?_⟩)
    refine ⟨trivial, ?_⟩
    refine (CallsIn.inRound l (callsIn_wide.2 (pack_any x.d x.k x.v x.s HX.out.1 HX.out.2.1 HX.out.2.2 W))).mono ?_
    rintro e v1 ⟨rfl, b1⟩
    gi_wp2_with (first
      | (refine wpListIn_alloc_Row rfl 22 rfl .u8 32 zero_32 ?_; intro v2 r2 g2 z2)
      | (refine wpListIn_store_RowTo (w := v2) rfl 22 _ _ rfl v1.heap.size rfl 22 .u8 _ (packed x.d x.k x.v x.s) rfl r2 32 info_32 (packed_length _ _ _ _) (by simp) (packed_wf _ _ _ _) ?_; intro v3 r3 g3 z3))
    have b3 : Below W.heap.size W v3 := (b1.grown g2 b1.size (by simp)).grown g3 (Nat.le_trans b1.size g2.size) (fun r e => by cases e; exact b1.size)
    have j1 := (b3.block _ (Array.getElem?_eq_some_iff.1 i1).1).trans i1
    have j2 := i2.below b3
    have j4 := i4.trans (b3.mono i4.size)
    have cl := cell_of_one j1
    have ip := r3.ints (n := 32) (by rw [packed_length]; omega)
    rw [List.take_of_length_le (by rw [packed_length]; omega)] at ip
    obtain ⟨cs, hcs⟩ := j2.cells_
    have hv1 : w4.heap.size ≤ v1.heap.size := Nat.le_trans hsz b1.size
    clear b1 g2 g3 z2 z3 r2
    refine Held.wpIn_region_heldR (r := some l) (S := fun _ => True) rfl (by kernel_rfl) (by kernel_rfl) (fun a w h => h) ?_
    change wpAnyH _ _ _ _ _ _ _ _ v3.drew
    refine Held.tk (v := .slice (some ⟨v1.heap.size, 0, none⟩) 32 32) 1 (some 26) rfl (Held.y_slice rfl (fun X => run_slice_arr_all (P := Tryz.prog) 22 5 32 v1.heap.size X Tryz.underlying22 (by kernel_rfl) (by omega))) trivial ?_
    simp only [Act.put, Z1, Z2, Z3]
    refine Held.one 0 (by kernel_rfl) ?_
    refine Held.op_load 0 (some 25) 27 ⟨w1.heap.size, 0, none⟩ (.slice (some ⟨w.heap.size, 0, none⟩) q N) rfl rfl rfl rfl rfl (Held.run_loadVar_cell _ _ _ _ (by kernel_rfl) cl) ?_
    refine ⟨trivial, ?_⟩
    simp only [Act.put, Z1, Z2, Z3]
    refine Held.one 2 (by kernel_rfl) ?_
    refine Held.op_append_fits 2 (some 27) 27 rfl rfl rfl rfl w.heap.size 5 .u8 1 Tryz.underlying27 Help.info_u8 w.heap.size N q (packs pre) rfl HQ.out (j2.drewN 1) v3.heap.size (some ⟨v1.heap.size, 0, none⟩) 32 32 (packed x.d x.k x.v x.s) rfl (ip.drew) (q + 32) rfl HF.out ?_
    intro wA oA gA
    refine ⟨trivial, ?_⟩
    simp only [Act.put, Z1, Z2, Z3]
    refine Held.one 3 (by kernel_rfl) ?_
    refine Held.op_store_box 3 none 27 w1.heap.size 27 _ (.slice (some ⟨w.heap.size, 0, none⟩) (q + 32) N) rfl rfl rfl rfl rfl rfl (Held.keep_cells (w := v3.drew) j1 gA (by simp; omega)) (by kernel_rfl) rfl rfl ?_
    intro wB lB gB
    refine ⟨trivial, ?_⟩
    simp only [Act.put]
    refine wpAnyH_done (by kernel_rfl) ?_ _
    have kA := Held.others_of_grown (w := v3.drew) hcs gA
    have kB := Held.others_of_grown (Held.keep_cells (w := v3.drew) j1 gA (by simp; omega)) gB
    have kW : KeepsOthers W wB := (Held.others_of_new (grown_of_below b3 none)).trans (KeepsOthers.trans (show KeepsOthers v3 wA from ⟨kA.size, kA.same⟩) kB)
    have oW : Only (fun b => b = w.heap.size ∨ b = w1.heap.size) W wB := (Only.of_below b3).trans (Only.trans (show Only _ v3 wA from ⟨gA.size, (Only.of_grown (w := v3.drew) gA (S := fun b => b = w.heap.size ∨ b = w1.heap.size) (fun r e => by cases e; exact .inl rfl)).block⟩) (Only.of_grown gB (fun r e => by cases e; exact .inr rfl)))
    have oB := oA.kept gB (.inr (by simp [Value.ownBlock]; omega))
    rw [HS.out] at oB
    rw [HQ2.out] at oB lB
    have jA : Below w.heap.size w wA := Below.grown (w := v3.drew) (j4.drew) gA j4.size (fun r e => by cases e; exact Nat.le_refl _)
    exact ⟨kW, oW, lB, oB, jA.grown gB jA.size (fun r e => by cases e; omega)⟩
  case done =>
    rintro D W hD ⟨i1, i2, i4⟩ hDl
    have e4 : 32 * (pad rs size).length = N := by rw [HP.out]; exact HN.out
    rw [e4] at i1 i2
    have cl := cell_of_one i1
    go_wp2_with fail
    refine ⟨by simp, .inl ⟨_, _, rfl, run_takeDeferred hDl, ?_⟩⟩
    refine ⟨_, results_tmp2 rfl _ _ _, some ⟨w.heap.size, 0, none⟩, N, rfl, i2.kept (grownBy_putObj' _ D _) (.inr (by simp [Value.ownBlock]; omega)), ?_⟩
    exact i4.grown (grownBy_putObj' _ D _) i4.size (fun r e => by cases e; omega)
theorem packs_any (B : Nat) (A : Option Addr) (n c : Nat) (rs : List R) (size : Int) (w : World) (h : Recs w B A n rs) (hB : B ≤ w.heap.size) :
    Calls Tryz.prog 13 #[.slice A n c, .int .i64 size] w fun e w' => ∃ A' n' c', e = .returned (.tuple #[.slice A' n' c', .int .i64 (packE n size)]) ∧ Hid ((packB rs size).length = n') ∧ Mem.Own w' w.heap.size 5 .u8 (.slice A' n' c') (packB rs size) ∧ Below w.heap.size w w' := by
  have hl := h.1
  by_cases hs : mayS size = true
  · have hb : 1 ≤ size ∧ size ≤ 8 := by simpa [mayS] using hs
    by_cases h1 : size < (n : Int)
    · refine (packs_long A n c size w hs h1).mono ?_
      rintro e w' ⟨rfl, rfl⟩
      have HE : packE n size = 5 := by rw [packE, if_neg (by simp [hs]), if_pos h1]
      have HB : packB rs size = [] := by rw [packB, if_neg (by omega)]
      rw [HE, HB]
      exact ⟨none, 0, 0, rfl, Lib.hid rfl, Own.nil _ _ _ _, Below.refl _ _⟩
    · obtain ⟨q, rfl⟩ : ∃ q : Nat, (q : Int) = size := ⟨size.toNat, by omega⟩
      refine (packs_ok B A n c rs q w h hB (by omega) (by omega) (by omega)).mono ?_
      rintro e w' ⟨A', c', rfl, ho, hw⟩
      have HE : packE n (q : Int) = 0 := by rw [packE, if_neg (by simp [hs]), if_neg h1]
      have HB : packB rs (q : Int) = packs (pad rs q) := by rw [packB, if_pos ⟨hs, by omega⟩]; rfl
      rw [HE, HB]
      exact ⟨A', _, c', rfl, Lib.hid (by rw [packs_length, pad_length (by omega)]), ho, hw⟩
  · have hs' : mayS size = false := by simpa using hs
    refine (packs_bad A n c size w hs').mono ?_
    rintro e w' ⟨rfl, rfl⟩
    have HE : packE n size = 1 := by rw [packE, if_pos hs']
    have HB : packB rs size = [] := by rw [packB, if_neg (fun h => hs h.1)]
    rw [HE, HB]
    exact ⟨none, 0, 0, rfl, Lib.hid rfl, Own.nil _ _ _ _, Below.refl _ _⟩
end Go.Proofs.YtjelacblnjbfgaaGreatDoor.Rs
namespace Go.Proofs.YtjelacblnjbfgaaGreatDoor.Rs
open Go.RowKit Go.Shelf Go.Proofs.YtjelacblnjbfgaaGreatDoor Mem Held Go.Proofs.YtjelacblnjbfgaaGreatDoor.Range Rc
attribute [local go_sem] Oper.semAt_some
attribute [local irreducible] wpList wpListIn Calls
theorem results_two {P : Program} {fn : Func} {p q : Tmp} {t u : TypeId} (h : fn.results = #[.cell p t, .cell q u]) (tmps : Array Value) (w : World) (g g' : Nat) (v v' : Value) (hp : tmps.getD p undef = .pointer (some ⟨g, 0, none⟩)) (hq : tmps.getD q undef = .pointer (some ⟨g', 0, none⟩))
    (ht : plainT P t = true) (hu : plainT P u = true) (hc : w.cell? ⟨g, 0, none⟩ = some v) (hc' : w.cell? ⟨g', 0, none⟩ = some v') : (results fn tmps).run P w = .ok (.tuple #[v, v']) w := by
  have a1 : (asAddr (.pointer (some ⟨g, 0, none⟩))).run P w = .ok ⟨g, 0, none⟩ w := by simp [asAddr]
  have a2 : (asAddr (.pointer (some ⟨g', 0, none⟩))).run P w = .ok ⟨g', 0, none⟩ w := by simp [asAddr]
  have hp2 : tmps[p]?.getD undef = .pointer (some ⟨g, 0, none⟩) := by simpa using hp
  have hq2 : tmps[q]?.getD undef = .pointer (some ⟨g', 0, none⟩) := by simpa using hq
  simp only [results, h]
  simp [Sem.run_bind, Result.andThen, hp2, hq2, a1, a2, Held.run_loadVar_cell t _ w v ht hc, Held.run_loadVar_cell u _ w v' hu hc']
set_option maxRecDepth 100000 in
theorem takes_bad (A : Option Addr) (n c : Nat) (size : Int) (w : World) (hs : mayS size = false) :
    Calls Tryz.prog 26 #[.slice A n c, .int .i64 size] w fun e w' => e = .returned (.tuple #[.slice none 0 0, .int .i64 1]) ∧ Below w.heap.size w w' := by
  go_enter Tryz.func26, Tryz.ntmps26
  go_wp2_with (first
    | (refine wpList_alloc_cell (w := w) rfl 26 rfl (.slice none 0 0) (by kernel_rfl) rfl ?_; intro w1 q1 g1 z1)
    | (refine wpList_alloc_cell (w := w1) rfl 29 rfl (.int .i64 0) (by kernel_rfl) rfl ?_; intro w2 q2 g2 z2; have q12 := Held.keep_cells q1 g2 (by simp)))
  have l1 : w.heap.size < w1.heap.size := (Array.getElem?_eq_some_iff.1 q1).1
  have b2 : Below w.heap.size w w2 := ((Below.refl _ w).grown g1 (Nat.le_refl _) (by simp)).grown g2 g1.size (by simp)
  clear g1 g2 z1 z2 q1
  refine (bmay_any size w2).mono ?_
  rintro e u1 ⟨rfl, rfl⟩
  rw [hs]
  go_wp2_with (first
    | (refine wpList_store_box (w := w2) rfl 26 _ _ rfl w.heap.size rfl 26 _ (.slice none 0 0) rfl q12 (by kernel_rfl) rfl rfl ?_; intro w3 q3 g3; have q23 := Held.keep_cells q2 g3 (by simp; omega))
    | (refine wpList_store_box (w := w3) rfl 29 _ _ rfl w1.heap.size rfl 29 _ (.int .i64 1) rfl q23 (by kernel_rfl) rfl rfl ?_; intro w4 q4 g4; have q34 := Held.keep_cells q3 g4 (by simp; omega)))
  exact bodyPost_ret (results_two rfl _ _ w.heap.size w1.heap.size _ _ rfl rfl (by kernel_rfl) (by kernel_rfl) (cell_of_one q34) (cell_of_one q4)) rfl ⟨rfl, (b2.grown g3 b2.size (fun r e => by cases e; omega)).grown g4 (Nat.le_trans b2.size g3.size) (fun r e => by cases e; omega)⟩
set_option maxRecDepth 100000 in
theorem takes_short (A : Option Addr) (n c : Nat) (size : Int) (w : World) (hs : mayS size = true) (hn : (n : Int) < 32 * size) :
    Calls Tryz.prog 26 #[.slice A n c, .int .i64 size] w fun e w' => e = .returned (.tuple #[.slice none 0 0, .int .i64 3]) ∧ Below w.heap.size w w' := by
  have hb : 1 ≤ size ∧ size ≤ 8 := by simpa [mayS] using hs
  go_enter Tryz.func26, Tryz.ntmps26
  go_wp2_with (first
    | (refine wpList_alloc_cell (w := w) rfl 26 rfl (.slice none 0 0) (by kernel_rfl) rfl ?_; intro w1 q1 g1 z1)
    | (refine wpList_alloc_cell (w := w1) rfl 29 rfl (.int .i64 0) (by kernel_rfl) rfl ?_; intro w2 q2 g2 z2; have q12 := Held.keep_cells q1 g2 (by simp)))
  have l1 : w.heap.size < w1.heap.size := (Array.getElem?_eq_some_iff.1 q1).1
  have b2 : Below w.heap.size w w2 := ((Below.refl _ w).grown g1 (Nat.le_refl _) (by simp)).grown g2 g1.size (by simp)
  clear g1 g2 z1 z2 q1
  refine (bmay_any size w2).mono ?_
  rintro e u1 ⟨rfl, rfl⟩
  rw [hs]
  go_wp2_with fail
  refine (bplain_any size w2 (by omega) hb.2).mono ?_
  rintro e u1 ⟨rfl, rfl⟩
  go_wp2_with (first
    | (refine wpList_store_box (w := w2) rfl 26 _ _ rfl w.heap.size rfl 26 _ (.slice none 0 0) rfl q12 (by kernel_rfl) rfl rfl ?_; intro w3 q3 g3; have q23 := Held.keep_cells q2 g3 (by simp; omega))
    | (refine wpList_store_box (w := w3) rfl 29 _ _ rfl w1.heap.size rfl 29 _ (.int .i64 3) rfl q23 (by kernel_rfl) rfl rfl ?_; intro w4 q4 g4; have q34 := Held.keep_cells q3 g4 (by simp; omega)))
  exact bodyPost_ret (results_two rfl _ _ w.heap.size w1.heap.size _ _ rfl rfl (by kernel_rfl) (by kernel_rfl) (cell_of_one q34) (cell_of_one q4)) rfl ⟨rfl, (b2.grown g3 b2.size (fun r e => by cases e; omega)).grown g4 (Nat.le_trans b2.size g3.size) (fun r e => by cases e; omega)⟩
set_option maxRecDepth 100000 in
theorem takes_long (A : Option Addr) (n c : Nat) (size : Int) (w : World) (hs : mayS size = true) (hn : 32 * size < (n : Int)) :
    Calls Tryz.prog 26 #[.slice A n c, .int .i64 size] w fun e w' => e = .returned (.tuple #[.slice none 0 0, .int .i64 4]) ∧ Below w.heap.size w w' := by
  have hb : 1 ≤ size ∧ size ≤ 8 := by simpa [mayS] using hs
  have hn' : ¬ (n : Int) < 32 * size := by omega
  go_enter Tryz.func26, Tryz.ntmps26
  go_wp2_with (first
    | (refine wpList_alloc_cell (w := w) rfl 26 rfl (.slice none 0 0) (by kernel_rfl) rfl ?_; intro w1 q1 g1 z1)
    | (refine wpList_alloc_cell (w := w1) rfl 29 rfl (.int .i64 0) (by kernel_rfl) rfl ?_; intro w2 q2 g2 z2; have q12 := Held.keep_cells q1 g2 (by simp)))
  have l1 : w.heap.size < w1.heap.size := (Array.getElem?_eq_some_iff.1 q1).1
  have b2 : Below w.heap.size w w2 := ((Below.refl _ w).grown g1 (Nat.le_refl _) (by simp)).grown g2 g1.size (by simp)
  clear g1 g2 z1 z2 q1
  refine (bmay_any size w2).mono ?_
  rintro e u1 ⟨rfl, rfl⟩
  rw [hs]
  go_wp2_with fail
  refine (bplain_any size w2 (by omega) hb.2).mono ?_
  rintro e u1 ⟨rfl, rfl⟩
  go_wp2_with fail
  refine (bplain_any size w2 (by omega) hb.2).mono ?_
  rintro e u1 ⟨rfl, rfl⟩
  go_wp2_with (first
    | (refine wpList_store_box (w := w2) rfl 26 _ _ rfl w.heap.size rfl 26 _ (.slice none 0 0) rfl q12 (by kernel_rfl) rfl rfl ?_; intro w3 q3 g3; have q23 := Held.keep_cells q2 g3 (by simp; omega))
    | (refine wpList_store_box (w := w3) rfl 29 _ _ rfl w1.heap.size rfl 29 _ (.int .i64 4) rfl q23 (by kernel_rfl) rfl rfl ?_; intro w4 q4 g4; have q34 := Held.keep_cells q3 g4 (by simp; omega)))
  exact bodyPost_ret (results_two rfl _ _ w.heap.size w1.heap.size _ _ rfl rfl (by kernel_rfl) (by kernel_rfl) (cell_of_one q34) (cell_of_one q4)) rfl ⟨rfl, (b2.grown g3 b2.size (fun r e => by cases e; omega)).grown g4 (Nat.le_trans b2.size g3.size) (fun r e => by cases e; omega)⟩
def TkI (w : World) (r4 r5 g lb : Nat) (zs : List Int) (size k : Nat) (W : World) : Prop :=
  k ≤ size ∧ W.heap[r4]? = some (.cells #[.slice none 0 0] 26 (0, 0)) ∧ W.heap[r5]? = some (.cells #[.int .i64 0] 29 (0, 0)) ∧ W.heap[lb]? = some (.cells #[.slice (some ⟨g, 0, none⟩) k size] 26 (0, 0)) ∧
    OwnR W w.heap.size (.slice (some ⟨g, 0, none⟩) k size) (recsOf zs k) ∧ (∀ i, i < k → mayB (word zs i) = true) ∧ Below w.heap.size w W
def TkX (w : World) (r4 r5 : Nat) (zs : List Int) (size : Nat) (c : Code) (k : Nat) (W : World) : Prop :=
  c = .ret ∧ W.heap[r4]? = some (.cells #[.slice none 0 0] 26 (0, 0)) ∧ W.heap[r5]? = some (.cells #[.int .i64 4] 29 (0, 0)) ∧ allOk zs size = false ∧ Below w.heap.size w W
theorem TkI.far (w : World) (r4 r5 g lb : Nat) (zs : List Int) (size : Nat) {B : Nat} (hw : w.heap.size < B) (h4 : r4 < B) (h5 : r5 < B) (hg : g < B) (hl : lb < B) : Far B (TkI w r4 r5 g lb zs size) := by
  intro k W W' row ⟨h0, h1, h2, h3, ho, ha, hb⟩ hgr hr
  have hne : ∀ i, i < B → some i ≠ row := fun i hi e => by have := hr i e.symm; omega
  exact ⟨h0, Held.keep_cells h1 hgr (hne _ h4), Held.keep_cells h2 hgr (hne _ h5), Held.keep_cells h3 hgr (hne _ hl), ho.kept hgr (.inr (hne _ hg)), ha, hb.grown hgr hb.size (fun r e => by have := hr r e; omega)⟩
theorem TkX.far (w : World) (r4 r5 : Nat) (zs : List Int) (size : Nat) (c : Code) {B : Nat} (hw : w.heap.size < B) (h4 : r4 < B) (h5 : r5 < B) : Far B (TkX w r4 r5 zs size c) := by
  intro k W W' row ⟨h0, h1, h2, ha, hb⟩ hgr hr
  have hne : ∀ i, i < B → some i ≠ row := fun i hi e => by have := hr i e.symm; omega
  exact ⟨h0, Held.keep_cells h1 hgr (hne _ h4), Held.keep_cells h2 hgr (hne _ h5), ha, hb.grown hgr hb.size (fun r e => by have := hr r e; omega)⟩
theorem OwnR.cells_ {w : World} {base g n c : Nat} {rs : List R} (h : OwnR w base (.slice (some ⟨g, 0, none⟩) n c) rs) : ∃ cs, w.heap[g]? = some (.cells cs 37 (0, 0)) := by
  rcases h.2 with ⟨e, _⟩ | ⟨g', cap, cur, e, _, hgg, _⟩
  · cases e
  · injection e with e1
    injection e1 with e1
    injection e1 with e1
    subst e1
    exact ⟨_, hgg⟩
theorem atT_some {zs : List Int} {size k : Nat} {x : Array Value × Int} (h : atT zs size k = some x) : k < size ∧ x = (takenC (word zs k), takenE (word zs k)) := by
  unfold atT at h
  split at h
  · rename_i hk
    injection h with h
    exact ⟨hk, h.symm⟩
  · cases h
theorem atT_none {zs : List Int} {size k : Nat} (h : atT zs size k = none) : ¬ k < size := by
  unfold atT at h
  split at h
  · cases h
  · assumption
set_option maxRecDepth 100000 in
set_option maxHeartbeats 4000000 in
theorem takes_at (B : Nat) (b off c n : Nat) (zs : List Int) (size : Nat) (w : World) (h : Ints w .u8 B (some ⟨b, off, none⟩) n zs) (hb : b < B) (hB : B ≤ w.heap.size) (hc : n ≤ c) (hn : 32 * size = n) (h1 : 1 ≤ size) (h8 : size ≤ 8) :
    Calls Tryz.prog 26 #[.slice (some ⟨b, off, none⟩) n c, .int .i64 (size : Int)] w fun e w' => ∃ A' n' c', e = .returned (.tuple #[.slice A' n' c', .int .i64 (if allOk zs size = true then 0 else 4)]) ∧ OwnR w' w.heap.size (.slice A' n' c') (if allOk zs size = true then recsOf zs size else []) ∧ Below w.heap.size w w' := by
  have hs : mayS (size : Int) = true := by simp [mayS]; omega
  have hs0 : (0 : Int) ≤ (size : Int) := by omega
  have hs8 : (size : Int) ≤ 8 := by omega
  have HNI := Lib.hid (show 32 * (size : Int) = (n : Int) by omega)
  have HL := Lib.hid h.1
  have hit := fun M bx S w6 hx hSx hI hSB hB6 => taken_stop M bx S B b off n c zs size w6 hx hSx hI hSB hb hB6 hn hc h8
  have HN := Lib.hid hn
  clear hn
  obtain ⟨E, hE⟩ : ∃ E, (if allOk zs size = true then (0 : Int) else 4) = E := ⟨_, rfl⟩
  obtain ⟨RR, hRR⟩ : ∃ RR, (if allOk zs size = true then recsOf zs size else []) = RR := ⟨_, rfl⟩
  rw [hE, hRR]
  have HEE := Lib.hid hE
  have HRR := Lib.hid hRR
  clear hE hRR
  obtain ⟨i0, hi0, hsb⟩ := Option.map_eq_some_iff.1 info_recs
  simp only [Prod.mk.injEq] at hsb
  have hz0 : i0.zero = some (.agg #[.bool false, .int .i64 0, .int .i64 0, .int .i64 0]) := by
    have := zero_rec
    rw [hi0] at this
    exact this
  refine (callsIn_wide (n := 3)).1 ?_
  refine callsIn_of_wp_marks Tryz.func26 rfl trivial ?_ rfl
  simp only [Tryz.ntmps26, List.size_toArray, List.length_cons, List.length_nil, Nat.reduceAdd, Nat.reduceSub, Array.replicate_succ, Array.replicate_zero, List.push_toArray, List.append_toArray, List.nil_append, List.cons_append]
  refine wpIn_wide.2 ?_
  go_wp2_with (first
    | (refine wpList_alloc_cell (w := w) rfl 26 rfl (.slice none 0 0) (by kernel_rfl) rfl ?_; intro w1 q1 g1 z1)
    | (refine wpList_alloc_cell (w := w1) rfl 29 rfl (.int .i64 0) (by kernel_rfl) rfl ?_; intro w2 q2 g2 z2; have q12 := Held.keep_cells q1 g2 (by simp)))
  have l1 : w.heap.size < w1.heap.size := (Array.getElem?_eq_some_iff.1 q1).1
  have b2 : Below w.heap.size w w2 := ((Below.refl _ w).grown g1 (Nat.le_refl _) (by simp)).grown g2 g1.size (by simp)
  clear g1 g2 z1 z2 q1
  refine (bmay_any (size : Int) w2).mono ?_
  rintro e u1 ⟨rfl, rfl⟩
  rw [hs]
  go_wp2_with fail
  refine (bplain_any (size : Int) w2 hs0 hs8).mono ?_
  rintro e u1 ⟨rfl, rfl⟩
  rw [HNI.out]
  go_wp2_with fail
  refine (bplain_any (size : Int) w2 hs0 hs8).mono ?_
  rintro e u1 ⟨rfl, rfl⟩
  rw [HNI.out]
  go_wp2_with (first
    | (refine wpList_make_own w2 rfl _ _ 26 rfl w.heap.size 37 i0 (.agg #[.bool false, .int .i64 0, .int .i64 0, .int .i64 0]) 4 Tryz.underlying26 hi0 hz0 hsb.1 .i64 .i64 _ size rfl rfl rfl (by rw [hsb.2]; omega) (by unfold maxLen; omega) b2.size ?_; intro w3 o3 g3)
    | (refine wpList_alloc_cell (w := w3) rfl 26 rfl (.slice none 0 0) (by kernel_rfl) rfl ?_; intro w4 q4 g4 z4)
    | (refine wpList_store_box (w := w4) rfl 26 _ _ rfl w3.heap.size rfl 26 _ (.slice (some ⟨w2.heap.size, 0, none⟩) 0 size) rfl q4 (by kernel_rfl) rfl rfl ?_; intro w5 q5 g5))
  have l3 : w2.heap.size < w3.heap.size := (o3.lt _ rfl).2
  have l2 : w1.heap.size < w2.heap.size := (Array.getElem?_eq_some_iff.1 q2).1
  have s4 := g4.size
  have p1 : w5.heap[w.heap.size]? = some (.cells #[.slice none 0 0] 26 (0, 0)) := Held.keep_cells (Held.keep_cells (Held.keep_cells q12 g3 (by simp)) g4 (by simp)) g5 (by simp; omega)
  have p2 : w5.heap[w1.heap.size]? = some (.cells #[.int .i64 0] 29 (0, 0)) := Held.keep_cells (Held.keep_cells (Held.keep_cells q2 g3 (by simp)) g4 (by simp)) g5 (by simp; omega)
  have b5 : Below w.heap.size w w5 := ((b2.grown g3 b2.size (by simp)).grown g4 (by omega) (by simp)).grown g5 (by omega) (fun r e => by cases e; omega)
  have o5 : OwnR w5 w.heap.size (.slice (some ⟨w2.heap.size, 0, none⟩) 0 size) (recsOf zs 0) := by
    have o0 : OwnR w3 w.heap.size (.slice (some ⟨w2.heap.size, 0, none⟩) 0 size) [] := o3
    exact (o0.kept g4 (.inr (by simp [Value.ownBlock]))).kept g5 (.inr (fun e => by have e : some w2.heap.size = some w3.heap.size := e; injection e with e; omega))
  have l5 : w3.heap.size < w5.heap.size := (Array.getElem?_eq_some_iff.1 q5).1
  have k5 : TkI w w.heap.size w1.heap.size w2.heap.size w3.heap.size zs size 0 w5 := ⟨by omega, p1, p2, q5, o5, fun i hi => absurd hi (by omega), b5⟩
  clear p1 p2 q5 o5 b5 o3 g3 q4 g4 z4 g5 q12 q2 s4 b2
  refine (taken_any (some ⟨b, off, none⟩) n c w5).mono ?_
  rintro e w6 ⟨bx, rfl, qx, hbx, b6⟩
  have k6 : TkI w w.heap.size w1.heap.size w2.heap.size w3.heap.size zs size 0 w6 := TkI.far w _ _ _ _ zs size (B := w5.heap.size) (by omega) (by omega) (by omega) (by omega) l5 0 w5 w6 none k5 (grown_of_below b6 none) (fun r e => by cases e)
  have l6 : w3.heap.size < w6.heap.size := Nat.lt_of_lt_of_le l5 b6.size
  have c6 : Below w.heap.size w w6 := k6.2.2.2.2.2.2
  have hit := fun M => hit M bx (fun b => b = w.heap.size ∨ b = w1.heap.size ∨ b = w2.heap.size ∨ b = w3.heap.size) w6 (qx.cell rfl) (by omega) (h.below (c6.mono hB)) (fun b hb => by omega) (Nat.le_trans hB c6.size)
  clear k5 b6 qx hbx c6 h hb
  go_wp2_with fail
  refine (wpIn_wide (n := 3)).1 ?_
  refine wpIn_rangeFunc_stop rfl (by omega) (gf := 71) (lb := #[.pointer (some ⟨bx, 0, none⟩)]) rfl trivial (enters_of Tryz.func71 (by kernel_rfl) rfl)
    (hit _) (fun h k => h.trans k) (fun W l o o' hl ho hc _ => Only.put W l o o' ho hc) (Below.refl _ _) (fun _ => rfl)
    (size + 1) (TkI w w.heap.size w1.heap.size w2.heap.size w3.heap.size zs size) (TkX w w.heap.size w1.heap.size zs size) (TkI.far w _ _ _ _ zs size (by omega) (by omega) (by omega) (by omega) (by omega)) (fun c => TkX.far w _ _ zs size c (by omega) (by omega) (by omega)) (fun k W h => by have := h.1; omega) k6
    (fun x a' k W => TkI w w.heap.size w1.heap.size w2.heap.size w3.heap.size zs size k W ∧ ∃ p, w3.heap.size < p ∧ Blk W p 37 x.1 ∧ a' = { tmps := #[.slice (some ⟨b, off, none⟩) n c, .int .i64 (size : Int), undef, undef, .pointer (some ⟨w.heap.size, 0, none⟩), .pointer (some ⟨w1.heap.size, 0, none⟩), .pointer (some ⟨w3.heap.size, 0, none⟩), .pointer (some ⟨p, 0, none⟩), .int .i64 x.2, .int .i64 (size : Int), .bool true, .bool false, .slice (some ⟨b, off, none⟩) n c, .int .i64 (n : Int), .int .i64 (size : Int), .int .i64 (n : Int), .bool false, .slice (some ⟨b, off, none⟩) n c, .int .i64 (n : Int), .int .i64 (size : Int), .int .i64 (n : Int), .bool false, .int .i64 (size : Int), .slice (some ⟨w2.heap.size, 0, none⟩) 0 size, .slice (some ⟨b, off, none⟩) n c, .func (.func 71) #[] #[.pointer (some ⟨bx, 0, none⟩)], .agg x.1, .int .i64 x.2, undef, undef, undef, undef, undef, undef, undef, undef], defers := [] }) ?ib ?assign ?body ?done ?stop
  case ib =>
    rintro x a' k W W' row ⟨hi, p, hp, hr, h3⟩ hgr hrow
    exact ⟨TkI.far w _ _ _ _ zs size (B := w6.heap.size) (by omega) (by omega) (by omega) (by omega) (by omega) k W W' row hi hgr (fun r e => (hrow r e).1), p, hp, blk_own hr hgr hrow, h3⟩
  case assign =>
    intro l k x W K hi hat hsz hK
    obtain ⟨hks, hx⟩ := atT_some hat
    have HX1 := Lib.hid (show x.1.size = 4 by rw [hx]; exact takenC_size _)
    have HX2 := Lib.hid (show x.1.all (·.oneCell') = true by rw [hx]; exact takenC_one _)
    clear hx
    have hz : (#[26, 27].zip (encT x)) = #[(26, .agg x.1), (27, .int .i64 x.2)] := by simp [encT]
    simp only [encT, Held.zip_two, List.setIfInBounds_toArray, List.set_cons_zero, List.set_cons_succ]
    gi_wp2_with (first
      | (refine Held.wpListIn_one (r := some l) rfl (by intro c e; cases e) ?_; refine wpList_alloc_blk (w := W) rfl 37 rfl _ zero_rec ?_; intro v2 q2 g2 z2; refine wpList_nil ⟨rfl, ?_⟩)
      | (refine Held.wpListIn_one (r := some l) rfl (by intro c e; cases e) ?_; refine wpList_store_blk (w := v2) rfl 37 _ _ rfl W.heap.size 4 rfl 37 _ x.1 rfl q2 info_rec HX1.out rfl HX2.out ?_; intro v3 q3 g3 z3; refine wpList_nil ⟨rfl, ?_⟩))
    have b3 : Below W.heap.size W v3 := ((Below.refl _ W).grown g2 (Nat.le_refl _) (by simp)).grown g3 g2.size (fun r e => by cases e; exact Nat.le_refl _)
    exact hK _ _ ((Held.others_of_new g2).trans (Held.others_of_grown q2 g3)) (Only.of_below b3) ⟨TkI.far w _ _ _ _ zs size (B := W.heap.size) (by omega) (by omega) (by omega) (by omega) (by omega) k _ _ none hi (grown_of_below b3 none) (fun r e => by cases e), W.heap.size, by omega, q3, rfl⟩
  case body =>
    rintro l k x a' W hl hrec ⟨⟨i0, i1, i2, i3, i4, i5, i6⟩, p, hp, hr, rfl⟩ hat hsz
    obtain ⟨hks, rfl⟩ := atT_some hat
    clear hat hrec hit
    by_cases hm : mayB (word zs k) = true
    · have hwl := word_length (i := k) (by rw [HL.out, HN.out]) hks
      have HC := Lib.hid (show takenC (word zs k) = #[.bool (recT (word zs k)).d, .int .i64 (recT (word zs k)).k, .int .i64 (recT (word zs k)).v, .int .i64 (recT (word zs k)).s] by
        unfold takenC
        rw [if_pos ⟨hwl, hm⟩]
        rfl)
      have HE := Lib.hid (show takenE (word zs k) = 0 by
        unfold takenE
        rw [if_neg (by omega), if_pos ⟨hwl, hm⟩])
      have HALL := Lib.hid (show ∀ i, i < k + 1 → mayB (word zs i) = true from fun i hi => by
        by_cases hik : i < k
        · exact i5 i hik
        · rw [show i = k by omega]; exact hm)
      have HS := Lib.hid (recsOf_snoc zs k)
      have hrw := recT_wf (word zs k)
      have HRL := Lib.hid (recsOf_length zs k)
      have HRL2 := Lib.hid (recsOf_length zs (k + 1))
      dsimp only at hr ⊢
      rw [HC.out] at hr
      rw [HC.out, HE.out]
      generalize recT (word zs k) = x at HC HS hrw hr
      have cl := cell_of_one i3
      have hWW : w6.heap.size ≤ W.heap.size := hsz
      obtain ⟨cs, hcs⟩ := i4.cells_
      clear hm i5 hwl HC
      gi_wp2_with (first
        | (refine Held.wpListIn_one (r := some l) rfl (by intro c e; cases e) ?_; refine wpList_load_blk (w := W) rfl 37 _ rfl p 4 rfl 37 _ hr _ Tryz.underlying37 rfl (by kernel_rfl) rfl ?_; refine wpList_nil ⟨rfl, ?_⟩)
        | (refine Held.wpListIn_one (r := some l) rfl (by intro c e; cases e) ?_; refine wpList_build_rec (w := W) rfl _ rfl x rfl ?_; intro v2 q2 g2 z2; refine wpList_nil ⟨rfl, ?_⟩; have r2 : Recs v2 v2.heap.size (some ⟨W.heap.size, 0, none⟩) 1 [x] := recs_of_blk (rs := [x]) (qs := []) (by rw [List.append_nil, flat_one]; exact q2) (fun r hr => by rw [List.mem_singleton.1 hr]; exact hrw); have o2 : OwnR v2 w.heap.size (.slice (some ⟨w2.heap.size, 0, none⟩) (recsOf zs k).length size) (recsOf zs k) := (by rw [HRL.out]; exact i4.kept g2 (.inr (by simp [Value.ownBlock]))); obtain ⟨v3, hrun, o3, g3⟩ := run_append_recs_fits v2 w.heap.size w2.heap.size size v2.heap.size 1 1 (some ⟨W.heap.size, 0, none⟩) (recsOf zs k) [x] o2 r2 (by rw [HRL.out]; omega); rw [HRL.out] at hrun o3)
        | (refine Held.wpListIn_one (r := some l) rfl (by intro c e; cases e) ?_; refine wpList_append_ran (w := v2) rfl _ _ 26 26 rfl (.slice (some ⟨w2.heap.size, 0, none⟩) k size) (.slice (some ⟨W.heap.size, 0, none⟩) 1 1) _ v3 rfl rfl hrun ?_; refine wpList_nil ⟨rfl, ?_⟩)
        | (refine Held.wpListIn_store_box (w := v3) rfl 26 _ _ rfl w3.heap.size rfl 26 _ (.slice (some ⟨w2.heap.size, 0, none⟩) (k + 1) size) rfl (Held.keep_cells (Held.keep_cells i3 g2 (by simp)) g3 (by simp; omega)) (by kernel_rfl) rfl rfl ?_; intro v4 q4 g4))
      have o4 : OwnR v4 w.heap.size (.slice (some ⟨w2.heap.size, 0, none⟩) (k + 1) size) (recsOf zs (k + 1)) := by
        have o3' : OwnR v3 w.heap.size (.slice (some ⟨w2.heap.size, 0, none⟩) (k + 1) size) (recsOf zs (k + 1)) := by
          unfold OwnR
          rw [HRL2.out, HS.out]
          exact o3
        exact o3'.kept g4 (.inr (by simp [Value.ownBlock]; omega))
      have kp : ∀ {i : Nat} {cs : Array Value} {t : TypeId}, W.heap[i]? = some (.cells cs t (0, 0)) → i ≠ w2.heap.size → i ≠ w3.heap.size → v4.heap[i]? = some (.cells cs t (0, 0)) := fun h ha hb => Held.keep_cells (Held.keep_cells (Held.keep_cells h g2 (by simp)) g3 (by simpa using ha)) g4 (by simpa using hb)
      have b4 : Below w.heap.size w v4 := ((i6.grown g2 i6.size (by simp)).grown g3 (Nat.le_trans i6.size g2.size) (fun r e => by cases e; omega)).grown g4 (Nat.le_trans (Nat.le_trans i6.size g2.size) g3.size) (fun r e => by cases e; omega)
      exact ⟨((Held.others_of_new g2).trans (Held.others_of_grown (Held.keep_cells hcs g2 (by simp)) g3)).trans (Held.others_of_grown (Held.keep_cells (Held.keep_cells i3 g2 (by simp)) g3 (by simp; omega)) g4),
        ((Only.of_grown g2 (fun r e => by cases e)).trans (Only.of_grown g3 (fun r e => by cases e; exact .inr (.inr (.inl rfl))))).trans (Only.of_grown g4 (fun r e => by cases e; exact .inr (.inr (.inr rfl)))),
        by omega, kp i1 (by omega) (by omega), kp i2 (by omega) (by omega), q4, o4, HALL.out, b4⟩
    · have HE := Lib.hid (show takenE (word zs k) = 4 by
        unfold takenE
        rw [if_neg (by have := word_length (i := k) (by rw [HL.out, HN.out]) hks; omega), if_neg (fun h => hm h.2)])
      have HA := Lib.hid (show allOk zs size = false by
        cases hq : allOk zs size
        · rfl
        · exact absurd (allOk_iff.1 hq k hks) hm)
      dsimp only at hr ⊢
      rw [HE.out]
      generalize takenC (word zs k) = C at hr
      clear hm i5
      gi_wp2_with (first
        | (refine Held.wpListIn_store_box (w := W) rfl 26 _ _ rfl w.heap.size rfl 26 _ (.slice none 0 0) rfl i1 (by kernel_rfl) rfl rfl ?_; intro v2 q2 g2)
        | (refine Held.wpListIn_store_box (w := v2) rfl 29 _ _ rfl w1.heap.size rfl 29 _ (.int .i64 4) rfl (Held.keep_cells i2 g2 (by simp; omega)) (by kernel_rfl) rfl rfl ?_; intro v3 q3 g3))
      exact ⟨(Held.others_of_grown i1 g2).trans (Held.others_of_grown (Held.keep_cells i2 g2 (by simp; omega)) g3), rfl, Held.keep_cells q2 g3 (by simp; omega), q3, HA.out, (i6.grown g2 i6.size (fun r e => by cases e; omega)).grown g3 (Nat.le_trans i6.size g2.size) (fun r e => by cases e; omega)⟩
  case done =>
    rintro D k W hD hat ⟨i0, i1, i2, i3, i4, i5, i6⟩ hDl
    obtain rfl : k = size := by have := atT_none hat; omega
    have HA := Lib.hid (allOk_iff.2 i5)
    have cl := cell_of_one i3
    have hDW : D < W.heap.size := (Array.getElem?_eq_some_iff.1 hDl).1
    clear i5 hat hit
    go_wp2_with (first
      | (refine wpList_store_box (w := W) rfl 26 _ _ rfl w.heap.size rfl 26 _ (.slice (some ⟨w2.heap.size, 0, none⟩) k k) rfl i1 (by kernel_rfl) rfl rfl ?_; intro v2 q2 g2)
      | (refine wpList_store_box (w := v2) rfl 29 _ _ rfl w1.heap.size rfl 29 _ (.int .i64 0) rfl (Held.keep_cells i2 g2 (by simp; omega)) (by kernel_rfl) rfl rfl ?_; intro v3 q3 g3))
    have d3 := (g3.block D (by have := g2.size; omega) (by simp; omega)).trans ((g2.block D hDW (by simp; omega)).trans hDl)
    have o3 := (i4.kept g2 (.inr (by simp [Value.ownBlock]; omega))).kept g3 (.inr (by simp [Value.ownBlock]; omega))
    have b3 : Below w.heap.size w v3 := (i6.grown g2 i6.size (fun r e => by cases e; omega)).grown g3 (Nat.le_trans i6.size g2.size) (fun r e => by cases e; omega)
    refine ⟨by simp, .inl ⟨_, _, rfl, run_takeDeferred d3, ?_⟩⟩
    refine ⟨_, results_two rfl _ _ w.heap.size w1.heap.size _ _ rfl rfl (by kernel_rfl) (by kernel_rfl) (cell_of_one ((World.putObj_heap_other (by omega)).trans (Held.keep_cells q2 g3 (by simp; omega)))) (cell_of_one ((World.putObj_heap_other (by omega)).trans q3)), some ⟨w2.heap.size, 0, none⟩, k, k, by rw [← HEE.out, HA.out]; rfl, ?_, b3.grown (grownBy_putObj' _ D _) b3.size (fun r e => by cases e; omega)⟩
    rw [← HRR.out, HA.out]
    exact o3.kept (grownBy_putObj' _ D _) (.inr (by simp [Value.ownBlock]; omega))
  case stop =>
    rintro D c k W hD ⟨rfl, i1, i2, ha, i6⟩ hDl
    clear hit
    gi_wp2_with fail
    refine ⟨by simp, .inl ⟨_, _, rfl, run_takeDeferred hDl, ?_⟩⟩
    refine ⟨_, results_two rfl _ _ w.heap.size w1.heap.size _ _ rfl rfl (by kernel_rfl) (by kernel_rfl) (cell_of_one ((World.putObj_heap_other (by omega)).trans i1)) (cell_of_one ((World.putObj_heap_other (by omega)).trans i2)), none, 0, 0, by rw [← HEE.out, ha]; rfl, ?_, i6.grown (grownBy_putObj' _ D _) i6.size (fun r e => by cases e; omega)⟩
    rw [← HRR.out, ha]
    exact OwnR.nil _ _
theorem takes_any (B : Nat) (A : Option Addr) (n c : Nat) (zs : List Int) (size : Int) (w : World) (h : Ints w .u8 B A n zs) (hB : B ≤ w.heap.size) (hc : n ≤ c) :
    Calls Tryz.prog 26 #[.slice A n c, .int .i64 size] w fun e w' => ∃ A' n' c', e = .returned (.tuple #[.slice A' n' c', .int .i64 (takesE zs size)]) ∧ OwnR w' w.heap.size (.slice A' n' c') (takesR zs size) ∧ Below w.heap.size w w' := by
  have hl := h.1
  by_cases hs : mayS size = true
  · have hb : 1 ≤ size ∧ size ≤ 8 := by simpa [mayS] using hs
    by_cases h1 : (n : Int) < 32 * size
    · refine (takes_short A n c size w hs h1).mono ?_
      rintro e w' ⟨rfl, hw⟩
      refine ⟨none, 0, 0, ?_, ?_, hw⟩
      · unfold takesE
        rw [if_neg (by simp [hs]), hl, if_pos h1]
      · unfold takesR
        rw [if_neg (fun h => by have := h.2.1; omega)]
        exact OwnR.nil _ _
    · by_cases h2 : 32 * size < (n : Int)
      · refine (takes_long A n c size w hs h2).mono ?_
        rintro e w' ⟨rfl, hw⟩
        refine ⟨none, 0, 0, ?_, ?_, hw⟩
        · unfold takesE
          rw [if_neg (by simp [hs]), hl, if_neg h1, if_pos h2]
        · unfold takesR
          rw [if_neg (fun h => by have := h.2.1; omega)]
          exact OwnR.nil _ _
      · obtain ⟨q, rfl⟩ : ∃ q : Nat, (q : Int) = size := ⟨size.toNat, by omega⟩
        have hn : n = 32 * q := by omega
        subst hn
        obtain ⟨b, off, rfl, hbB, _⟩ := h.2.2 (by omega)
        refine (takes_at B b off c _ zs q w h hbB hB hc rfl (by omega) (by omega)).mono ?_
        rintro e w' ⟨A', n', c', rfl, ho, hw⟩
        refine ⟨A', n', c', ?_, ?_, hw⟩
        · have HE : takesE zs (q : Int) = if allOk zs q = true then 0 else 4 := by
            unfold takesE
            rw [if_neg (by simp [hs]), hl, if_neg h1, if_neg h2]
            rfl
          rw [HE]
        · unfold takesR
          rw [hl, Int.toNat_natCast]
          by_cases ha : allOk zs q = true
          · rw [if_pos ha] at ho
            rw [if_pos ⟨hs, by omega, ha⟩]
            exact ho
          · rw [if_neg ha] at ho
            rw [if_neg (fun h => ha h.2.2)]
            exact ho
  · have hs' : mayS size = false := by simpa using hs
    refine (takes_bad A n c size w hs').mono ?_
    rintro e w' ⟨rfl, hw⟩
    refine ⟨none, 0, 0, ?_, ?_, hw⟩
    · unfold takesE
      rw [if_pos hs']
    · unfold takesR
      rw [if_neg (fun h => hs h.1)]
      exact OwnR.nil _ _
end Go.Proofs.YtjelacblnjbfgaaGreatDoor.Rs
namespace Go.Proofs.YtjelacblnjbfgaaGreatDoor.Ae
open Go.RowKit Go.Shelf Go.Proofs.YtjelacblnjbfgaaGreatDoor Mem Help Go.Proofs.YtjelacblnjbfgaaGreatDoor.Sum Po
def Arg (w : World) (B : Nat) (A : Option Addr) (n c : Nat) (zs : List Int) : Prop := Ints w .u8 B A n zs ∧ B ≤ w.heap.size ∧ Flat A c ∧ n ≤ c ∧ c ≤ maxLen
section
variable {w w' : World} {B n c : Nat} {A : Option Addr} {zs : List Int}
theorem Arg.ints (h : Arg w B A n c zs) : Ints w .u8 B A n zs := h.1
theorem Arg.len (h : Arg w B A n c zs) : zs.length = n := h.1.1
theorem Arg.bytes (h : Arg w B A n c zs) : Bs zs := Cha.bs_of_ints h.1
theorem Arg.below (h : Arg w B A n c zs) (hb : Below B w w') : Arg w' B A n c zs := ⟨h.1.below hb, Nat.le_trans h.2.1 hb.size, h.2.2⟩
theorem Arg.more (h : Arg w B A n c zs) {B' : Nat} (hB : B ≤ B') (hB' : B' ≤ w.heap.size) : Arg w B' A n c zs := ⟨h.1.more hB, hB', h.2.2⟩
theorem Arg.nil (w : World) (B : Nat) (hB : B ≤ w.heap.size) : Arg w B none 0 0 [] := ⟨Ints.nil _ _ _ _, hB, .inl rfl, Nat.le_refl _, by simp [maxLen]⟩
theorem Arg.front (h : Arg w B A n c zs) {m : Nat} (hm : m ≤ n) : Arg w B A m c (zs.take m) := ⟨h.1.front hm, h.2.1, h.2.2.1, Nat.le_trans hm h.2.2.2.1, h.2.2.2.2⟩
end
theorem arg_of_own {w : World} {base : Nat} {A : Option Addr} {n c : Nat} {zs : List Int} (h : Mem.Own w base 5 .u8 (.slice A n c) zs) (hn : zs.length = n) : Arg w w.heap.size A n c zs := by
  have hf := h.flat
  obtain ⟨_, _, ev, h1, h2, hi⟩ := h.form
  rw [hn] at ev h1 hi
  cases ev
  exact ⟨hi, Nat.le_refl _, hf, h1, h2⟩
end Go.Proofs.YtjelacblnjbfgaaGreatDoor.Ae
