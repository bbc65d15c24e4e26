/-
  The function Blocks of package chacha by its contract: an iterator without end. Conditions: a key of 32 bytes, a nonce of 12, a counter of 32 bits; the table of package chacha lies where the program's text lays it.
-/
import Derived.Test.YtejgnjnmlojdpaaDoorCh4
import Derived.Deep.LoopGhost
namespace Go.Proofs.YtejgnjnmlojdpaaDoor.Cha
open Go.RowKit Go.Shelf Go.Proofs.YtejgnjnmlojdpaaDoor.Mem Go.Proofs.YtejgnjnmlojdpaaDoor.Help Go.Proofs.YtejgnjnmlojdpaaDoor.Sum Go.Proofs.YtejgnjnmlojdpaaDoor.Cc Go.Proofs.YtejgnjnmlojdpaaDoor.Sha Go.Proofs.YtejgnjnmlojdpaaDoor.Range Go.Proofs.YtejgnjnmlojdpaaDoor
set_option linter.unusedVariables false
attribute [local go_sem] Oper.semAt_some
attribute [local irreducible] wpList wpListIn

theorem _root_.Go.Proofs.YtejgnjnmlojdpaaDoor.Sha.Tab.only {S : Nat → Prop} {w w' : World} {g : Nat} {zs : List Int} (h : Tab w g zs) (ho : Only S w w') (hg : ¬ S g) : Tab w' g zs := by
  obtain ⟨t, fr, h⟩ := h
  exact ⟨t, fr, ho.block g _ hg h rfl⟩
theorem info_k32 : (Tryd.prog.info? 22).map (·.size) = some 32 := by kernel_rfl
theorem info_n12 : (Tryd.prog.info? 24).map (·.size) = some 12 := by kernel_rfl

theorem blocks_any (key nonce : List Int) (ctr : Int) (w : World) (hkb : Bs key) (hnb : Bs nonce) :
    Calls Tryd.prog 12 #[.agg (arr .u8 key), .agg (arr .u8 nonce), .int .u32 ctr] w fun e w' => ∃ xk xn xc, e = .returned (.func (.func 27) #[] #[.pointer (some ⟨xc, 0, none⟩), .pointer (some ⟨xk, 0, none⟩), .pointer (some ⟨xn, 0, none⟩)]) ∧
      Row w' xk 22 .u8 key ∧ Row w' xn 24 .u8 nonce ∧ w'.heap[xc]? = some (.cells #[.int .u32 ctr] 23 (0, 0)) ∧ w.heap.size ≤ xk ∧ w.heap.size ≤ xn ∧ w.heap.size ≤ xc ∧ Below w.heap.size w w' := by
  go_enter Tryd.func12, Tryd.ntmps12
  go_wp2_with (first
    | (refine wpList_box_Row (w := w) rfl 22 _ rfl .u8 key rfl (bs_wf hkb) ?_; intro w1 r1 g1 z1)
    | (refine wpList_box_Row (w := w1) rfl 24 _ rfl .u8 nonce rfl (bs_wf hnb) ?_; intro w2 r2 g2 z2)
    | (refine Held.wpList_box_cell (w := w2) rfl 23 _ rfl (.int .u32 ctr) rfl rfl ?_; intro w3 h3 g3 z3))
  go_ret
  have s1 := g1.size
  have s2 := g2.size
  exact ⟨_, _, _, rfl, (r1.grown g2 (by simp)).grown g3 (by simp), r2.grown g3 (by simp), h3, Nat.le_refl _, by omega, by omega, (((Below.refl _ w).grown g1 (Nat.le_refl _) (by simp)).grown g2 (by omega) (by simp)).grown g3 (by omega) (by simp)⟩

theorem addI_succ (c : Int) (k : Nat) : addI (addI c (k : Int)) 1 = addI c ((k + 1 : Nat) : Int) := by unfold addI; omega

set_option maxRecDepth 100000 in
set_option maxHeartbeats 8000000 in
theorem blocks_stop (n xk xn xc : Nat) (S : Nat → Prop) (key nonce : List Int) (ctr : Int) (w : World) (h1 : Row w xk 22 .u8 key) (h2 : Row w xn 24 .u8 nonce) (h3 : w.cell? ⟨xc, 0, none⟩ = some (.int .u32 ctr)) (hS1 : ¬ S xk) (hS2 : ¬ S xn) (hS3 : ¬ S xc)
    (hk : key.length = 32) (hkb : Bs key) (hn : nonce.length = 12) (hnb : Bs nonce) (hc : R32 ctr) (ht0 : Tab w 0 sigma) (hg0 : ¬ S 0) :
    SeqStop Fence.wide n Tryd.prog 27 #[.pointer (some ⟨xc, 0, none⟩), .pointer (some ⟨xk, 0, none⟩), .pointer (some ⟨xn, 0, none⟩)] (fun x => #[.agg (arr .u8 x)]) (Only S) (fun k => some (Cc.block key (addI ctr ((k : Nat) : Int)) nonce)) w := by
  intro l J Jx N W hW hJ hJx hN hY h0
  have k1 := h1.below hW h1.lt
  have k2 := h2.below hW h2.lt
  have k3 := (hW.cell (p := ⟨xc, 0, none⟩) (World.block_lt_of_cell? w _ h3)).trans h3
  have u0 := ht0.below hW ht0.lt
  have HK := Lib.hid hk
  have HN := Lib.hid hn
  have hc0 : addI ctr ((0 : Nat) : Int) = ctr := by unfold R32 at hc; unfold addI; omega
  clear h1 h2 h3 ht0 hW hk hn
  refine callsIn_of_wp Tryd.func27 rfl trivial ?_ rfl
  simp only [Tryd.ntmps27, List.size_toArray, List.length_cons, List.length_nil, Nat.reduceAdd, Nat.reduceSub, Array.replicate_succ, Array.replicate_zero, List.push_toArray, List.append_toArray, List.nil_append, List.cons_append]
  gi_wp2_with fail
  gi_loopw [5] (fun v wr => ∃ k : Nat, v = .int .u32 (addI ctr (k : Int)) ∧ J k wr ∧ Only S W wr) (fun v wr => leastOf fun m => ∃ k : Nat, m = N - k ∧ v = .int .u32 (addI ctr (k : Int)) ∧ J k wr ∧ Only S W wr)
  case atStart => exact ⟨0, by rw [hc0], h0, Only.refl _ _⟩
  case round =>
    obtain ⟨k, hm, rfl, Jk, ok⟩ := (leastOf_spec (p := fun m => ∃ k : Nat, m = N - k ∧ u5 = .int .u32 (addI ctr (k : Int)) ∧ J k wr ∧ Only S W wr) (by obtain ⟨k, h⟩ := hrel; exact ⟨_, k, rfl, h⟩)).1
    have HM := Lib.hid hm
    clear hrel hm
    have q1 := ok.row hS1 k1
    have q2 := ok.row hS2 k2
    have hT := u0.only ok hg0
    gi_wp2_with (first
      | (refine wpListIn_load_Row (w := wr) rfl 22 _ rfl xk rfl 22 .u8 _ q1 32 5 Tryd.underlying22 info_k32 HK.out ?_)
      | (refine wpListIn_load_Row (w := wr) rfl 24 _ rfl xn rfl 24 .u8 _ q2 12 5 Tryd.underlying24 info_n12 HN.out ?_))
    refine ⟨trivial, fun h => (by cases h), ?_⟩
    refine (callsIn_wide.2 (block_any key nonce (addI ctr (k : Int)) wr HK.out hkb HN.out hnb (r32_add _ _) hT)).mono ?_
    rintro e W3 ⟨rfl, b3⟩
    have J3 := hJ k wr W3 none Jk (grown_of_below b3 none) (fun r e => by cases e)
    have o3 : Only S wr W3 := Only.of_below b3
    obtain ⟨fn, tmps, assign, body, hy, hR⟩ := hY k _ W3 J3 rfl
    gi_wp2_with fail
    refine ⟨fun h => (by cases h), ?_⟩
    refine hR.mono ?_
    rintro e W4 (⟨rfl, J4, o4⟩ | ⟨rfl, Jx4⟩)
    · have hw5 : (addI ctr (k : Int) + 1) % 4294967296 = addI ctr ((k + 1 : Nat) : Int) := addI_succ ctr k
      have o5 := (ok.trans o3).trans o4
      have hkN := hN k wr Jk
      have HL := Lib.hid ((leastOf_spec (p := fun m => ∃ k' : Nat, m = N - k' ∧ Value.int .u32 (addI ctr ((k + 1 : Nat) : Int)) = .int .u32 (addI ctr (k' : Int)) ∧ J k' W4 ∧ Only S W W4) ⟨_, k + 1, rfl, rfl, J4, o5⟩).2 (N - (k + 1)) ⟨k + 1, rfl, rfl, J4, o5⟩)
      gi_wp2_with fail
      go_roundw
      case rel => exact ⟨k + 1, by first | rfl | rw [hw5], J4, o5⟩
      case measure =>
        rw [hw5]
        exact Nat.lt_of_le_of_lt HL.out (by rw [HM.out]; omega)
    · gi_wp2_with fail
      go_end0
      exact ⟨⟨_, rfl⟩, .inr ⟨_, Jx4⟩⟩
end Go.Proofs.YtejgnjnmlojdpaaDoor.Cha

