/-
  The functions length and onceKey of package aead by their contracts: how many bytes there are, in eight bytes; the key of a tag.
  The iterator over parts and their paddings of package aead, by its contract: it hands out each part, and with it as many zeros as are missing up to a multiple of 16.
  A list of slices in a variable, which is appended to: what is known of it, and how it grows: one step of package aead's tagOf.
  The functions read, doubled, settled, times, reduced and lowest of package poly, each by its contract.
  The functions settled and reduced of package poly, each by its contract.
-/
import Derived.Test.YtjelacblnjbfgaaGreatDoorB18
import Derived.Test.YtjelacblnjbfgaaGreatDoorB15
import Derived.Test.YtjelacblnjbfgaaGreatDoorB14
import Derived.Test.YtjelacblnjbfgaaGreatDoorB11
import Derived.Test.YtjelacblnjbfgaaGreatDoorB3
import Derived.Test.YtjelacblnjbfgaaGreatDoorB9
import Derived.Test.YtjelacblnjbfgaaGreatDoorB1
import Derived.Test.YtjelacblnjbfgaaGreatDoorB6
set_option linter.unusedVariables false
namespace Go.Proofs.YtjelacblnjbfgaaGreatDoor.Ae
open Go.RowKit Go.Shelf Go.Proofs.YtjelacblnjbfgaaGreatDoor Mem Help Go.Proofs.YtjelacblnjbfgaaGreatDoor.Sum Po
attribute [local irreducible] wpList wpListIn
set_option maxRecDepth 100000 in
set_option maxHeartbeats 4000000 in
theorem length_any (A : Option Addr) (n c : Nat) (w : World) (hn : n ≤ 1099511627776) :
    Calls Tryz.prog 58 #[.slice A n c] w fun e w' => ∃ g, e = .returned (.slice (some ⟨g, 0, none⟩) 8 8) ∧ w.heap.size ≤ g ∧ Row w' g 5 .u8 (digits (n : Int) 8) ∧ Below w.heap.size w w' := by
  have h0 : (0 : Int) ≤ (n : Int) := by omega
  have hn56 : (n : Int) < 72057594037927936 := by omega
  have HL := Lib.hid (digits_length 8 (n : Int))
  go_enter Tryz.func58, Tryz.ntmps58
  go_wp2_with (refine wpList_make_Row w rfl _ _ 27 rfl 5 .u8 1 Tryz.underlying27 info_u8 .i64 .i64 _ _ 8 rfl rfl rfl rfl (by omega) (by omega) ?_; intro w1 r1 g1 z1)
  have b1 : Below w.heap.size w w1 := (Below.refl _ w).grown g1 (Nat.le_refl _) (by simp)
  clear g1 z1
  go_loopw [8] (fun i wr => ∃ k : Nat, k ≤ 8 ∧ i = .int .i64 k ∧ Below w.heap.size w wr ∧ Row wr w.heap.size 5 .u8 (blend (digits (n : Int) 8) (List.replicate 8 0) k)) (fun i _ => 8 - (intOf i).toNat)
  case atStart => exact ⟨0, by omega, rfl, b1, by rw [blend_zero]; exact r1⟩
  case round =>
    clear b1 r1
    obtain ⟨k, hk, rfl, hbl, kr⟩ := hrel
    have hLen : (digits (n : Int) 8).length = (List.replicate 8 (0 : Int)).length := by rw [HL.out]; simp
    by_cases hlt : k < 8
    · have hlt' : (k : Int) < 8 := by omega
      have hk0 : (0 : Int) ≤ (k : Int) := by omega
      have hset := blend_set hLen (i := k) (by simpa using hlt)
      have HB := Lib.hid (show (blend (digits (n : Int) 8) (List.replicate 8 0) k).length = 8 by rw [blend_length hLen]; simp)
      have W2 : IntKind.i64.wrap (8 * (k : Int)) = ((8 * k : Nat) : Int) := by rw [IntKind.wrap_i64]; omega
      obtain ⟨S0, S1⟩ := shifted_lt h0 hn56 k
      have HBY := Lib.hid (byte_at (n : Int) hlt)
      obtain ⟨q, hq⟩ : ∃ q, (n : Int) / 2 ^ (8 * k) = q := ⟨_, rfl⟩
      rw [hq] at S0 S1 HBY
      have HQ := Lib.hid hq
      clear hq
      have W4 : IntKind.u8.wrap q = (digits (n : Int) 8).getD k 0 := by rw [← HBY.out, IntKind.wrap_u8]
      have HWF := Lib.hid (bs_wf (digits_bytes 8 (n : Int)) _ (digit_mem (n : Int) hlt))
      obtain ⟨z, hz⟩ : ∃ z, (digits (n : Int) 8).getD k 0 = z := ⟨_, rfl⟩
      rw [hz] at W4 HWF hset
      have HSET := Lib.hid hset
      clear hset hz hLen
      go_wp2_with (first
        | (refine wpList_shr rfl 3 3 _ _ rfl .i64 .i64 (n : Int) q (8 * k) rfl (by simp [Act.eval]) (by simp [IntKind.bits]; omega) HQ.out ?_)
        | (refine wpList_store_elem (w := wr) rfl 5 _ _ rfl w.heap.size k rfl 5 .u8 _ z rfl kr (by rw [HB.out]; exact hlt) info_u8 HWF.out ?_; intro w2 q2 g2 z2; rw [HSET.out] at q2))
      go_roundw
      case rel => exact ⟨k + 1, by omega, by go_num, hbl.grown g2 hbl.size (fun r e => by cases e; omega), q2⟩
      case measure => simp [intOf]; omega
    · have hk8 : k = 8 := by omega
      subst hk8
      have hz : blend (digits (n : Int) 8) (List.replicate 8 0) 8 = digits (n : Int) 8 := blend_all (F := digits (n : Int) 8) (a := List.replicate 8 0) hLen
      rw [hz] at kr
      clear hz hLen hlt
      go_wp2_with fail
      go_ret
      exact ⟨_, rfl, Nat.le_refl _, kr, hbl⟩
theorem zero_64b : (Tryz.prog.info? 88).bind (·.zero) = some (.agg (arr .u8 (List.replicate 64 0))) := by kernel_rfl
theorem info_64b : (Tryz.prog.info? 88).map (·.size) = some 64 := by kernel_rfl
set_option maxRecDepth 100000 in
set_option maxHeartbeats 4000000 in
theorem once_any (key nonce : List Int) (w : World) (hk : key.length = 32) (hkb : Bs key) (hnl : nonce.length = 12) (hnb : Bs nonce) (hT : Sha.Tab w 1 Cc.sigma) :
    Calls Tryz.prog 60 #[.agg (arr .u8 key), .agg (arr .u8 nonce)] w fun e w' => e = .returned (.agg (arr .u8 (macKey key nonce))) ∧ Below w.heap.size w w' := by
  have HK := Lib.hid hk
  have HN := Lib.hid hnl
  have HBL := Lib.hid (Cc.block_length key 0 nonce)
  have HBW := Lib.hid (bs_wf (Cc.block_bytes key 0 nonce))
  have HML := Lib.hid (macKey_length key nonce)
  have HMW := Lib.hid (bs_wf (macKey_bytes key nonce))
  clear hk hnl
  go_enter Tryz.func60, Tryz.ntmps60
  go_wp2_with (first
    | (refine wpList_box_Row (w := w) rfl 22 _ rfl .u8 key rfl (bs_wf hkb) ?_; intro w1 r1 g1 z1)
    | (refine wpList_box_Row (w := w1) rfl 45 _ rfl .u8 nonce rfl (bs_wf hnb) ?_; intro w2 r2 g2 z2; have p2 := r1.grown g2 (by simp))
    | (refine wpList_alloc_Row (w := w2) rfl 22 rfl .u8 32 zero_32b ?_; intro w3 r3 g3 z3; have p3 := p2.grown g3 (by simp); have q3 := r2.grown g3 (by simp))
    | (refine wpList_load_Row (w := w3) rfl 22 _ rfl w.heap.size rfl 22 .u8 _ p3 32 5 Tryz.underlying22 size_32b HK.out ?_)
    | (refine wpList_load_Row (w := w3) rfl 45 _ rfl w1.heap.size rfl 45 .u8 _ q3 12 5 Tryz.underlying45 size_12b HN.out ?_))
  obtain ⟨gr, hgr⟩ : ∃ g, w2.heap.size = g := ⟨_, rfl⟩
  have s1 := g1.size
  have s2 := g2.size
  have l3 := r3.lt
  have b3 : Below w.heap.size w w3 := (((Below.refl _ w).grown g1 (Nat.le_refl _) (by simp)).grown g2 (by omega) (by simp)).grown g3 (by omega) (by simp)
  have hwr : w.heap.size ≤ gr := by omega
  rw [hgr] at r3 ⊢
  clear hgr r1 p2 p3 q3 r2 g1 g2 g3 z1 z2 z3 s1 s2
  refine (Cha.block_any key nonce 0 w3 HK.out hkb HN.out hnb (by unfold R32; omega) (hT.below b3 hT.lt)).mono ?_
  rintro e w4 ⟨rfl, hb4⟩
  have b4 := b3.trans (hb4.mono b3.size)
  have r4 := r3.below hb4 r3.lt
  clear hb4 b3 r3
  go_wp2_with (first
    | (refine wpList_alloc_Row (w := w4) rfl 88 rfl .u8 64 zero_64b ?_; intro w5 r5 g5 z5)
    | (refine wpList_store_RowTo (w := w5) rfl 88 _ _ rfl w4.heap.size rfl 88 .u8 _ (Cc.block key 0 nonce) rfl r5 64 info_64b HBL.out (by simp) HBW.out ?_; intro w6 r6 g6 z6; have hsl : ∀ W, (Instr.sliceAt 88 (.pointer (some ⟨w4.heap.size, 0, none⟩)) none (some (.int .i64 32)) none).run Tryz.prog W = .ok (.slice (some ⟨w4.heap.size, 0, none⟩) 32 64) W := fun W => Held.run_slice_arr_h (P := Tryz.prog) 88 5 64 w4.heap.size 32 W Tryz.underlying88 (by kernel_rfl) (by omega) (by omega))
    | (refine wpList_arrayAt rfl 22 _ rfl _ 32 64 32 5 rfl Tryz.underlying22 (by omega) ?_)
    | (refine wpList_load_midRow (w := w6) rfl 22 _ rfl w4.heap.size 0 rfl 88 .u8 _ r6 32 5 Tryz.underlying22 size_32b (by rw [HBL.out]; omega) ?_; have e6 := (r4.grown g5 (by simp)).grown g6 (by intro e; injection e with e; have := r4.lt; omega); rw [List.drop_zero, show (Cc.block key 0 nonce).take 32 = macKey key nonce from rfl])
    | (refine wpList_store_RowTo (w := w6) rfl 22 _ _ rfl gr rfl 22 .u8 _ (macKey key nonce) rfl e6 32 size_32b HML.out (by simp) HMW.out ?_; intro w7 r7 g7 z7))
  have s4 := b4.size
  have b7 : Below w.heap.size w w7 := ((b4.grown g5 s4 (by simp)).grown g6 (by have := g5.size; omega) (fun r e => by cases e; omega)).grown g7 (by have := g5.size; have := g6.size; omega) (fun r e => by cases e; omega)
  refine bodyPost_ret (results_Row rfl _ _ gr _ _ _ rfl r7 32 5 Tryz.underlying22 size_32b HML.out) rfl ?_
  exact ⟨rfl, b7⟩
end Go.Proofs.YtjelacblnjbfgaaGreatDoor.Ae
namespace Go.Proofs.YtjelacblnjbfgaaGreatDoor.Ae
open Go.RowKit Go.Shelf Go.Proofs.YtjelacblnjbfgaaGreatDoor Mem Help Go.Proofs.YtjelacblnjbfgaaGreatDoor.Sum Po Go.Proofs.YtjelacblnjbfgaaGreatDoor.Range Sha
attribute [local go_sem] Oper.semAt_some
attribute [local irreducible] wpList wpListIn
theorem wpListIn_make_Row {F : Fence} {N : Nat} {P : Program} (w : World) {ops : Array Oper} {rest : List Oper} {o : Oper} {a : Act} {Q : Exit → Act → World → Prop} (hg : o.guard = none) (l c : Operand) (t : TypeId) (hop : o.op = Op.makeSlice t l c)
    (e : TypeId) (k : IntKind) (bytes : Nat) (ht : P.underlying t = some (.slice e)) (hinfo : (P.info? e).map (fun i => (i.zero, i.size, i.bytes)) = some (some (.int k 0), 1, bytes))
    (kl kc : IntKind) (n : Nat) (hl : a.eval l = .int kl (n : Int)) (hc : a.eval c = .int kc (n : Int)) (hby : bytes ≤ 8) (hn : n ≤ 17592186044416)
    (hK : ∀ w', Row w' w.heap.size e k (List.replicate n 0) → w.grownBy w' none → Hid (w'.heap.size = w.heap.size + 1) → wpListIn F N P ops Q rest (a.put o.dst (.slice (some ⟨w.heap.size, 0, none⟩) n n)) w') :
    wpListIn F N P ops Q (o :: rest) a w := by
  obtain ⟨i, hi, hz, hs, hb⟩ := info_parts hinfo
  refine wpListIn_plain hg fun K hK' => ?_
  have hrun := run_make_row (P := P) t e i (.int k 0) ht hi hz hs rfl kl kc n (by rw [hb]; exact Nat.le_trans (Nat.mul_le_mul hby hn) (by omega)) (by omega) w
  unfold Oper.wpIn
  refine ⟨?_, ?_⟩
  · simp [Oper.about, hop]
  · rw [Oper.semAt_plain F _ _ (by rw [hop]; intro c hc'; cases hc')]
    simp [execOp, hop, hl, hc, hrun, Result.andThen]
    refine hK' _ _ (hK _ ?_ (World.grownBy_alloc w _ none) (Lib.hid (by simp)))
    rw [made_zeros]
    exact Row.new w e (fun z hz => by rw [List.eq_of_mem_replicate hz]; cases k <;> decide)
theorem paddings_any (A : Option Addr) (m c : Nat) (w : World) :
    Calls Tryz.prog 57 #[.slice A m c] w fun e w' => e = .returned (.func (.func 79) #[] #[.pointer (some ⟨w.heap.size, 0, none⟩)]) ∧ w' = w.alloc (.cells #[.slice A m c] 89) := by
  go_enter Tryz.func57, Tryz.ntmps57
  go_wp2
  go_ret
  exact ⟨rfl, rfl⟩
def ValsA (w : World) (S : Nat → Prop) (A : Option Addr) (n : Nat) (vs : List Value) : Prop :=
  vs.length = n ∧ (0 < n → ∃ b off, A = some ⟨b, off, none⟩ ∧ ¬ S b ∧ ∀ i, i < n → w.cell? ⟨b, off + i, none⟩ = some (vs.getD i undef))
theorem ValsA.only {S : Nat → Prop} {w w' : World} {A : Option Addr} {n : Nat} {vs : List Value} (h : ValsA w S A n vs) (ho : Only S w w') : ValsA w' S A n vs :=
  ⟨h.1, fun hn => by
    obtain ⟨b, off, e, hb, hc⟩ := h.2 hn
    exact ⟨b, off, e, hb, fun i hi => ho.cell (p := ⟨b, off + i, none⟩) hb (hc i hi)⟩⟩
theorem ValsA.below {S : Nat → Prop} {w w' : World} {A : Option Addr} {n : Nat} {vs : List Value} (h : ValsA w S A n vs) (hb : Below w.heap.size w w') : ValsA w' S A n vs :=
  ⟨h.1, fun hn => by
    obtain ⟨b, off, e, hS, hc⟩ := h.2 hn
    exact ⟨b, off, e, hS, fun i hi => (hb.cell (p := ⟨b, off + i, none⟩) (World.block_lt_of_cell? w _ (hc i hi))).trans (hc i hi)⟩⟩
def Gives (S : Nat → Prop) (x : List Int) (B0 : Nat) (W : World) (args : Array Value) : Prop :=
  ∃ A n c g, args = #[.slice A n c, .slice (some ⟨g, 0, none⟩) (padN n) (padN n)] ∧ n ≤ c ∧ c ≤ maxLen ∧ IntsN W .u8 S A n x ∧ B0 ≤ g ∧ Row W g 5 .u8 (List.replicate (padN n) 0)
theorem padN_int (n : Nat) : ((16 : Int) - (n : Int) % 16) % 16 = (padN n : Int) := by unfold padN; omega
theorem ints_n {S : Nat → Prop} {w w' : World} {k : IntKind} {A : Option Addr} {n : Nat} {zs : List Int} (h : IntsN w k S A n zs) (hb : w.grownBy w' none) : IntsN w' k S A n zs := h.only (Only.of_grown hb (fun r e => by cases e))
set_option maxRecDepth 100000 in
set_option maxHeartbeats 2000000 in
theorem paddings_give (n bx : Nat) (S : Nat → Prop) (A : Option Addr) (m c : Nat) (vs : List Value) (xss : List (List Int)) (w : World) (hbx : w.cell? ⟨bx, 0, none⟩ = some (.slice A m c)) (hbS : ¬ S bx) (h : ValsA w S A m vs) (hl : xss.length = m)
    (ht : ∀ i, i < m → ∃ A n c, vs.getD i undef = .slice A n c ∧ n ≤ c ∧ c ≤ maxLen ∧ IntsN w .u8 S A n (xss.getD i [])) (hm : m ≤ 1073741824) :
    SeqGive Fence.wide n Tryz.prog 79 #[.pointer (some ⟨bx, 0, none⟩)] (Gives S) (Only S) xss w := by
  intro l J W hW hJ hY h0
  have kbx := (hW.cell (p := ⟨bx, 0, none⟩) (World.block_lt_of_cell? w _ hbx)).trans hbx
  have kv := h.below hW
  have kt : ∀ i, i < m → ∃ A n c, vs.getD i undef = .slice A n c ∧ n ≤ c ∧ c ≤ maxLen ∧ IntsN W .u8 S A n (xss.getD i []) := fun i hi => by
    obtain ⟨A', n', c', h1, h2, h3, h4⟩ := ht i hi
    exact ⟨A', n', c', h1, h2, h3, h4.only (Only.of_below hW)⟩
  have HL := Lib.hid hl
  have hmi : (m : Int) ≤ 1073741824 := by omega
  clear hbx h ht hl
  refine callsIn_of_wp Tryz.func79 rfl trivial ?_ rfl
  simp only [Tryz.ntmps79, List.size_toArray, List.length_cons, List.length_nil, Nat.reduceAdd, Nat.reduceSub, Array.replicate_succ, Array.replicate_zero, List.push_toArray, List.append_toArray, List.nil_append, List.cons_append]
  gi_wp2_with fail
  gi_loopw [8] (fun i wr => ∃ k : Nat, k ≤ m ∧ i = .int .i64 k ∧ J (xss.take k) wr ∧ Only S W wr) (fun i _ => m - (intOf i).toNat)
  case atStart => exact ⟨0, by omega, rfl, by simpa using h0, Only.refl _ _⟩
  case round =>
    obtain ⟨k, hk, rfl, Jk, ok⟩ := hrel
    by_cases hlt : k < m
    · obtain ⟨b, off, rfl, hbS', hc⟩ := (kv.only ok).2 (by omega)
      obtain ⟨A1, n1, c1, hv, hn1, hm1, hi1⟩ := kt k hlt
      have hck := hc k hlt
      rw [hv] at hck
      have i1 := hi1.only ok
      have HP := Lib.hid (show xss.take k ++ [xss.getD k []] = xss.take (k + 1) by rw [List.take_add_one, List.getD_eq_getElem?_getD, List.getElem?_eq_getElem (by rw [HL.out]; exact hlt)]; rfl)
      have hpre : xss.take k ++ [xss.getD k []] <+: xss := by rw [HP.out]; exact List.take_prefix _ _
      have hlt' : (k : Int) < (m : Int) := by omega
      have hk0 : (0 : Int) ≤ (k : Int) := by omega
      have hpn := padN_int n1
      have hp16 := padN_lt n1
      have hm63 : n1 ≤ 9223372036854775807 := by unfold maxLen at hm1; omega
      have W1 : IntKind.i64.wrap ((16 : Int) - (n1 : Int) % 16) = (16 : Int) - (n1 : Int) % 16 := by rw [IntKind.wrap_i64]; omega
      have W2 : Int.tmod (n1 : Int) 16 = (n1 : Int) % 16 := Int.tmod_eq_emod_of_nonneg (by omega)
      have W3 : Int.tmod ((16 : Int) - (n1 : Int) % 16) 16 = (padN n1 : Int) := by rw [Int.tmod_eq_emod_of_nonneg (by omega)]; exact hpn
      generalize xss.getD k [] = x at i1 hi1 HP hpre
      clear hc hv hi1
      gi_wp2_with (first
        | (refine wpListIn_make_Row wr rfl _ _ 27 rfl 5 .u8 1 Tryz.underlying27 info_u8 .i64 .i64 (padN n1) rfl rfl (by omega) (by omega) ?_; intro w2 r2 g2 z2; obtain ⟨fn, tmps, assign, body, hy, hR⟩ := hY (xss.take k) x #[.slice A1 n1 c1, .slice (some ⟨wr.heap.size, 0, none⟩) (padN n1) (padN n1)] wr w2 Jk g2 ⟨A1, n1, c1, wr.heap.size, rfl, hn1, hm1, ints_n i1 g2, Nat.le_refl _, r2⟩ hpre))
      refine ⟨fun h => (by cases h), ?_⟩
      refine hR.mono ?_
      rintro e W4 ⟨rfl, J4, o4⟩
      rw [HP.out] at J4
      have o5 := (ok.trans (Only.of_grown g2 (fun r e => by cases e))).trans o4
      clear hR hy r2 g2 z2 i1 hpre W1 W2 W3 hpn o4 ok hck
      gi_wp2_with fail
      go_roundw
      case rel => exact ⟨k + 1, by omega, by go_num, J4, o5⟩
      case measure => simp [intOf]; omega
    · have hkm : k = m := by omega
      subst hkm
      rw [List.take_of_length_le (by rw [HL.out]; omega)] at Jk
      gi_wp2_with fail
      go_end0
      exact ⟨⟨_, rfl⟩, Jk⟩
end Go.Proofs.YtjelacblnjbfgaaGreatDoor.Ae
namespace Go.Proofs.YtjelacblnjbfgaaGreatDoor.Ae
open Go.RowKit Go.Shelf Go.Proofs.YtjelacblnjbfgaaGreatDoor Mem Help Go.Proofs.YtjelacblnjbfgaaGreatDoor.Sum Po Go.Proofs.YtjelacblnjbfgaaGreatDoor.Range Sha
attribute [local irreducible] wpList wpListIn
theorem info_bytes : (Tryz.prog.info? 27).map (fun i => (i.zero, i.size, i.bytes)) = some (some (.slice none 0 0), 1, 24) := by kernel_rfl
theorem zero_list : (Tryz.prog.info? 89).bind (·.zero) = some (.slice none 0 0) := by kernel_rfl
theorem size_list : (Tryz.prog.info? 89).map (·.size) = some 1 := by kernel_rfl
def blk (A : Option Addr) : Option Nat := A.map (·.block)
theorem blk_own (A : Option Addr) (n c : Nat) : (Value.slice A n c).ownBlock = blk A := by cases A <;> rfl
def Tied (lb : Nat) (A : Option Addr) (b : Nat) : Prop := b = lb ∨ blk A = some b
theorem _root_.Go.Proofs.YtjelacblnjbfgaaGreatDoor.Mem.IntsN.shift {w : World} {k : IntKind} {S S' : Nat → Prop} {A : Option Addr} {n : Nat} {zs : List Int} (h : IntsN w k S A n zs) (hS : ∀ b, ¬ S b → b < w.heap.size → ¬ S' b) : IntsN w k S' A n zs :=
  ⟨h.1, h.2.1, fun hn => by
    obtain ⟨b, off, e, hb, hc⟩ := h.2.2 hn
    exact ⟨b, off, e, hS b hb (World.block_lt_of_cell? w _ (hc 0 hn)), hc⟩⟩
def TextsN (w : World) (S : Nat → Prop) (vs : List Value) (xss : List (List Int)) : Prop :=
  vs.length = xss.length ∧ ∀ i, i < vs.length → ∃ A n c, vs.getD i undef = .slice A n c ∧ n ≤ c ∧ c ≤ maxLen ∧ IntsN w .u8 S A n (xss.getD i [])
section
variable {w w' : World} {S S' : Nat → Prop} {vs us : List Value} {xss yss : List (List Int)}
theorem TextsN.only (h : TextsN w S vs xss) (ho : Only S w w') : TextsN w' S vs xss := ⟨h.1, fun i hi => by obtain ⟨A, n, c, e, h1, h2, hh⟩ := h.2 i hi; exact ⟨A, n, c, e, h1, h2, hh.only ho⟩⟩
theorem TextsN.shift (h : TextsN w S vs xss) (hS : ∀ b, ¬ S b → b < w.heap.size → ¬ S' b) : TextsN w S' vs xss := ⟨h.1, fun i hi => by obtain ⟨A, n, c, e, h1, h2, hh⟩ := h.2 i hi; exact ⟨A, n, c, e, h1, h2, hh.shift hS⟩⟩
theorem TextsN.nil (w : World) (S : Nat → Prop) : TextsN w S [] [] := ⟨rfl, fun i hi => by simp at hi⟩
theorem TextsN.texts (h : TextsN w S vs xss) : Texts w w.heap.size vs xss := ⟨h.1, fun i hi => by obtain ⟨A, n, c, e, h1, h2, hh⟩ := h.2 i hi; exact ⟨A, n, c, e, h1, h2, hh.ints⟩⟩
theorem TextsN.append (h : TextsN w S vs xss) (k : TextsN w S us yss) : TextsN w S (vs ++ us) (xss ++ yss) := by
  refine ⟨by simp [h.1, k.1], fun i hi => ?_⟩
  by_cases q : i < vs.length
  · have := h.2 i q
    simp only [List.getD_eq_getElem?_getD] at this ⊢
    rw [List.getElem?_append_left q, List.getElem?_append_left (by rw [← h.1]; exact q)]
    exact this
  · rw [List.length_append] at hi
    have := k.2 (i - vs.length) (by omega)
    simp only [List.getD_eq_getElem?_getD] at this ⊢
    rw [List.getElem?_append_right (by omega), List.getElem?_append_right (by rw [← h.1]; omega), ← h.1]
    exact this
theorem TextsN.one {A : Option Addr} {n c : Nat} {xs : List Int} (h : IntsN w .u8 S A n xs) (h1 : n ≤ c) (h2 : c ≤ maxLen) : TextsN w S [.slice A n c] [xs] :=
  ⟨rfl, fun i hi => by
    have : i = 0 := by simpa using hi
    subst this
    exact ⟨A, n, c, rfl, h1, h2, h⟩⟩
end
structure Lst (w : World) (Z lb gk gn gr : Nat) (key nonce : List Int) (v0 : Value) (xss : List (List Int)) (A : Option Addr) (n c : Nat) (W : World) : Prop where
  ord : w.heap.size ≤ gk ∧ w.heap.size ≤ gn ∧ w.heap.size ≤ gr ∧ gk < lb ∧ gn < lb ∧ gr < lb ∧ lb < Z
  low : Z ≤ W.heap.size
  cell : W.heap[lb]? = some (.cells #[v0] 89 (0, 0))
  own : ∃ vs, W.ownsRow Z 27 1 (.slice A n c) n vs ∧ TextsN W (Tied lb A) vs xss
  rk : Row W gk 22 .u8 key
  rn : Row W gn 45 .u8 nonce
  rr : Row W gr 58 .u8 (List.replicate 16 0)
  below : Below w.heap.size w W
section
variable {w W W' : World} {Z lb gk gn gr : Nat} {key nonce : List Int} {v0 : Value} {xss yss : List (List Int)} {A : Option Addr} {n c : Nat}
theorem Lst.lt (h : Lst w Z lb gk gn gr key nonce v0 xss A n c W) : ∀ b, blk A = some b → Z ≤ b ∧ b < W.heap.size := fun b e => by
  obtain ⟨vs, ho, _⟩ := h.own
  exact ho.lt b (by rw [blk_own]; exact e)
theorem Lst.cells (h : Lst w Z lb gk gn gr key nonce v0 xss A n c W) : ∀ (b : Nat) (o : Obj), blk A = some b → W.heap[b]? = some o → o.isCells = true := fun b o e ho => by
  obtain ⟨vs, h1, _⟩ := h.own
  rcases h1.2 with ⟨e1, _⟩ | ⟨g, cap, cur, e1, _, hg, _⟩
  · cases e1; cases e
  · cases e1; cases e; rw [hg] at ho; cases ho; rfl
theorem Lst.len (h : Lst w Z lb gk gn gr key nonce v0 xss A n c W) : xss.length = n := by
  obtain ⟨vs, h1, h2⟩ := h.own
  rw [← h2.1]
  simpa using h1.1
theorem Lst.keep (h : Lst w Z lb gk gn gr key nonce v0 xss A n c W) {row : Option Nat} (hg : W.grownBy W' row) (hr : ∀ r, row = some r → Z ≤ r ∧ ∃ o : Obj, W.heap[r]? = some o ∧ o.isCells = false) : Lst w Z lb gk gn gr key nonce v0 xss A n c W' := by
  obtain ⟨o1, o2, o3, o4, o5, o6, o7⟩ := h.ord
  have hne : ∀ b, b < Z → some b ≠ row := fun b hb e => by have := (hr b e.symm).1; omega
  refine ⟨h.ord, Nat.le_trans h.low hg.size, (hg.block lb (Array.getElem?_eq_some_iff.1 h.cell).1 (hne _ o7)).trans h.cell, ?_, h.rk.grown hg (hne _ (by omega)), h.rn.grown hg (hne _ (by omega)), h.rr.grown hg (hne _ (by omega)),
    h.below.grown hg h.below.size (fun r e => by have := (hr r e).1; omega)⟩
  obtain ⟨vs, h1, h2⟩ := h.own
  refine ⟨vs, h1.kept hg ?_, h2.only ⟨hg.size, fun i o _ ho hc => (hg.block i (Array.getElem?_eq_some_iff.1 ho).1 (fun e => ?_)).trans ho⟩⟩
  · rw [blk_own]
    cases hb : blk A with
    | none => exact .inl rfl
    | some b =>
      refine .inr fun e => ?_
      obtain ⟨_, o, ho, hc⟩ := hr b e.symm
      rw [h.cells b o hb ho] at hc
      cases hc
  · obtain ⟨_, o', ho', hc'⟩ := hr i e.symm
    rw [ho] at ho'
    cases ho'
    rw [hc] at hc'
    cases hc'
theorem Lst.grow (h : Lst w Z lb gk gn gr key nonce v0 xss A n c W) (hg : W.grownBy W' none) : Lst w Z lb gk gn gr key nonce v0 xss A n c W' := h.keep hg (fun r e => by cases e)
theorem Lst.append (h : Lst w Z lb gk gn gr key nonce v0 xss A n c W) (hn : n ≤ 1000) (ty : TypeId) (B : Nat) (A2 : Option Addr) (m c2 : Nat) (us : List Value) (hv : Vals W B A2 m us) (hm : m ≤ 1000) (ht : TextsN W (Tied lb A) us yss) :
    ∃ A' c' W', (Builtin.append_ #[89, 89] ty #[.slice A n c, .slice A2 m c2]).run Tryz.prog W = .ok (.slice A' (n + m) c') W' ∧ Lst w Z lb gk gn gr key nonce v0 (xss ++ yss) A' (n + m) c' W' ∧ W.grownBy W' (blk A) := by
  obtain ⟨o1, o2, o3, o4, o5, o6, o7⟩ := h.ord
  obtain ⟨vs, h1, h2⟩ := h.own
  obtain ⟨v', W', hrun, q2, q3, q4⟩ := run_append_vals (P := Tryz.prog) W Z 89 ty 27 (.slice none 0 0) 24 Tryz.underlying89 info_bytes rfl (.slice A n c) n vs h1 B A2 m c2 us hv (by omega) (by omega) h.low
  obtain ⟨A', c', rfl, q5, q6⟩ := Held.row_form q2
  rw [blk_own] at q3
  rw [blk_own, blk_own] at q4
  have hne : ∀ b, b < Z → some b ≠ blk A := fun b hb e => by have := (h.lt b e.symm).1; omega
  refine ⟨A', c', W', hrun, ⟨h.ord, Nat.le_trans h.low q3.size, (q3.block lb (Array.getElem?_eq_some_iff.1 h.cell).1 (hne _ o7)).trans h.cell, ⟨_, q2, ?_⟩, h.rk.grown q3 (hne _ (by omega)), h.rn.grown q3 (hne _ (by omega)), h.rr.grown q3 (hne _ (by omega)),
    h.below.grown q3 h.below.size (fun r e => by have := (h.lt r e).1; omega)⟩, q3⟩
  refine ((h2.append ht).shift (S' := fun b => b = lb ∨ blk A = some b ∨ blk A' = some b) (fun b hb hlt e => ?_)).only (Only.of_grown q3 (fun r e => .inr (.inl e))) |>.shift (fun b hb _ e => hb ?_)
  · rcases e with e | e | e
    · exact hb (.inl e)
    · exact hb (.inr e)
    · rcases q4 with q | q
      · rw [q] at e; exact hb (.inr e)
      · rw [q] at e
        have e : some W.heap.size = some b := e
        injection e with e
        omega
  · rcases e with e | e
    · exact .inl e
    · exact .inr (.inr e)
theorem Lst.store (h : Lst w Z lb gk gn gr key nonce v0 xss A n c W) {v1 : Value} (hc : W'.heap[lb]? = some (.cells #[v1] 89 (0, 0))) (hg : W.grownBy W' (some lb)) : Lst w Z lb gk gn gr key nonce v1 xss A n c W' := by
  obtain ⟨o1, o2, o3, o4, o5, o6, o7⟩ := h.ord
  refine ⟨h.ord, Nat.le_trans h.low hg.size, hc, ?_, h.rk.grown hg (by intro e; injection e with e; omega), h.rn.grown hg (by intro e; injection e with e; omega), h.rr.grown hg (by intro e; injection e with e; omega),
    h.below.grown hg h.below.size (fun r e => by cases e; omega)⟩
  obtain ⟨vs, h1, h2⟩ := h.own
  refine ⟨vs, h1.kept hg ?_, h2.only (Only.of_grown hg (fun r e => by cases e; exact .inl rfl))⟩
  rw [blk_own]
  cases hb : blk A with
  | none => exact .inl rfl
  | some b => exact .inr fun e => by have := (h.lt b hb).1; injection e with e; omega
end
theorem wpListIn_append_list {F : Fence} {N : Nat} {w W : World} {Z lb gk gn gr : Nat} {key nonce : List Int} {v0 : Value} {xss yss : List (List Int)} {A : Option Addr} {n c : Nat} (h : Lst w Z lb gk gn gr key nonce v0 xss A n c W) {ops : Array Oper} {rest : List Oper} {o : Oper} {a : Act} {Q : Exit → Act → World → Prop} (hg : o.guard = none)
    (s x : Operand) (ho : o.op = .call { callee := .builtin .append, args := #[s, x], argTypes := #[89, 89] }) (hs : a.eval s = .slice A n c) (hn : n ≤ 1000) (B : Nat) (A2 : Option Addr) (m c2 : Nat) (us : List Value) (hx : a.eval x = .slice A2 m c2) (hv : Vals W B A2 m us) (hm : m ≤ 1000) (ht : TextsN W (Tied lb A) us yss)
    (hK : ∀ A' c' W', Lst w Z lb gk gn gr key nonce v0 (xss ++ yss) A' (n + m) c' W' → W.grownBy W' (blk A) → wpListIn F N Tryz.prog ops Q rest (a.put o.dst (.slice A' (n + m) c')) W') : wpListIn F N Tryz.prog ops Q (o :: rest) a W := by
  obtain ⟨A', c', W', hrun, hL, hG⟩ := h.append hn o.type B A2 m c2 us hv hm ht
  refine wpListIn_plain hg fun K hK' => ?_
  unfold Oper.wpIn
  refine ⟨?_, ?_⟩
  · simp [Oper.about, ho, resolve, Target.leads, Sem.run_pure]
  · rw [Oper.semAt_plain F _ _ (by rw [ho]; intro c hc'; cases hc')]
    simp [execOp, ho, resolve, invoke, builtin, hs, hx, hrun, Result.andThen]
    exact hK' _ _ (hK _ _ _ hL hG)
theorem op_append_list {w W : World} {Z lb gk gn gr : Nat} {key nonce : List Int} {v0 : Value} {xss yss : List (List Int)} {A : Option Addr} {n c : Nat} (h : Lst w Z lb gk gn gr key nonce v0 xss A n c W) {ops : Array Oper} {Q : Exit → Act → World → Prop} (i : Nat) (d : Option Tmp) {o : Oper} {a : Act} {K : Act → World → Prop} {s x : Operand} (hi : ops[i]? = some o) (hd : o.dst = d) (hw : Region.wanted o (yielded ops a.tmps) = true)
    (ho : o.op = .call { callee := .builtin .append, args := #[s, x], argTypes := #[89, 89] }) (hs : a.eval s = .slice A n c) (hn : n ≤ 1000) (B : Nat) (A2 : Option Addr) (m c2 : Nat) (us : List Value) (hx : a.eval x = .slice A2 m c2) (hv : Vals W B A2 m us) (hm : m ≤ 1000) (ht : TextsN W (Tied lb A) us yss)
    (hK : ∀ A' c' W', Lst w Z lb gk gn gr key nonce v0 (xss ++ yss) A' (n + m) c' W' → W.grownBy W' (blk A) → K (a.put d (.slice A' (n + m) c')) W') : wpOp Tryz.prog ops Q i K a W := by
  subst hd
  obtain ⟨A', c', W', hrun, hL, hG⟩ := h.append hn o.type B A2 m c2 us hv hm ht
  refine Held.op_wp i hi hw ?_
  exact Lib.wp_append_run W s x 89 89 ho _ _ hs hx _ W' hrun (hK _ _ _ hL hG)
end Go.Proofs.YtjelacblnjbfgaaGreatDoor.Ae
namespace Go.Proofs.YtjelacblnjbfgaaGreatDoor.Po
open Go.RowKit Go.Shelf Mem Go.Proofs.YtjelacblnjbfgaaGreatDoor.Sum
attribute [local irreducible] wpList wpListIn
theorem val_five {s : List Int} (h : Bs s) {q : Nat} (hq : q < 5) (hl : s.length = 5) : 0 ≤ val (s.take q) ∧ val (s.take q) < 2 ^ (8 * q) ∧ bits .or .u64 (val (s.take q)) (IntKind.u64.wrap (s.getD q 0 * 2 ^ (8 * q))) = val (s.take (q + 1)) := by
  have h0 := val_nonneg (xs := s.take q) fun z hz => (h z (List.mem_of_mem_take hz)).1
  have h1 := val_lt (xs := s.take q) fun z hz => h z (List.mem_of_mem_take hz)
  have hlt : (s.take q).length = q := by simp; omega
  rw [hlt] at h1
  have hv := val_take_succ s (j := q) (by omega)
  have hb := h.at_ q
  have e : (256 : Int) ^ q = 2 ^ (8 * q) := by rw [Int.pow_mul]; rfl
  rw [e] at h1 hv
  refine ⟨h0, h1, ?_⟩
  rw [hv]
  generalize val (s.take q) = v at *
  generalize s.getD q 0 = x at *
  rcases (show q = 0 ∨ q = 1 ∨ q = 2 ∨ q = 3 ∨ q = 4 by omega) with rfl | rfl | rfl | rfl | rfl <;>
    · simp only [Nat.reduceMul] at h1 ⊢
      rw [wraps_u64 _ (by omega) (by omega)]
      exact bits_join_low .u64 64 (by decide) (fun n h1 h2 => wraps_u64 n h1 h2) _ v (x * _) h0 h1 (by omega) (by omega) (by omega) (by omega)
set_option maxRecDepth 100000 in
theorem read_any (p : List Int) (w : World) (hp : p.length = 17) (hb : Bs p) :
    Calls Tryz.prog 80 #[.agg (arr .u8 p)] w fun e w' => e = .returned (.agg (arr .u64 (limbs (val p)))) ∧ Below w.heap.size w w' := by
  have HP := Lib.hid hp
  have HL := Lib.hid (limbs_length (val p))
  have HI := Lib.hid (fun i (h : i < 5) => limb_of hb hp h)
  have HLW := Lib.hid (show ∀ z ∈ limbs (val p), (Lit.int .u64 z).wf = true from fun z hz => wf_64 (by have := limbs_bound _ z hz; omega))
  have HV := Lib.hid (fun i (h : i < 5) => fun q (hq : q < 5) => val_five (s := (p.drop (3 * i)).take 5) (fun z hz => hb z (List.mem_of_mem_drop (List.mem_of_mem_take hz))) hq (by simp; omega))
  have HG := Lib.hid (fun i (h : i < 5) => fun q (hq : q < 5) => show p.getD (3 * i + q) 0 = ((p.drop (3 * i)).take 5).getD q 0 by simp [List.getD_eq_getElem?_getD, hq])
  clear hp
  go_enter Tryz.func80, Tryz.ntmps80
  go_wp2_with (first
    | (refine wpList_box_Row (w := w) rfl 113 _ rfl .u8 p rfl (bs_wf hb) ?_; intro w1 r1 g1 z1)
    | (refine wpList_alloc_Row (w := w1) rfl 111 rfl .u64 5 zero_num ?_; intro w2 r2 g2 z2)
    | (refine wpList_alloc_Row (w := w2) rfl 111 rfl .u64 5 zero_num ?_; intro w3 r3 g3 z3))
  obtain ⟨gr, hgr⟩ : ∃ g, w1.heap.size = g := ⟨_, rfl⟩
  obtain ⟨gn, hgn⟩ : ∃ g, w2.heap.size = g := ⟨_, rfl⟩
  have l1 := r1.lt
  have l2 := r2.lt
  have b3 : Below w.heap.size w w3 := (((Below.refl _ w).grown g1 (Nat.le_refl _) (by simp)).grown g2 g1.size (by simp)).grown g3 (by omega) (by simp)
  have p3 := (r1.grown g2 (by simp)).grown g3 (by simp)
  have q3 := r2.grown g3 (by simp)
  rw [hgr] at l1 l2 q3
  rw [hgn] at l2 r3
  rw [hgr, hgn]
  clear hgr hgn r1 r2 g1 g2 g3 z1 z2 z3
  go_loopw [8] (fun i wr => ∃ k : Nat, k ≤ 5 ∧ i = .int .i64 k ∧ Below w.heap.size w wr ∧ Row wr w.heap.size 113 .u8 p ∧ Row wr gn 111 .u64 (blend (limbs (val p)) (List.replicate 5 0) k) ∧ Row wr gr 111 .u64 (List.replicate 5 0)) (fun i _ => 5 - (intOf i).toNat)
  case atStart => exact ⟨0, by omega, rfl, b3, p3, by rw [blend_zero]; exact r3, q3⟩
  case round =>
    clear b3 p3 q3 r3
    obtain ⟨k, hk, rfl, hbl, pr, nr, er⟩ := hrel
    have hk0 : (0 : Int) ≤ (k : Int) := by omega
    by_cases hlt : k < 5
    · have hlt' : (k : Int) < 5 := by omega
      have hsl : ∀ W, (Instr.sliceAt 113 (.pointer (some ⟨w.heap.size, 0, none⟩)) (some (.int .i64 (3 * (k : Int)))) (some (.int .i64 (3 * (k : Int) + 5))) none).run Tryz.prog W = .ok (.slice (some ⟨w.heap.size, 3 * k, none⟩) 5 (17 - 3 * k)) W := fun W => by
        have := run_slice_arr_lh (P := Tryz.prog) 113 5 17 w.heap.size (3 * k) (3 * k + 5) W Tryz.underlying113 (by kernel_rfl) (by omega) (by omega) (by omega)
        rw [show 3 * k + 5 - 3 * k = 5 by omega] at this
        exact this
      go_wp2_with fail
      go_loop [5, 18] (fun f j => ∃ q : Nat, q ≤ 5 ∧ j = .int .i64 q ∧ f = .int .u64 (val (((p.drop (3 * k)).take 5).take q))) (fun _ j => 5 - (intOf j).toNat)
      case atStart => exact ⟨0, by omega, rfl, by simp [val]⟩
      case round =>
        obtain ⟨q, hq, rfl, rfl⟩ := hrel
        have hq0 : (0 : Int) ≤ (q : Int) := by omega
        by_cases hlq : q < 5
        · have hlq' : (q : Int) < 5 := by omega
          have hc := pr.cell (i := 3 * k + q) (by rw [HP.out]; omega)
          rw [HG.out k hlt q hlq] at hc
          obtain ⟨v0, v1, v2⟩ := HV.out k hlt q hlq
          have HV2 := Lib.hid v2
          have hx : IntKind.u64.wrap (((p.drop (3 * k)).take 5).getD q 0) = ((p.drop (3 * k)).take 5).getD q 0 := by
            have := Bs.at_ (bs := (p.drop (3 * k)).take 5) (fun z hz => hb z (List.mem_of_mem_drop (List.mem_of_mem_take hz))) q
            exact IntWalk.u64_in _ (by omega)
          clear v2 v1
          generalize ((p.drop (3 * k)).take 5).getD q 0 = x at *
          generalize val (((p.drop (3 * k)).take 5).take q) = v at *
          go_wp2_with fail
          go_round
          case rel => exact ⟨q + 1, by omega, by go_num, by rw [HV2.out]⟩
          case measure => simp [intOf]; omega
        · have hq5 : q = 5 := by omega
          subst hq5
          have hz := HI.out k hlt
          have hs0 := (HV.out k hlt 4 (by omega))
          have hv : val (((p.drop (3 * k)).take 5).take 5) = val ((p.drop (3 * k)).take 5) := by rw [List.take_take, Nat.min_self]
          have hn0 := val_nonneg (xs := (p.drop (3 * k)).take 5) fun z hz => (hb z (List.mem_of_mem_drop (List.mem_of_mem_take hz))).1
          have hn1 := val_lt (xs := (p.drop (3 * k)).take 5) fun z hz => hb z (List.mem_of_mem_drop (List.mem_of_mem_take hz))
          rw [show ((p.drop (3 * k)).take 5).length = 5 by simp; have := HP.out; omega] at hn1
          rw [hv]
          have hLen : (limbs (val p)).length = (List.replicate 5 (0 : Int)).length := by rw [HL.out]; simp
          have cn := nr.cell (i := k) (by rw [blend_length hLen]; simpa using hlt)
          have fn := nr.frozen k
          generalize (blend (limbs (val p)) (List.replicate 5 0) k).getD k 0 = old at cn
          have HS := Lib.hid (show Row (wr.setCell ⟨gn, k, none⟩ (.int .u64 ((limbs (val p)).getD k 0))) gn 111 .u64 (blend (limbs (val p)) (List.replicate 5 0) (k + 1)) by
            rw [← blend_set hLen (by simpa using hlt)]
            exact nr.set k (HLW.out _ (by rw [List.getD_eq_getElem?_getD, List.getElem?_eq_getElem (by rw [HL.out]; exact hlt)]; exact List.getElem_mem _)))
          have HE := er.other (p := ⟨gn, k, none⟩) (by simp; omega) (.int .u64 ((limbs (val p)).getD k 0))
          have HE2 := pr.other (p := ⟨gn, k, none⟩) (by simp; omega) (.int .u64 ((limbs (val p)).getD k 0))
          have HBL := Lib.hid (hbl.setCell (p := ⟨gn, k, none⟩) (by simp; omega) (.int .u64 ((limbs (val p)).getD k 0)))
          have hand : bits .and .u64 (val ((p.drop (3 * k)).take 5) / 2 ^ (2 * k)) 67108863 = (limbs (val p)).getD k 0 := by
            have hpp : (0 : Int) < 2 ^ (2 * k) := Int.pow_pos (by omega)
            have h1 := Int.ediv_nonneg hn0 (Int.le_of_lt hpp)
            have h2 := Int.ediv_le_self (2 ^ (2 * k)) hn0
            rw [mask_limb _ h1 (by omega)]
            exact hz
          clear hz hs0 hv hn1 nr er pr hbl hLen
          generalize val ((p.drop (3 * k)).take 5) = v at *
          generalize (limbs (val p)).getD k 0 = x at *
          go_wp2_with fail
          go_roundw
          case rel => exact ⟨k + 1, by omega, by go_num, HBL.out, HE2, HS.out, HE⟩
          case measure => simp [intOf]; omega
    · have hk5 : k = 5 := by omega
      subst hk5
      have hz : blend (limbs (val p)) (List.replicate 5 0) 5 = limbs (val p) := blend_all (F := limbs (val p)) (a := List.replicate 5 0) (by rw [HL.out]; simp)
      rw [hz] at nr
      clear hz hk0 hlt
      go_wp2_with (first
        | (refine wpList_load_Row (w := wr) rfl 111 _ rfl gn rfl 111 .u64 _ nr 5 23 Tryz.underlying111 info_num HL.out ?_)
        | (refine wpList_store_RowTo (w := wr) rfl 111 _ _ rfl gr rfl 111 .u64 _ (limbs (val p)) rfl er 5 info_num HL.out (by simp) HLW.out ?_; intro w8 q8 g8 z8))
      refine bodyPost_ret (results_Row rfl _ _ gr _ _ _ rfl q8 5 23 Tryz.underlying111 info_num HL.out) rfl ?_
      exact ⟨rfl, hbl.grown g8 hbl.size (fun r e => by cases e; omega)⟩
theorem map_get (r : List Int) {k : Nat} (hk : k < r.length) : (r.map (5 * ·)).getD k 0 = 5 * r.getD k 0 := by simp [List.getD_eq_getElem?_getD, hk]
def both (r : List Int) (k : Nat) : List Int := blend (r.map (5 * ·)) (List.replicate 5 0) k ++ blend r (List.replicate 5 0) k
theorem both_zero (r : List Int) : both r 0 = List.replicate 10 0 := by simp [both, blend]
theorem both_length {r : List Int} (h : r.length = 5) (k : Nat) : (both r k).length = 10 := by
  rw [both, List.length_append, blend_length (by simp [h]), blend_length (by simp [h])]
  simp
theorem both_end {r : List Int} (h : r.length = 5) : both r 5 = factors r := by
  have h1 := blend_all (F := r.map (5 * ·)) (a := List.replicate 5 0) (by simp [h])
  have h2 := blend_all (F := r) (a := List.replicate 5 0) (by simp [h])
  rw [List.length_replicate] at h1 h2
  rw [both, h1, h2, factors]
theorem both_set {r : List Int} (h : r.length = 5) {k : Nat} (hk : k < 5) : ((both r k).set k (5 * r.getD k 0)).set (5 + k) (r.getD k 0) = both r (k + 1) := by
  have h1 := blend_set (F := r.map (5 * ·)) (a := List.replicate 5 0) (by simp [h]) (i := k) (by simpa using hk)
  have h2 := blend_set (F := r) (a := List.replicate 5 0) (by simp [h]) (i := k) (by simpa using hk)
  have l1 : (blend (r.map (5 * ·)) (List.replicate 5 0) k).length = 5 := by rw [blend_length (by simp [h])]; simp
  rw [map_get r (by omega)] at h1
  rw [both, List.set_append_left _ _ (by omega), h1, List.set_append_right _ _ (by rw [blend_length (by simp [h])]; simp), blend_length (by simp [h]), List.length_replicate, Nat.add_sub_cancel_left, h2, both]
set_option maxRecDepth 100000 in
theorem doubled_any (r : List Int) (w : World) (hr : r.length = 5) (hb : ∀ x ∈ r, 0 ≤ x ∧ x < 67108864) :
    Calls Tryz.prog 83 #[.agg (arr .u64 r)] w fun e w' => e = .returned (.agg (arr .u64 (factors r))) ∧ Below w.heap.size w w' := by
  have HR := Lib.hid hr
  have HBS := Lib.hid (fun k (h : k < 5) => both_set hr h)
  have HBL := Lib.hid (fun k => both_length hr k)
  have HBE := Lib.hid (both_end hr)
  have HFL := Lib.hid (factors_length hr)
  have HFW := Lib.hid (show ∀ z ∈ factors r, (Lit.int .u64 z).wf = true from fun z hz => wf_64 (by have := factors_bound hb z hz; omega))
  have HRB := Lib.hid (fun i => getD_range (P := fun x => 0 ≤ x ∧ x < 67108864) hb (by omega) i)
  have hrw : ∀ z ∈ r, (Lit.int .u64 z).wf = true := fun z hz => wf_64 (by have := hb z hz; omega)
  clear hr hb
  go_enter Tryz.func83, Tryz.ntmps83
  go_wp2_with (first
    | (refine wpList_box_Row (w := w) rfl 111 _ rfl .u64 r rfl hrw ?_; intro w1 r1 g1 z1)
    | (refine wpList_alloc_Row (w := w1) rfl 116 rfl .u64 10 zero_ten ?_; intro w2 r2 g2 z2)
    | (refine wpList_alloc_Row (w := w2) rfl 116 rfl .u64 10 zero_ten ?_; intro w3 r3 g3 z3; have p3 := (r1.grown g2 (by simp)).grown g3 (by simp))
    | (refine wpList_load_Row (w := w3) rfl 111 _ rfl w.heap.size rfl 111 .u64 _ p3 5 23 Tryz.underlying111 info_num HR.out ?_))
  obtain ⟨gr, hgr⟩ : ∃ g, w1.heap.size = g := ⟨_, rfl⟩
  obtain ⟨gf, hgf⟩ : ∃ g, w2.heap.size = g := ⟨_, rfl⟩
  have l1 := r1.lt
  have l2 := r2.lt
  have b3 : Below w.heap.size w w3 := (((Below.refl _ w).grown g1 (Nat.le_refl _) (by simp)).grown g2 g1.size (by simp)).grown g3 (by omega) (by simp)
  have q3 := r2.grown g3 (by simp)
  rw [hgr] at l1 l2 q3
  rw [hgf] at l2 r3
  rw [hgr, hgf]
  clear hgr hgf r1 r2 g1 g2 g3 z1 z2 z3 p3
  go_loopw [7] (fun i wr => ∃ k : Nat, k ≤ 5 ∧ i = .int .i64 k ∧ Below w.heap.size w wr ∧ Row wr gf 116 .u64 (both r k) ∧ Row wr gr 116 .u64 (List.replicate 10 0)) (fun i _ => 5 - (intOf i).toNat)
  case atStart => exact ⟨0, by omega, rfl, b3, by rw [both_zero]; exact r3, q3⟩
  case round =>
    clear b3 q3 r3
    obtain ⟨k, hk, rfl, hbl, fr, er⟩ := hrel
    have hk0 : (0 : Int) ≤ (k : Int) := by omega
    by_cases hlt : k < 5
    · have hlt' : (k : Int) < 5 := by omega
      have hidx : ∀ W, (Instr.index 111 (.agg (arr .u64 r)) (.int .i64 (k : Int))).run Tryz.prog W = .ok (.int .u64 (r.getD k 0)) W := fun W =>
        run_index_arr 111 23 5 .u64 r k W Tryz.underlying111 (by kernel_rfl) (by kernel_rfl) HR.out hlt
      have hx := HRB.out k
      have hm : IntKind.u64.wrap (5 * r.getD k 0) = 5 * r.getD k 0 := IntWalk.u64_in _ (by omega)
      have HS := HBS.out k hlt
      have wx1 : (Lit.int .u64 (5 * r.getD k 0)).wf = true := wf_64 (by omega)
      have wx2 : (Lit.int .u64 (r.getD k 0)).wf = true := wf_64 (by omega)
      generalize r.getD k 0 = x at *
      go_wp2_with (first
        | (refine wpList_store_elem (w := wr) rfl 23 _ _ rfl gf k rfl 116 .u64 _ (5 * x) rfl fr (by rw [HBL.out]; omega) info_u64 wx1 ?_; intro w4 q4 g4 z4)
        | (refine wpList_store_elem (w := w4) rfl 23 _ _ rfl gf (5 + k) rfl 116 .u64 _ x rfl q4 (by rw [List.length_set, HBL.out]; omega) info_u64 wx2 ?_; intro w5 q5 g5 z5))
      go_roundw
      case rel => exact ⟨k + 1, by omega, by go_num, (hbl.grown g4 hbl.size (fun r e => by cases e; omega)).grown g5 (by have := hbl.size; have := g4.size; omega) (fun r e => by cases e; omega), by rw [← HS]; exact q5, (er.grown g4 (by intro e; injection e with e; omega)).grown g5 (by intro e; injection e with e; omega)⟩
      case measure => simp [intOf]; omega
    · have hk5 : k = 5 := by omega
      subst hk5
      rw [HBE.out] at fr
      clear hk0 hlt
      go_wp2_with (first
        | (refine wpList_load_Row (w := wr) rfl 116 _ rfl gf rfl 116 .u64 _ fr 10 23 Tryz.underlying116 info_ten HFL.out ?_)
        | (refine wpList_store_RowTo (w := wr) rfl 116 _ _ rfl gr rfl 116 .u64 _ (factors r) rfl er 10 info_ten HFL.out (by simp) HFW.out ?_; intro w8 q8 g8 z8))
      refine bodyPost_ret (results_Row rfl _ _ gr _ _ _ rfl q8 10 23 Tryz.underlying116 info_ten HFL.out) rfl ?_
      exact ⟨rfl, hbl.grown g8 hbl.size (fun r e => by cases e; omega)⟩
end Go.Proofs.YtjelacblnjbfgaaGreatDoor.Po
namespace Go.Proofs.YtjelacblnjbfgaaGreatDoor.Po
open Go.RowKit Go.Shelf Mem Go.Proofs.YtjelacblnjbfgaaGreatDoor.Sum
attribute [local irreducible] wpList wpListIn
theorem getD_set_same (l : List Int) {i : Nat} (h : i < l.length) (x : Int) : (l.set i x).getD i 0 = x := by simp [List.getD_eq_getElem?_getD, h]
theorem settle_wf {n : List Int} (hl : n.length = 5) (h : ∀ x ∈ n, 0 ≤ x ∧ x < 1152921504606846976) : (settle n).length = 5 ∧ ∀ z ∈ settle n, (Lit.int .u64 z).wf = true :=
  ⟨(settle_settled hl h).length, fun z hz => wf_64 (by have := (settle_settled hl h).bound z hz; omega)⟩
set_option maxRecDepth 100000 in
theorem settled_any (n : List Int) (w : World) (hn : n.length = 5) (hb : ∀ x ∈ n, 0 ≤ x ∧ x < 1152921504606846976) :
    Calls Tryz.prog 104 #[.agg (arr .u64 n)] w fun e w' => e = .returned (.agg (arr .u64 (settle n))) ∧ Below w.heap.size w w' := by
  have HN := Lib.hid hn
  have HS := Lib.hid (settle_wf hn hb)
  have HO := Lib.hid (fun k => over_bound hb k)
  have HCL := Lib.hid ((carL_length 0 n).trans hn)
  have HCG := Lib.hid (fun k (h : k < 5) => carL_get 0 n k (by omega))
  have HOS := Lib.hid (fun k => show over 0 n (k + 1) = (n.getD k 0 + over 0 n k) / 67108864 from rfl)
  have HNB := Lib.hid (fun i => getD_range (P := fun x => 0 ≤ x ∧ x < 1152921504606846976) hb (by omega) i)
  have hnw : ∀ z ∈ n, (Lit.int .u64 z).wf = true := fun z hz => wf_64 (by have := hb z hz; omega)
  clear hn hb
  go_enter Tryz.func104, Tryz.ntmps104
  go_wp2_with (first
    | (refine wpList_box_Row (w := w) rfl 111 _ rfl .u64 n rfl hnw ?_; intro w1 r1 g1 z1)
    | (refine wpList_alloc_Row (w := w1) rfl 111 rfl .u64 5 zero_num ?_; intro w2 r2 g2 z2))
  obtain ⟨gr, hgr⟩ : ∃ g, w1.heap.size = g := ⟨_, rfl⟩
  have l1 := r1.lt
  have b2 : Below w.heap.size w w2 := ((Below.refl _ w).grown g1 (Nat.le_refl _) (by simp)).grown g2 g1.size (by simp)
  have p2 := r1.grown g2 (by simp)
  rw [hgr] at l1 r2 ⊢
  clear hgr r1 g1 g2 z1 z2
  go_loopw [3, 5] (fun o i wr => ∃ k : Nat, k ≤ 5 ∧ i = .int .i64 k ∧ o = .int .u64 (over 0 n k) ∧ Below w.heap.size w wr ∧ Row wr w.heap.size 111 .u64 (blend (carL 0 n) n k) ∧ Row wr gr 111 .u64 (List.replicate 5 0)) (fun _ i _ => 5 - (intOf i).toNat)
  case atStart => exact ⟨0, by omega, rfl, rfl, b2, by rw [blend_zero]; exact p2, r2⟩
  case round =>
    clear b2 p2 r2
    obtain ⟨k, hk, rfl, rfl, hbl, nr, er⟩ := hrel
    have hk0 : (0 : Int) ≤ (k : Int) := by omega
    by_cases hlt : k < 5
    · have hlt' : (k : Int) < 5 := by omega
      have hLen : (carL 0 n).length = n.length := by rw [HCL.out, HN.out]
      have hl5 : (blend (carL 0 n) n k).length = 5 := by rw [blend_length hLen, HN.out]
      have c0 := nr.cell (i := k) (by rw [hl5]; exact hlt)
      rw [blend_get hLen (by rw [HN.out]; exact hlt)] at c0
      have HSET := Lib.hid (blend_set hLen (i := k) (by rw [HN.out]; exact hlt))
      rw [HCG.out k hlt] at HSET
      have HNX := Lib.hid (HOS.out k)
      have ho := HO.out k
      have hx := HNB.out k
      generalize n.getD k 0 = x at *
      generalize over 0 n k = o at *
      have hadd : IntKind.u64.wrap (x + o) = x + o := IntWalk.u64_in _ (by omega)
      have hand := mask_limb (x + o) (by omega) (by omega)
      have w0 : (Lit.int .u64 (x + o)).wf = true := wf_64 (by omega)
      have w1' : (Lit.int .u64 ((x + o) % 67108864)).wf = true := wf_64 (by omega)
      have HL5 := Lib.hid hl5
      clear hl5 hLen
      go_wp2_with (first
        | (refine wpList_store_elem (w := wr) rfl 23 _ _ rfl w.heap.size k rfl 111 .u64 _ (x + o) rfl nr (by rw [HL5.out]; exact hlt) info_u64 w0 ?_; intro w4 q4 g4 z4; have c4 := q4.cell (i := k) (by rw [List.length_set, HL5.out]; exact hlt); rw [getD_set_same _ (by rw [HL5.out]; exact hlt)] at c4; clear c0)
        | (refine wpList_store_elem (w := w4) rfl 23 _ _ rfl w.heap.size k rfl 111 .u64 _ ((x + o) % 67108864) rfl q4 (by rw [List.length_set, HL5.out]; exact hlt) info_u64 w1' ?_; intro w5 q5 g5 z5))
      go_roundw
      case rel => exact ⟨k + 1, by omega, by go_num, by rw [HNX.out], (hbl.grown g4 hbl.size (fun r e => by cases e; omega)).grown g5 (by have := hbl.size; have := g4.size; omega) (fun r e => by cases e; omega), by rw [← HSET.out]; rwa [List.set_set] at q5, (er.grown g4 (by intro e; injection e with e; omega)).grown g5 (by intro e; injection e with e; omega)⟩
      case measure => simp [intOf]; omega
    · have hk5 : k = 5 := by omega
      subst hk5
      have hz : blend (carL 0 n) n 5 = carL 0 n := by
        have := blend_all (F := carL 0 n) (a := n) (by rw [HCL.out, HN.out])
        rwa [HN.out] at this
      rw [hz] at nr
      have ho := HO.out 5
      have hset : settle n = (((carL 0 n).set 0 ((carL 0 n).getD 0 0 + 5 * over 0 n 5)).set 1 ((carL 0 n).getD 1 0 + ((carL 0 n).getD 0 0 + 5 * over 0 n 5) / 67108864)).set 0 (((carL 0 n).getD 0 0 + 5 * over 0 n 5) % 67108864) := rfl
      have hm0 : 0 ≤ (carL 0 n).getD 0 0 ∧ (carL 0 n).getD 0 0 < 67108864 := by rw [HCG.out 0 (by omega)]; omega
      have hm1 : 0 ≤ (carL 0 n).getD 1 0 ∧ (carL 0 n).getD 1 0 < 67108864 := by rw [HCG.out 1 (by omega)]; omega
      obtain ⟨m0, m1, m2, m3, m4, hm⟩ := five HCL.out
      rw [hm] at nr hset hm0 hm1
      simp only [List.getD_cons_zero, List.getD_cons_succ, List.set_cons_zero, List.set_cons_succ] at hset hm0 hm1
      have HSE := Lib.hid hset
      clear hset hz hm hk0 hlt
      generalize over 0 n 5 = o at *
      have c0 := nr.cell (i := 0) (by simp)
      have c1 := nr.cell (i := 1) (by simp)
      simp only [List.getD_cons_zero, List.getD_cons_succ] at c0 c1
      have hmul : IntKind.u64.wrap (5 * o) = 5 * o := IntWalk.u64_in _ (by omega)
      have hadd : IntKind.u64.wrap (m0 + 5 * o) = m0 + 5 * o := IntWalk.u64_in _ (by omega)
      have hadd2 : IntKind.u64.wrap (m1 + (m0 + 5 * o) / 67108864) = m1 + (m0 + 5 * o) / 67108864 := IntWalk.u64_in _ (by omega)
      have hand := mask_limb (m0 + 5 * o) (by omega) (by omega)
      have w0 : (Lit.int .u64 (m0 + 5 * o)).wf = true := wf_64 (by omega)
      have w1' : (Lit.int .u64 (m1 + (m0 + 5 * o) / 67108864)).wf = true := wf_64 (by omega)
      have w2' : (Lit.int .u64 ((m0 + 5 * o) % 67108864)).wf = true := wf_64 (by omega)
      go_wp2_with (first
        | (refine wpList_store_elem (w := wr) rfl 23 _ _ rfl w.heap.size 0 rfl 111 .u64 _ (m0 + 5 * o) rfl nr (by simp) info_u64 w0 ?_; intro w4 q4 g4 z4; simp only [List.set_cons_zero] at q4; have c4 := q4.cell (i := 0) (by simp); have c5 := q4.cell (i := 1) (by simp); simp only [List.getD_cons_zero, List.getD_cons_succ] at c4 c5; clear c0 c1)
        | (refine wpList_store_elem (w := w4) rfl 23 _ _ rfl w.heap.size 1 rfl 111 .u64 _ (m1 + (m0 + 5 * o) / 67108864) rfl q4 (by simp) info_u64 w1' ?_; intro w5 q5 g5 z5; simp only [List.set_cons_zero, List.set_cons_succ] at q5; have c6 := q5.cell (i := 0) (by simp); simp only [List.getD_cons_zero] at c6; clear c4 c5)
        | (refine wpList_store_elem (w := w5) rfl 23 _ _ rfl w.heap.size 0 rfl 111 .u64 _ ((m0 + 5 * o) % 67108864) rfl q5 (by simp) info_u64 w2' ?_; intro w6 q6 g6 z6; simp only [List.set_cons_zero] at q6; rw [← HSE.out] at q6; clear c6; have e6 := ((er.grown g4 (by intro e; injection e with e; omega)).grown g5 (by intro e; injection e with e; omega)).grown g6 (by intro e; injection e with e; omega))
        | (refine wpList_load_Row (w := w6) rfl 111 _ rfl w.heap.size rfl 111 .u64 _ q6 5 23 Tryz.underlying111 info_num HS.out.1 ?_)
        | (refine wpList_store_RowTo (w := w6) rfl 111 _ _ rfl gr rfl 111 .u64 _ (settle n) rfl e6 5 info_num HS.out.1 (by simp) HS.out.2 ?_; intro w8 q8 g8 z8))
      refine bodyPost_ret (results_Row rfl _ _ gr _ _ _ rfl q8 5 23 Tryz.underlying111 info_num HS.out.1) rfl ?_
      have s0 := hbl.size
      have s4 := g4.size
      have s5 := g5.size
      have s6 := g6.size
      exact ⟨rfl, (((hbl.grown g4 s0 (fun r e => by cases e; omega)).grown g5 (by omega) (fun r e => by cases e; omega)).grown g6 (by omega) (fun r e => by cases e; omega)).grown g8 (by omega) (fun r e => by cases e; omega)⟩
theorem reduce_wf {a : List Int} (h : Settled a) : (reduce a).length = 5 ∧ (∀ z ∈ reduce a, (Lit.int .u64 z).wf = true) ∧ ∀ x ∈ reduce a, 0 ≤ x ∧ x < 134217728 := by
  have ho := over_eq h
  obtain ⟨a0, a1, a2, a3, a4, rfl, h⟩ := h
  have hO : 0 ≤ over 5 [a0, a1, a2, a3, a4] 5 ∧ over 5 [a0, a1, a2, a3, a4] 5 ≤ 1 := by
    rw [ho]
    simp only [lv]
    omega
  generalize over 5 [a0, a1, a2, a3, a4] 5 = O at hO
  have e : reduce [a0, a1, a2, a3, a4] = [a0 + 5 * over 5 [a0, a1, a2, a3, a4] 5, a1, a2, a3, a4] := rfl
  have hb : ∀ x ∈ reduce [a0, a1, a2, a3, a4], 0 ≤ x ∧ x < 134217728 := by
    intro x hx
    rw [e] at hx
    simp only [List.mem_cons, List.not_mem_nil, or_false] at hx
    have hO' : 0 ≤ over 5 [a0, a1, a2, a3, a4] 5 ∧ over 5 [a0, a1, a2, a3, a4] 5 ≤ 1 := by
      rw [ho]
      simp only [lv]
      omega
    omega
  exact ⟨rfl, fun z hz => wf_64 (by have := hb z hz; omega), hb⟩
theorem over5_bound {a : List Int} (h : Settled a) : ∀ k, 0 ≤ over 5 a k ∧ over 5 a k ≤ 5
  | 0 => by simp [over]
  | k + 1 => by
    have ih := over5_bound h k
    have := getD_range (P := fun x => 0 ≤ x ∧ x < 134217728) h.bound (by omega) k
    rw [over]
    omega
set_option maxRecDepth 100000 in
theorem reduced_any (a : List Int) (w : World) (h : Settled a) :
    Calls Tryz.prog 88 #[.agg (arr .u64 a)] w fun e w' => e = .returned (.agg (arr .u64 (reduce a))) ∧ Below w.heap.size w w' := by
  have HN := Lib.hid h.length
  have HR := Lib.hid (reduce_wf h)
  have HO := Lib.hid (fun k => over5_bound h k)
  have HOS := Lib.hid (fun k => show over 5 a (k + 1) = (a.getD k 0 + over 5 a k) / 67108864 from rfl)
  have HNB := Lib.hid (fun i => getD_range (P := fun x => 0 ≤ x ∧ x < 134217728) h.bound (by omega) i)
  have HRS := Lib.hid (show a.set 0 (a.getD 0 0 + 5 * over 5 a 5) = reduce a from rfl)
  have hnw : ∀ z ∈ a, (Lit.int .u64 z).wf = true := fun z hz => wf_64 (by have := h.bound z hz; omega)
  clear h
  go_enter Tryz.func88, Tryz.ntmps88
  go_wp2_with (first
    | (refine wpList_box_Row (w := w) rfl 111 _ rfl .u64 a rfl hnw ?_; intro w1 r1 g1 z1)
    | (refine wpList_alloc_Row (w := w1) rfl 111 rfl .u64 5 zero_num ?_; intro w2 r2 g2 z2; have p2 := r1.grown g2 (by simp))
    | (refine wpList_load_Row (w := w2) rfl 111 _ rfl w.heap.size rfl 111 .u64 _ p2 5 23 Tryz.underlying111 info_num HN.out ?_))
  obtain ⟨gr, hgr⟩ : ∃ g, w1.heap.size = g := ⟨_, rfl⟩
  have l1 := r1.lt
  have b2 : Below w.heap.size w w2 := ((Below.refl _ w).grown g1 (Nat.le_refl _) (by simp)).grown g2 g1.size (by simp)
  rw [hgr] at l1 r2 ⊢
  clear hgr r1 g1 g2 z1 z2
  go_loop [3, 7] (fun o i => ∃ k : Nat, k ≤ 5 ∧ i = .int .i64 k ∧ o = .int .u64 (over 5 a k)) (fun _ i => 5 - (intOf i).toNat)
  case atStart => exact ⟨0, by omega, rfl, rfl⟩
  case round =>
    obtain ⟨k, hk, rfl, rfl⟩ := hrel
    have hk0 : (0 : Int) ≤ (k : Int) := by omega
    by_cases hlt : k < 5
    · have hlt' : (k : Int) < 5 := by omega
      have hidx : ∀ W, (Instr.index 111 (.agg (arr .u64 a)) (.int .i64 (k : Int))).run Tryz.prog W = .ok (.int .u64 (a.getD k 0)) W := fun W =>
        run_index_arr 111 23 5 .u64 a k W Tryz.underlying111 (by kernel_rfl) (by kernel_rfl) HN.out hlt
      have HNX := Lib.hid (HOS.out k)
      have ho := HO.out k
      have hx := HNB.out k
      generalize a.getD k 0 = x at *
      generalize over 5 a k = o at *
      have hadd : IntKind.u64.wrap (x + o) = x + o := IntWalk.u64_in _ (by omega)
      go_wp2_with fail
      go_round
      case rel => exact ⟨k + 1, by omega, by go_num, by rw [HNX.out]⟩
      case measure => simp [intOf]; omega
    · have hk5 : k = 5 := by omega
      subst hk5
      have ho := HO.out 5
      have hx := HNB.out 0
      have c0 := p2.cell (i := 0) (by rw [HN.out]; omega)
      have HRS' := HRS
      generalize a.getD 0 0 = x at *
      generalize over 5 a 5 = o at *
      have hmul : IntKind.u64.wrap (5 * o) = 5 * o := IntWalk.u64_in _ (by omega)
      have hadd : IntKind.u64.wrap (x + 5 * o) = x + 5 * o := IntWalk.u64_in _ (by omega)
      have w0 : (Lit.int .u64 (x + 5 * o)).wf = true := wf_64 (by omega)
      go_wp2_with (first
        | (refine wpList_store_elem (w := w2) rfl 23 _ _ rfl w.heap.size 0 rfl 111 .u64 _ (x + 5 * o) rfl p2 (by rw [HN.out]; omega) info_u64 w0 ?_; intro w4 q4 g4 z4; rw [HRS.out] at q4; have e4 := r2.grown g4 (by intro e; injection e with e; omega))
        | (refine wpList_load_Row (w := w4) rfl 111 _ rfl w.heap.size rfl 111 .u64 _ q4 5 23 Tryz.underlying111 info_num HR.out.1 ?_)
        | (refine wpList_store_RowTo (w := w4) rfl 111 _ _ rfl gr rfl 111 .u64 _ (reduce a) rfl e4 5 info_num HR.out.1 (by simp) HR.out.2.1 ?_; intro w8 q8 g8 z8))
      refine bodyPost_ret (results_Row rfl _ _ gr _ _ _ rfl q8 5 23 Tryz.underlying111 info_num HR.out.1) rfl ?_
      exact ⟨rfl, (b2.grown g4 b2.size (fun r e => by cases e; omega)).grown g8 (by have := b2.size; have := g4.size; omega) (fun r e => by cases e; omega)⟩
end Go.Proofs.YtjelacblnjbfgaaGreatDoor.Po
