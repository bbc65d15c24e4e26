/-
  The pieces of package hkdf as plain functions, and the iterator over them by its contract. Conditions: what is said is at most 2^38 bytes; the two tables of package sha lie where the program's text lays them.
-/
import Derived.Test.YtbfdhbobokfbhaaDoorMacC
import Derived.Test.YtbfdhbobokfbhaaDoorWide
import Derived.Test.YtbfdhbobokfbhaaDoorMac2
namespace Go.Proofs.YtbfdhbobokfbhaaDoor.Hkdf
open Go.RowKit Go.Shelf Go.Proofs.YtbfdhbobokfbhaaDoor.Mem Go.Proofs.YtbfdhbobokfbhaaDoor.Help Go.Proofs.YtbfdhbobokfbhaaDoor.Sum Go.Proofs.YtbfdhbobokfbhaaDoor.Sha Go.Proofs.YtbfdhbobokfbhaaDoor.Mac Go.Proofs.YtbfdhbobokfbhaaDoor.Range Go.Proofs.YtbfdhbobokfbhaaDoor
set_option linter.unusedVariables false
attribute [local go_sem] Oper.semAt_some

/-- the pieces: each of the one ahead of it, of what is said, and of its number -/
def piece (key info : List Int) : Nat → List Int
  | 0 => []
  | i + 1 => tag key (piece key info i ++ (info ++ [(i : Int) + 1]))
/-- the first k pieces, one behind the other -/
def stream (key info : List Int) (k : Nat) : List Int := (List.range k).flatMap fun i => piece key info (i + 1)
/-- the first n bytes -/
def out (key info : List Int) (n : Nat) : List Int := (stream key info 255).take n

theorem piece_length (key info : List Int) (i : Nat) : (piece key info (i + 1)).length = 32 := tag_length _ _
theorem piece_bytes (key info : List Int) : ∀ i, Bs (piece key info i)
  | 0 => fun z hz => by cases hz
  | i + 1 => tag_bytes _ _
theorem piece_wf (key info : List Int) (i : Nat) : ∀ z ∈ piece key info i, (Lit.int .u8 z).wf = true := fun z hz => wf_of_byte (piece_bytes key info i z hz)
theorem piece_le (key info : List Int) : ∀ i, (piece key info i).length ≤ 32
  | 0 => by simp [piece]
  | i + 1 => by rw [piece_length]; omega
theorem stream_succ (key info : List Int) (k : Nat) : stream key info (k + 1) = stream key info k ++ piece key info (k + 1) := by simp [stream, List.range_succ, List.flatMap_append]
theorem stream_length (key info : List Int) : ∀ k, (stream key info k).length = 32 * k
  | 0 => rfl
  | k + 1 => by rw [stream_succ, List.length_append, stream_length key info k, piece_length]; omega
theorem stream_bytes (key info : List Int) (k : Nat) : Bs (stream key info k) := fun z hz => by
  obtain ⟨i, _, h⟩ := List.mem_flatMap.1 hz
  exact piece_bytes key info (i + 1) z h
theorem stream_more (key info : List Int) (k : Nat) : ∀ d, ∃ r, stream key info (k + d) = stream key info k ++ r
  | 0 => ⟨[], by simp⟩
  | d + 1 => by
    obtain ⟨r, h⟩ := stream_more key info k d
    exact ⟨r ++ piece key info (k + d + 1), by rw [← Nat.add_assoc, stream_succ, h, List.append_assoc]⟩
theorem out_length (key info : List Int) (n : Nat) (h : n ≤ 8160) : (out key info n).length = n := by rw [out, List.length_take, stream_length]; omega
theorem out_bytes (key info : List Int) (n : Nat) : Bs (out key info n) := fun z hz => stream_bytes key info 255 z (List.mem_of_mem_take hz)
theorem out_wf (key info : List Int) (n : Nat) : ∀ z ∈ out key info n, (Lit.int .u8 z).wf = true := fun z hz => wf_of_byte (out_bytes key info n z hz)
theorem out_zero (key info : List Int) : out key info 0 = [] := by simp [out]
theorem out_whole (key info : List Int) (k : Nat) (hk : k ≤ 255) : out key info (32 * k) = stream key info k := by
  obtain ⟨r, h⟩ := stream_more key info k (255 - k)
  rw [show k + (255 - k) = 255 by omega] at h
  rw [out, h, List.take_left' (stream_length _ _ _)]
theorem out_step (key info : List Int) (k j : Nat) (hk : k < 255) (hj : j ≤ 32) : out key info (32 * k) ++ (piece key info (k + 1)).take j = out key info (32 * k + j) := by
  obtain ⟨r, h⟩ := stream_more key info (k + 1) (255 - (k + 1))
  rw [show k + 1 + (255 - (k + 1)) = 255 by omega, stream_succ key info k, List.append_assoc] at h
  have hl := stream_length key info k
  have hp := piece_length key info k
  generalize piece key info (k + 1) = p at h hp ⊢
  rw [out_whole key info k (by omega), out, h]
  generalize stream key info k = s at hl ⊢
  rw [List.take_append, hl, List.take_of_length_le (l := s) (by omega), show 32 * k + j - 32 * k = j by omega, List.take_append_of_le_length (by omega)]

theorem out_take (key info : List Int) (m n : Nat) (h : m ≤ n) : (out key info n).take m = out key info m := by rw [out, out, List.take_take, Nat.min_eq_left h]
theorem out_one (key info : List Int) : out key info 32 = tag key (info ++ [1]) := by
  have := out_whole key info 1 (by omega)
  rw [show 32 * 1 = 32 from rfl] at this
  rw [this]
  simp [stream, piece]
attribute [irreducible] out stream

theorem follow_any (key : List Int) (hkb : ∀ z ∈ key, (Lit.int .u8 z).wf = true) (A : Option Addr) (m c : Nat) (w : World) :
    Calls Tryd.prog 19 #[.agg (arr .u8 key), .slice A m c] w fun e w' => e = .returned (.func (.func 24) #[] #[.pointer (some ⟨w.heap.size, 0, none⟩), .pointer (some ⟨w.heap.size + 1, 0, none⟩)]) ∧
      Row w' w.heap.size 25 .u8 key ∧ w'.cell? ⟨w.heap.size + 1, 0, none⟩ = some (.slice A m c) ∧ Below w.heap.size w w' ∧ Hid (w'.heap.size = w.heap.size + 2) := by
  go_enter Tryd.func19, Tryd.ntmps19
  go_wp2_with (refine wpList_box_Row rfl 25 _ rfl .u8 key rfl hkb ?_; intro w1 r1 g1 z1)
  obtain ⟨q, hq⟩ : ∃ q, w1.heap.size = q := ⟨_, rfl⟩
  have hqw := z1.out
  rw [hq] at hqw ⊢
  have b1 : Below w.heap.size w w1 := (Below.refl _ w).grown g1 (Nat.le_refl _) (by simp)
  go_ret
  refine ⟨by rw [← hqw]; rfl, r1.alloc _, ?_, b1.alloc b1.size _, Lib.hid (by simp; omega)⟩
  rw [← hqw, World.cell?_alloc_at _ _ _ _ hq.symm]
  rfl

/-- numbers at a block that is none of S, as numbers below the heap's end -/
theorem _root_.Go.Proofs.YtbfdhbobokfbhaaDoor.Mem.IntsN.ints {S : Nat → Prop} {w : World} {k : IntKind} {A : Option Addr} {n : Nat} {zs : List Int} (h : IntsN w k S A n zs) : Ints w k w.heap.size A n zs :=
  ⟨h.1, h.2.1, fun hn => by
    obtain ⟨b, off, e, _, hc⟩ := h.2.2 hn
    exact ⟨b, off, e, by have := World.block_lt_of_cell? w _ (hc 0 hn); simpa using this, hc⟩⟩
theorem _root_.Go.Proofs.YtbfdhbobokfbhaaDoor.Mem.IntsN.below {S : Nat → Prop} {w w' : World} {k : IntKind} {A : Option Addr} {n : Nat} {zs : List Int} (h : IntsN w k S A n zs) (hb : Below w.heap.size w w') : IntsN w' k S A n zs :=
  ⟨h.1, h.2.1, fun hn => by
    obtain ⟨b, off, e, hS, hc⟩ := h.2.2 hn
    exact ⟨b, off, e, hS, fun i hi => (hb.cell (p := ⟨b, off + i, none⟩) (World.block_lt_of_cell? w _ (hc i hi))).trans (hc i hi)⟩⟩
theorem nextI {S : Nat → Prop} {w : World} {g : Nat} {t : TypeId} {key info : List Int} {k : Nat} (h : Row w g t .u8 (piece key info (k + 1))) (hg : ¬ S g) : IntsN w .u8 S (some ⟨g, 0, none⟩) 32 (piece key info (k + 1)) := by
  have := IntsN.row h hg
  rwa [piece_length] at this
theorem _root_.Go.Proofs.YtbfdhbobokfbhaaDoor.Sha.Tab.only {S : Nat → Prop} {w w' : World} {g : Nat} {zs : List Int} (h : Tab w g zs) (ho : Only S w w') (hg : ¬ S g) : Tab w' g zs := by
  obtain ⟨t, fr, h⟩ := h
  exact ⟨t, fr, ho.block g _ hg h rfl⟩

set_option maxRecDepth 100000 in
set_option maxHeartbeats 8000000 in
theorem follow_stop (n xk xi : Nat) (S : Nat → Prop) (key info : List Int) (A : Option Addr) (m c : Nat) (w : World) (h1 : Row w xk 25 .u8 key) (hk : key.length = 32) (h2 : w.cell? ⟨xi, 0, none⟩ = some (.slice A m c)) (hS1 : ¬ S xk) (hS2 : ¬ S xi)
    (hi : IntsN w .u8 S A m info) (hmc : m ≤ c) (hcm : c ≤ maxLen) (hm : m ≤ 274877906944) (hSlt : ∀ b, S b → b < w.heap.size) (ht0 : Tab w 0 Sum.H0) (ht1 : Tab w 1 Sum.K) (hg0 : ¬ S 0) (hg1 : ¬ S 1) :
    SeqStop Fence.wide n Tryd.prog 24 #[.pointer (some ⟨xk, 0, none⟩), .pointer (some ⟨xi, 0, none⟩)] (fun x => #[.agg (arr .u8 x)]) (Only S) (fun k => if k < 255 then some (piece key info (k + 1)) else none) w := by
  intro l J Jx N W hW hJ hJx hN hY h0
  have k1 := h1.below hW h1.lt
  have k2 := (hW.cell (p := ⟨xi, 0, none⟩) (World.block_lt_of_cell? w _ h2)).trans h2
  have kv := hi.below hW
  have u0 := ht0.below hW ht0.lt
  have u1 := ht1.below hW ht1.lt
  have hsz := hW.size
  have hSlt : ∀ b, S b → b < W.heap.size := fun b h => by have := hSlt b h; omega
  have HL := Lib.hid hi.1
  have HK := Lib.hid hk
  clear h1 h2 hi ht0 ht1 hW hk
  refine callsIn_of_wp Tryd.func24 rfl trivial ?_ rfl
  simp only [Tryd.ntmps24, List.size_toArray, List.length_cons, List.length_nil, Nat.reduceAdd, Nat.reduceSub, Array.replicate_succ, Array.replicate_zero, List.push_toArray, List.append_toArray, List.nil_append, List.cons_append]
  gi_wp2_with fail
  gi_loopw [4, 7] (fun v i wr => ∃ (k : Nat) (A4 : Option Addr) (n4 c4 : Nat), k ≤ 255 ∧ i = .int .i64 k ∧ v = .slice A4 n4 c4 ∧ n4 ≤ c4 ∧ c4 ≤ maxLen ∧ n4 ≤ 32 ∧ IntsN wr .u8 S A4 n4 (piece key info k) ∧ J k wr ∧ Only S W wr) (fun _ i _ => 255 - (intOf i).toNat)
  case atStart => exact ⟨0, none, 0, 0, by omega, rfl, rfl, by omega, by simp [maxLen], by omega, ⟨rfl, by simp [piece], fun h => absurd h (by omega)⟩, h0, Only.refl _ _⟩
  case round =>
    obtain ⟨k, A4, n4, c4, hk, rfl, rfl, h4, h4m, hn4, hi4, Jk, ok⟩ := hrel
    by_cases hlt255 : k < 255
    · have q1 := ok.row hS1 k1
      have q2 := ok.cell (p := ⟨xi, 0, none⟩) hS2 k2
      have qi := (kv.only ok).ints
      have kq := q1.ints (n := 32) (by rw [HK.out]; omega)
      rw [List.take_of_length_le (by rw [HK.out]; omega)] at kq
      have i4 := hi4.ints
      have hT0 := u0.only ok hg0
      have hT1 := u1.only ok hg1
      have lb2 : xi < wr.heap.size := by have := World.block_lt_of_cell? wr _ q2; simpa using this
      have hsw := ok.size
      have HX := Lib.hid (show tag key [piece key info k, info, [(k : Int) + 1]].flatten = piece key info (k + 1) by simp [piece])
      have HLEN := Lib.hid (show [piece key info k, info, [(k : Int) + 1]].flatten.length ≤ 549755813888 by simp [HL.out]; have := piece_le key info k; omega)
      have hlt' : (k : Int) < 255 := by omega
      have hk0 : (0 : Int) ≤ (k : Int) := by omega
      have hw4 : IntKind.i64.wrap ((k : Int) + 1) = (k : Int) + 1 := by simp [IntKind.wrap, IntKind.bits, IntKind.signed]; omega
      have hw5 : IntKind.u8.wrap ((k : Int) + 1) = (k : Int) + 1 := by simp [IntKind.wrap, IntKind.bits, IntKind.signed]; omega
      have hw6 : (Lit.int .u8 ((k : Int) + 1)).wf = true := wf_of_byte (by omega)
      gi_wp2_with fail
      refine Held.wpIn_region_heldR (r := none) (S := fun W => Below wr.heap.size wr W) rfl (by kernel_rfl) (by kernel_rfl) (fun a w h => by obtain ⟨⟨v, e⟩, _⟩ := h; cases e) ?_
      change wpAnyH _ _ _ _ _ _ _ _ wr.drew
      have c0_0 := (Below.refl wr.heap.size wr).drew
      refine Held.take (v := .slice (some ⟨xk, 0, none⟩) 32 32) 0 (some 10) rfl rfl (by kernel_rfl) (by kernel_rfl) (by kernel_rfl) (fun _ _ _ h => h) rfl (Held.y_slice rfl (fun W => run_slice_arr_all (P := Tryd.prog) 25 5 32 xk W Tryd.underlying25 (by kernel_rfl) (by omega))) c0_0 ?_
      simp only [Act.put, List.setIfInBounds_toArray, List.set_cons_zero, List.set_cons_succ]
      refine Held.take (v := .slice A4 n4 c4) 1 (some 11) rfl rfl (by kernel_rfl) (by kernel_rfl) (by kernel_rfl) (fun _ _ _ h => h) rfl (Held.y_move rfl rfl) c0_0 ?_
      simp only [Act.put, List.setIfInBounds_toArray, List.set_cons_zero, List.set_cons_succ]
      refine Held.take (v := .slice A m c) 2 (some 12) rfl rfl (by kernel_rfl) (by kernel_rfl) (by kernel_rfl) (fun _ _ _ h => h) rfl (Held.y_load rfl rfl (by kernel_rfl) (fun W h => (h.cell (p := ⟨xi, 0, none⟩) lb2).trans q2)) c0_0 ?_
      simp only [Act.put, List.setIfInBounds_toArray, List.set_cons_zero, List.set_cons_succ]
      refine Held.take (v := .int .i64 (k : Int)) 3 (some 13) rfl rfl (by kernel_rfl) (by kernel_rfl) (by kernel_rfl) (fun _ _ _ h => h) rfl (Held.y_move rfl rfl) c0_0 ?_
      simp only [Act.put, List.setIfInBounds_toArray, List.set_cons_zero, List.set_cons_succ]
      refine Held.take (v := .int .i64 ((k : Int) + 1)) 4 (some 14) rfl rfl (by kernel_rfl) (by kernel_rfl) (by kernel_rfl) (fun _ _ _ h => h) rfl (Held.y_int rfl rfl rfl (Held.run_add 3 .i64 hw4)) c0_0 ?_
      simp only [Act.put, List.setIfInBounds_toArray, List.set_cons_zero, List.set_cons_succ]
      refine Held.take (v := .int .u8 ((k : Int) + 1)) 5 (some 15) rfl rfl (by kernel_rfl) (by kernel_rfl) (by kernel_rfl) (fun _ _ _ h => h) rfl (Held.y_convert rfl rfl (by kernel_rfl) Tryd.underlying5 hw5) c0_0 ?_
      simp only [Act.put, List.setIfInBounds_toArray, List.set_cons_zero, List.set_cons_succ]
      refine Held.two 6 9 (by kernel_rfl) ?_ ?_
      · refine Held.op_build 6 (some 16) 22 5 1 (.int .u8 0) 1 [.int .u8 ((k : Int) + 1)] rfl rfl rfl rfl Tryd.underlying22 info_u8 (by simp [Act.eval]) (by simp [Value.cells]) (by simp [Value.oneCell']) rfl (by omega) (by omega) ?_
        intro p6 w1 v6 b1
        have c0_1 := c0_0.trans (b1.mono c0_0.size)
        have c1_1 := Below.refl w1.heap.size w1
        refine ⟨c0_1, ?_⟩
        simp only [Act.put, List.setIfInBounds_toArray, List.set_cons_zero, List.set_cons_succ]
        refine Held.two 7 9 (by kernel_rfl) ?_ ?_
        · refine Held.op_build 7 (some 17) 43 22 3 (.slice none 0 0) 24 [.slice A4 n4 c4, .slice A m c, .slice (some ⟨p6, 0, none⟩) 1 1] rfl rfl rfl rfl Tryd.underlying43 info_bytes (by simp [Act.eval]) (by simp [Value.cells]) (by simp [Value.oneCell']) rfl (by omega) (by omega) ?_
          intro p7 w2 v7 b2
          have c0_2 := c0_1.trans (b2.mono c0_1.size)
          have c1_2 := b2
          have c2_2 := Below.refl w2.heap.size w2
          have T7 := (Texts.one ((i4.below c0_2).more c0_2.size) h4 h4m).cons ((Texts.one ((qi.below c0_2).more c0_2.size) hmc hcm).cons (Texts.one (((Held.ints_of_vals (zs := [(k : Int) + 1]) v6 (by simpa using hw6)).below c1_2).more c1_2.size) (Nat.le_refl 1) (by simp [maxLen])))
          refine ⟨c0_2, ?_⟩
          simp only [Act.put, List.setIfInBounds_toArray, List.set_cons_zero, List.set_cons_succ]
          refine Held.two 8 9 (by kernel_rfl) ?_ ?_
          · refine Held.op_call 8 (some 18) 18 #[.slice (some ⟨xk, 0, none⟩) 32 32, .slice (some ⟨p7, 0, none⟩) 3 3] rfl rfl rfl rfl (enters_of Tryd.func18 (by kernel_rfl) rfl) (by simp [Act.eval])
              (tag_any _ _ _ _ 32 32 3 3 key _ [piece key info k, info, [(k : Int) + 1]] _ (kq.below c0_2) (Nat.le_refl 32) (by simp [maxLen]) (by omega) (v7.below c2_2) (T7.below c2_2) c0_2.size c2_2.size (by omega) HLEN.out (hT0.below c0_2 hT0.lt) (hT1.below c0_2 hT1.lt)) ?_
            rw [HX.out]
            rintro e w3 ⟨rfl, b3⟩
            have c0_3 := c0_2.trans (b3.mono c0_2.size)
            have c1_3 := c1_2.trans (b3.mono c1_2.size)
            have c2_3 := b3
            refine ⟨_, rfl, c0_3, ?_⟩
            simp only [Act.put, List.setIfInBounds_toArray, List.set_cons_zero, List.set_cons_succ]
            refine Held.one 9 (by kernel_rfl) ?_
            refine Held.op_alloc_Row 9 (some 6) 25 .u8 32 rfl rfl rfl rfl zero_32 ?_
            intro p9 w4 r9 b4 h9
            have c0_4 := c0_3.trans (b4.mono c0_3.size)
            have c1_4 := c1_3.trans (b4.mono c1_3.size)
            have c2_4 := c2_3.trans (b4.mono c2_3.size)
            have c4_4 := Below.refl w4.heap.size w4
            have q9 := Nat.le_trans c0_3.size h9.out
            refine ⟨c0_4, ?_⟩
            simp only [Act.put, List.setIfInBounds_toArray, List.set_cons_zero, List.set_cons_succ]
            refine Held.one 10 (by kernel_rfl) ?_
            refine Held.op_store_RowL 10 none 25 p9 25 .u8 _ (piece key info (k + 1)) rfl rfl rfl rfl rfl rfl (r9.below c4_4 r9.lt) 32 info_32 (piece_length _ _ _) (by simp) (piece_wf _ _ _) ?_
            intro w5 r10 g10
            have c0_5 := c0_4.grown g10 c0_4.size (fun r e => by have := h9.out; have := c0_3.size; cases e; omega)
            refine ⟨c0_5, ?_⟩
            simp only [Act.put]
            refine wpAnyH_done (by kernel_rfl) ?_ _
            have J9 := hJ k wr w5 none Jk (grown_of_below c0_5 none) (fun r e => by cases e)
            have o9 : Only S wr w5 := Only.of_below c0_5
            obtain ⟨fn, tmps, assign, body, hy, hR⟩ := hY k (piece key info (k + 1)) w5 J9 (by simp [hlt255])
            have r9' := r10
            gi_wp2_with (refine wpListIn_load_Row rfl 25 _ rfl p9 rfl 25 .u8 _ r10 32 5 Tryd.underlying25 info_32 (piece_length _ _ _) ?_)
            refine ⟨fun h => (by cases h), ?_⟩
            refine hR.mono ?_
            rintro e W4 (⟨rfl, J4, o4⟩ | ⟨rfl, Jx4⟩)
            · have hp9 : ¬ S p9 := fun e => by have := hSlt p9 e; omega
              have r4 := o4.row hp9 r10
              gi_wp2_with fail
              go_roundw
              case rel => exact ⟨k + 1, _, 32, 32, by omega, by go_num, rfl, by omega, by simp [maxLen], by omega, nextI r4 hp9, J4, (ok.trans o9).trans o4⟩
              case measure => simp [intOf]; omega
            · gi_wp2_with fail
              exact bodyPost_ret (results_none rfl _ _ _) rfl ⟨⟨_, rfl⟩, .inr ⟨_, Jx4⟩⟩
          · refine Held.op_alloc_Row 9 (some 6) 25 .u8 32 rfl rfl rfl rfl zero_32 ?_
            intro p9 w3 r9 b3 h9
            have c0_3 := c0_2.trans (b3.mono c0_2.size)
            have c1_3 := c1_2.trans (b3.mono c1_2.size)
            have c2_3 := b3
            have c3_3 := Below.refl w3.heap.size w3
            have q9 := Nat.le_trans c0_2.size h9.out
            refine ⟨c0_3, ?_⟩
            simp only [Act.put, List.setIfInBounds_toArray, List.set_cons_zero, List.set_cons_succ]
            refine Held.one 8 (by kernel_rfl) ?_
            refine Held.op_call 8 (some 18) 18 #[.slice (some ⟨xk, 0, none⟩) 32 32, .slice (some ⟨p7, 0, none⟩) 3 3] rfl rfl rfl rfl (enters_of Tryd.func18 (by kernel_rfl) rfl) (by simp [Act.eval])
              (tag_any _ _ _ _ 32 32 3 3 key _ [piece key info k, info, [(k : Int) + 1]] _ (kq.below c0_3) (Nat.le_refl 32) (by simp [maxLen]) (by omega) (v7.below c2_3) (T7.below c2_3) c0_3.size c2_3.size (by omega) HLEN.out (hT0.below c0_3 hT0.lt) (hT1.below c0_3 hT1.lt)) ?_
            rw [HX.out]
            rintro e w4 ⟨rfl, b4⟩
            have c0_4 := c0_3.trans (b4.mono c0_3.size)
            have c1_4 := c1_3.trans (b4.mono c1_3.size)
            have c2_4 := c2_3.trans (b4.mono c2_3.size)
            have c3_4 := b4
            refine ⟨_, rfl, c0_4, ?_⟩
            simp only [Act.put, List.setIfInBounds_toArray, List.set_cons_zero, List.set_cons_succ]
            refine Held.one 10 (by kernel_rfl) ?_
            refine Held.op_store_RowL 10 none 25 p9 25 .u8 _ (piece key info (k + 1)) rfl rfl rfl rfl rfl rfl (r9.below c3_4 r9.lt) 32 info_32 (piece_length _ _ _) (by simp) (piece_wf _ _ _) ?_
            intro w5 r10 g10
            have c0_5 := c0_4.grown g10 c0_4.size (fun r e => by have := h9.out; have := c0_2.size; cases e; omega)
            refine ⟨c0_5, ?_⟩
            simp only [Act.put]
            refine wpAnyH_done (by kernel_rfl) ?_ _
            have J9 := hJ k wr w5 none Jk (grown_of_below c0_5 none) (fun r e => by cases e)
            have o9 : Only S wr w5 := Only.of_below c0_5
            obtain ⟨fn, tmps, assign, body, hy, hR⟩ := hY k (piece key info (k + 1)) w5 J9 (by simp [hlt255])
            have r9' := r10
            gi_wp2_with (refine wpListIn_load_Row rfl 25 _ rfl p9 rfl 25 .u8 _ r10 32 5 Tryd.underlying25 info_32 (piece_length _ _ _) ?_)
            refine ⟨fun h => (by cases h), ?_⟩
            refine hR.mono ?_
            rintro e W4 (⟨rfl, J4, o4⟩ | ⟨rfl, Jx4⟩)
            · have hp9 : ¬ S p9 := fun e => by have := hSlt p9 e; omega
              have r4 := o4.row hp9 r10
              gi_wp2_with fail
              go_roundw
              case rel => exact ⟨k + 1, _, 32, 32, by omega, by go_num, rfl, by omega, by simp [maxLen], by omega, nextI r4 hp9, J4, (ok.trans o9).trans o4⟩
              case measure => simp [intOf]; omega
            · gi_wp2_with fail
              exact bodyPost_ret (results_none rfl _ _ _) rfl ⟨⟨_, rfl⟩, .inr ⟨_, Jx4⟩⟩
        · refine Held.op_alloc_Row 9 (some 6) 25 .u8 32 rfl rfl rfl rfl zero_32 ?_
          intro p9 w2 r9 b2 h9
          have c0_2 := c0_1.trans (b2.mono c0_1.size)
          have c1_2 := b2
          have c2_2 := Below.refl w2.heap.size w2
          have q9 := Nat.le_trans c0_1.size h9.out
          refine ⟨c0_2, ?_⟩
          simp only [Act.put, List.setIfInBounds_toArray, List.set_cons_zero, List.set_cons_succ]
          refine Held.one 7 (by kernel_rfl) ?_
          refine Held.op_build 7 (some 17) 43 22 3 (.slice none 0 0) 24 [.slice A4 n4 c4, .slice A m c, .slice (some ⟨p6, 0, none⟩) 1 1] rfl rfl rfl rfl Tryd.underlying43 info_bytes (by simp [Act.eval]) (by simp [Value.cells]) (by simp [Value.oneCell']) rfl (by omega) (by omega) ?_
          intro p7 w3 v7 b3
          have c0_3 := c0_2.trans (b3.mono c0_2.size)
          have c1_3 := c1_2.trans (b3.mono c1_2.size)
          have c2_3 := b3
          have c3_3 := Below.refl w3.heap.size w3
          have T7 := (Texts.one ((i4.below c0_3).more c0_3.size) h4 h4m).cons ((Texts.one ((qi.below c0_3).more c0_3.size) hmc hcm).cons (Texts.one (((Held.ints_of_vals (zs := [(k : Int) + 1]) v6 (by simpa using hw6)).below c1_3).more c1_3.size) (Nat.le_refl 1) (by simp [maxLen])))
          refine ⟨c0_3, ?_⟩
          simp only [Act.put, List.setIfInBounds_toArray, List.set_cons_zero, List.set_cons_succ]
          refine Held.one 8 (by kernel_rfl) ?_
          refine Held.op_call 8 (some 18) 18 #[.slice (some ⟨xk, 0, none⟩) 32 32, .slice (some ⟨p7, 0, none⟩) 3 3] rfl rfl rfl rfl (enters_of Tryd.func18 (by kernel_rfl) rfl) (by simp [Act.eval])
            (tag_any _ _ _ _ 32 32 3 3 key _ [piece key info k, info, [(k : Int) + 1]] _ (kq.below c0_3) (Nat.le_refl 32) (by simp [maxLen]) (by omega) (v7.below c3_3) (T7.below c3_3) c0_3.size c3_3.size (by omega) HLEN.out (hT0.below c0_3 hT0.lt) (hT1.below c0_3 hT1.lt)) ?_
          rw [HX.out]
          rintro e w4 ⟨rfl, b4⟩
          have c0_4 := c0_3.trans (b4.mono c0_3.size)
          have c1_4 := c1_3.trans (b4.mono c1_3.size)
          have c2_4 := c2_3.trans (b4.mono c2_3.size)
          have c3_4 := b4
          refine ⟨_, rfl, c0_4, ?_⟩
          simp only [Act.put, List.setIfInBounds_toArray, List.set_cons_zero, List.set_cons_succ]
          refine Held.one 10 (by kernel_rfl) ?_
          refine Held.op_store_RowL 10 none 25 p9 25 .u8 _ (piece key info (k + 1)) rfl rfl rfl rfl rfl rfl (r9.below c2_4 r9.lt) 32 info_32 (piece_length _ _ _) (by simp) (piece_wf _ _ _) ?_
          intro w5 r10 g10
          have c0_5 := c0_4.grown g10 c0_4.size (fun r e => by have := h9.out; have := c0_1.size; cases e; omega)
          refine ⟨c0_5, ?_⟩
          simp only [Act.put]
          refine wpAnyH_done (by kernel_rfl) ?_ _
          have J9 := hJ k wr w5 none Jk (grown_of_below c0_5 none) (fun r e => by cases e)
          have o9 : Only S wr w5 := Only.of_below c0_5
          obtain ⟨fn, tmps, assign, body, hy, hR⟩ := hY k (piece key info (k + 1)) w5 J9 (by simp [hlt255])
          have r9' := r10
          gi_wp2_with (refine wpListIn_load_Row rfl 25 _ rfl p9 rfl 25 .u8 _ r10 32 5 Tryd.underlying25 info_32 (piece_length _ _ _) ?_)
          refine ⟨fun h => (by cases h), ?_⟩
          refine hR.mono ?_
          rintro e W4 (⟨rfl, J4, o4⟩ | ⟨rfl, Jx4⟩)
          · have hp9 : ¬ S p9 := fun e => by have := hSlt p9 e; omega
            have r4 := o4.row hp9 r10
            gi_wp2_with fail
            go_roundw
            case rel => exact ⟨k + 1, _, 32, 32, by omega, by go_num, rfl, by omega, by simp [maxLen], by omega, nextI r4 hp9, J4, (ok.trans o9).trans o4⟩
            case measure => simp [intOf]; omega
          · gi_wp2_with fail
            exact bodyPost_ret (results_none rfl _ _ _) rfl ⟨⟨_, rfl⟩, .inr ⟨_, Jx4⟩⟩
      · refine Held.op_alloc_Row 9 (some 6) 25 .u8 32 rfl rfl rfl rfl zero_32 ?_
        intro p9 w1 r9 b1 h9
        have c0_1 := c0_0.trans (b1.mono c0_0.size)
        have c1_1 := Below.refl w1.heap.size w1
        have q9 := Nat.le_trans c0_0.size h9.out
        refine ⟨c0_1, ?_⟩
        simp only [Act.put, List.setIfInBounds_toArray, List.set_cons_zero, List.set_cons_succ]
        refine Held.one 6 (by kernel_rfl) ?_
        refine Held.op_build 6 (some 16) 22 5 1 (.int .u8 0) 1 [.int .u8 ((k : Int) + 1)] rfl rfl rfl rfl Tryd.underlying22 info_u8 (by simp [Act.eval]) (by simp [Value.cells]) (by simp [Value.oneCell']) rfl (by omega) (by omega) ?_
        intro p6 w2 v6 b2
        have c0_2 := c0_1.trans (b2.mono c0_1.size)
        have c1_2 := b2
        have c2_2 := Below.refl w2.heap.size w2
        refine ⟨c0_2, ?_⟩
        simp only [Act.put, List.setIfInBounds_toArray, List.set_cons_zero, List.set_cons_succ]
        refine Held.one 7 (by kernel_rfl) ?_
        refine Held.op_build 7 (some 17) 43 22 3 (.slice none 0 0) 24 [.slice A4 n4 c4, .slice A m c, .slice (some ⟨p6, 0, none⟩) 1 1] rfl rfl rfl rfl Tryd.underlying43 info_bytes (by simp [Act.eval]) (by simp [Value.cells]) (by simp [Value.oneCell']) rfl (by omega) (by omega) ?_
        intro p7 w3 v7 b3
        have c0_3 := c0_2.trans (b3.mono c0_2.size)
        have c1_3 := c1_2.trans (b3.mono c1_2.size)
        have c2_3 := b3
        have c3_3 := Below.refl w3.heap.size w3
        have T7 := (Texts.one ((i4.below c0_3).more c0_3.size) h4 h4m).cons ((Texts.one ((qi.below c0_3).more c0_3.size) hmc hcm).cons (Texts.one (((Held.ints_of_vals (zs := [(k : Int) + 1]) v6 (by simpa using hw6)).below c2_3).more c2_3.size) (Nat.le_refl 1) (by simp [maxLen])))
        refine ⟨c0_3, ?_⟩
        simp only [Act.put, List.setIfInBounds_toArray, List.set_cons_zero, List.set_cons_succ]
        refine Held.one 8 (by kernel_rfl) ?_
        refine Held.op_call 8 (some 18) 18 #[.slice (some ⟨xk, 0, none⟩) 32 32, .slice (some ⟨p7, 0, none⟩) 3 3] rfl rfl rfl rfl (enters_of Tryd.func18 (by kernel_rfl) rfl) (by simp [Act.eval])
          (tag_any _ _ _ _ 32 32 3 3 key _ [piece key info k, info, [(k : Int) + 1]] _ (kq.below c0_3) (Nat.le_refl 32) (by simp [maxLen]) (by omega) (v7.below c3_3) (T7.below c3_3) c0_3.size c3_3.size (by omega) HLEN.out (hT0.below c0_3 hT0.lt) (hT1.below c0_3 hT1.lt)) ?_
        rw [HX.out]
        rintro e w4 ⟨rfl, b4⟩
        have c0_4 := c0_3.trans (b4.mono c0_3.size)
        have c1_4 := c1_3.trans (b4.mono c1_3.size)
        have c2_4 := c2_3.trans (b4.mono c2_3.size)
        have c3_4 := b4
        refine ⟨_, rfl, c0_4, ?_⟩
        simp only [Act.put, List.setIfInBounds_toArray, List.set_cons_zero, List.set_cons_succ]
        refine Held.one 10 (by kernel_rfl) ?_
        refine Held.op_store_RowL 10 none 25 p9 25 .u8 _ (piece key info (k + 1)) rfl rfl rfl rfl rfl rfl (r9.below c1_4 r9.lt) 32 info_32 (piece_length _ _ _) (by simp) (piece_wf _ _ _) ?_
        intro w5 r10 g10
        have c0_5 := c0_4.grown g10 c0_4.size (fun r e => by have := h9.out; have := c0_0.size; cases e; omega)
        refine ⟨c0_5, ?_⟩
        simp only [Act.put]
        refine wpAnyH_done (by kernel_rfl) ?_ _
        have J9 := hJ k wr w5 none Jk (grown_of_below c0_5 none) (fun r e => by cases e)
        have o9 : Only S wr w5 := Only.of_below c0_5
        obtain ⟨fn, tmps, assign, body, hy, hR⟩ := hY k (piece key info (k + 1)) w5 J9 (by simp [hlt255])
        have r9' := r10
        gi_wp2_with (refine wpListIn_load_Row rfl 25 _ rfl p9 rfl 25 .u8 _ r10 32 5 Tryd.underlying25 info_32 (piece_length _ _ _) ?_)
        refine ⟨fun h => (by cases h), ?_⟩
        refine hR.mono ?_
        rintro e W4 (⟨rfl, J4, o4⟩ | ⟨rfl, Jx4⟩)
        · have hp9 : ¬ S p9 := fun e => by have := hSlt p9 e; omega
          have r4 := o4.row hp9 r10
          gi_wp2_with fail
          go_roundw
          case rel => exact ⟨k + 1, _, 32, 32, by omega, by go_num, rfl, by omega, by simp [maxLen], by omega, nextI r4 hp9, J4, (ok.trans o9).trans o4⟩
          case measure => simp [intOf]; omega
        · gi_wp2_with fail
          exact bodyPost_ret (results_none rfl _ _ _) rfl ⟨⟨_, rfl⟩, .inr ⟨_, Jx4⟩⟩
    · have hk255 : k = 255 := by omega
      subst hk255
      gi_wp2_with fail
      go_end0
      exact ⟨⟨_, rfl⟩, .inl ⟨255, by simp, Jk⟩⟩
end Go.Proofs.YtbfdhbobokfbhaaDoor.Hkdf

