/-
  The document's own Sum by its contract: SHA-256 of a text.
-/
import Derived.Test.YtjelacblnjbfgaaGreatDoorB6
import Derived.Deep.Cut
set_option linter.unusedVariables false
namespace Go.Proofs.YtjelacblnjbfgaaGreatDoor.Sha
open Go.RowKit Mem Help Go.Proofs.YtjelacblnjbfgaaGreatDoor.Sum
theorem or4 {a b c d : Int} (ha : 0 ≤ a ∧ a ≤ 255) (hb : 0 ≤ b ∧ b ≤ 255) (hc : 0 ≤ c ∧ c ≤ 255) (hd : 0 ≤ d ∧ d ≤ 255) :
    bits .or .u32 (bits .or .u32 (bits .or .u32 (a * 16777216) (b * 65536)) (c * 256)) d = ((a * 256 + b) * 256 + c) * 256 + d := by
  have hw : ∀ n : Int, 0 ≤ n → n < 2 ^ 32 → IntKind.u32.wrap n = n := fun n h1 h2 => by rw [IntKind.wrap_u32]; omega
  rw [bits_join .u32 32 (by decide) hw 24 (a * 16777216) (b * 65536) (by omega) (by omega) (by omega) (by omega) (by omega) (by omega)]
  rw [bits_join .u32 32 (by decide) hw 16 (a * 16777216 + b * 65536) (c * 256) (by omega) (by omega) (by omega) (by omega) (by omega) (by omega)]
  rw [bits_join .u32 32 (by decide) hw 8 (a * 16777216 + b * 65536 + c * 256) d (by omega) (by omega) (by omega) (by omega) (by omega) (by omega)]
  omega
theorem round_ref {x0 x1 x2 x3 x4 x5 x6 x7 kk ww : Int} (y4 : R32 x4) (y5 : R32 x5) (y6 : R32 x6) :
    [(x7 + bits .xor .u32 (bits .xor .u32 (rotI x4 6) (rotI x4 11)) (rotI x4 25) + bits .xor .u32 (bits .and .u32 x4 x5) (bits .and .u32 (bits .xor .u32 4294967295 x4) x6) + kk + ww +
        bits .xor .u32 (bits .xor .u32 (rotI x0 2) (rotI x0 13)) (rotI x0 22) + bits .xor .u32 (bits .xor .u32 (bits .and .u32 x0 x1) (bits .and .u32 x0 x2)) (bits .and .u32 x1 x2)) % 4294967296, x0, x1, x2,
      (x3 + (x7 + bits .xor .u32 (bits .xor .u32 (rotI x4 6) (rotI x4 11)) (rotI x4 25) + bits .xor .u32 (bits .and .u32 x4 x5) (bits .and .u32 (bits .xor .u32 4294967295 x4) x6) + kk + ww)) % 4294967296, x4, x5, x6] =
    Sum.round kk ww [x0, x1, x2, x3, x4, x5, x6, x7] := by
  rw [ch_eq' y4 y5 y6]
  simp only [Sum.round, sum_e, sum_a, List.cons.injEq, and_true, true_and]
  unfold bigI majI xorI andI
  refine ⟨?_, ?_⟩ <;> first | rfl | (congr 1; omega)
def outK (h : List Int) (i : Nat) : List Int := (List.range 32).map fun j => if j < i then (outB h).getD j 0 else 0
theorem outK_length (h : List Int) (i : Nat) : (outK h i).length = 32 := by simp [outK]
theorem outK_start (h : List Int) : outK h 0 = List.replicate 32 0 := by
  unfold outK
  rw [List.map_congr_left (g := fun _ => (0 : Int)) (fun j _ => by rw [if_neg (by omega)])]
  rfl
theorem outK_end (h : List Int) : outK h 32 = outB h := by
  apply List.ext_getElem (by rw [outK_length, out_length])
  intro i h1 h2
  rw [outK_length] at h1
  simp [outK, List.getD_eq_getElem?_getD, h2, h1]
theorem outK_step (h : List Int) {i : Nat} (hi : i < 32) : outK h (i + 1) = (outK h i).set i (h.getD (i / 4) 0 / 2 ^ (24 - 8 * (i % 4)) % 256) := by
  apply List.ext_getElem (by rw [List.length_set, outK_length, outK_length])
  intro j h1 h2
  rw [outK_length] at h1
  rw [List.getElem_set]
  by_cases e : i = j
  · subst e
    simp [outK, outB, List.getD_eq_getElem?_getD, h1]
  · rw [if_neg e]
    simp only [outK, List.getElem_map, List.getElem_range]
    by_cases q : j < i
    · rw [if_pos (by omega), if_pos q]
    · rw [if_neg (by omega), if_neg q]
theorem word_at (m : List Int) (at_ t : Nat) (h : at_ + 64 ≤ m.length) (ht : t < 16) :
    word ((m.drop at_).take 64) t = ((m.getD (at_ + 4 * t) 0 * 256 + m.getD (at_ + 4 * t + 1) 0) * 256 + m.getD (at_ + 4 * t + 2) 0) * 256 + m.getD (at_ + 4 * t + 3) 0 := by
  have e : ∀ j, j < 64 → ((m.drop at_).take 64).getD j 0 = m.getD (at_ + j) 0 := fun j hj => by simp [List.getD_eq_getElem?_getD, hj]
  unfold word
  rw [e _ (by omega), e _ (by omega), e _ (by omega), e _ (by omega)]
  simp only [Nat.add_assoc]
def wPart (bs : List Int) (t : Nat) : List Int := (List.range 64).map fun j => if j < t then (Sum.W bs).getD j 0 else 0
theorem wPart_length (bs : List Int) (t : Nat) : (wPart bs t).length = 64 := by simp [wPart]
theorem wPart_start (bs : List Int) : wPart bs 0 = List.replicate 64 0 := by
  unfold wPart
  rw [List.map_congr_left (g := fun _ => (0 : Int)) (fun j _ => by rw [if_neg (by omega)])]
  rfl
theorem wPart_get (bs : List Int) {t j : Nat} (h : j < t) (hj : j < 64) : (wPart bs t).getD j 0 = (Sum.W bs).getD j 0 := by simp [wPart, List.getD_eq_getElem?_getD, hj, h]
theorem wPart_end (bs : List Int) : wPart bs 64 = Sum.W bs := by
  apply List.ext_getElem (by rw [wPart_length, W_length])
  intro i h1 h2
  rw [wPart_length] at h1
  simp [wPart, h1, List.getD_eq_getElem?_getD, h2]
theorem wPart_step (bs : List Int) {t : Nat} (ht : t < 64) : wPart bs (t + 1) = (wPart bs t).set t ((Sum.W bs).getD t 0) := by
  apply List.ext_getElem (by rw [List.length_set, wPart_length, wPart_length])
  intro i h1 h2
  rw [List.getElem_set]
  by_cases e : t = i
  · subst e; simp [wPart]
  · rw [if_neg e]
    simp only [wPart, List.getElem_map, List.getElem_range]
    by_cases q : i < t
    · rw [if_pos (by omega), if_pos q]
    · rw [if_neg (by omega), if_neg q]
set_option maxRecDepth 100000 in
set_option maxHeartbeats 20000000 in
theorem rsum_any (B : Nat) (A : Option Addr) (n c : Nat) (zs : List Int) (w : World) (h : Ints w .u8 B A n zs) (hB : B ≤ w.heap.size) (hn : n ≤ 1099511627776) :
    Calls Tryz.prog 108 #[.slice A n c] w fun e w' => e = .returned (.agg (arr .u8 (Sum.sha zs))) ∧ Below w.heap.size w w' := by
  have HL := Lib.hid h.1
  have hni : (n : Int) ≤ 1099511627776 := by omega
  have r0 := Row.new (zs := List.replicate 32 0) (k := .u8) w 22 (fun z hz => by rw [List.eq_of_mem_replicate hz]; rfl)
  go_enter Tryz.func108, Tryz.ntmps108
  go_wp2_with fail
  refine (rwords_any _).mono ?_
  rintro e w1 ⟨rfl, hb1⟩
  have s1 := hb1.size
  rw [World.size_alloc] at s1
  have r01 := r0.below hb1 (by simp)
  have b1 : Below w.heap.size w w1 := ((Below.refl _ w).alloc (Nat.le_refl _) _).trans (hb1.mono (by simp))
  clear r0 hb1
  have k1 := Row.new (zs := List.replicate 64 0) (k := .u32) w1 149 (fun z hz => by rw [List.eq_of_mem_replicate hz]; rfl)
  have k2 := k1.setRow wf_K
  have r02 := (r01.alloc (.cells (arr .u32 (List.replicate 64 0)) 149)).setRow_other (g' := w1.heap.size) (by omega) (arr .u32 Sum.K)
  have b2 := (b1.alloc (by omega) (.cells (arr .u32 (List.replicate 64 0)) 149)).grown (grown_setRow _ w1.heap.size (arr .u32 Sum.K)) (by simp; omega) (fun r e => by cases e; omega)
  have z2 : ((w1.alloc (.cells (arr .u32 (List.replicate 64 0)) 149)).setRow w1.heap.size (arr .u32 Sum.K)).heap.size = w1.heap.size + 1 := by simp
  obtain ⟨w2, hw2⟩ : ∃ w2, (w1.alloc (.cells (arr .u32 (List.replicate 64 0)) 149)).setRow w1.heap.size (arr .u32 Sum.K) = w2 := ⟨_, rfl⟩
  have K2 : Row w2 w1.heap.size 149 .u32 Sum.K := by rw [← hw2]; exact k2
  have R2 : Row w2 w.heap.size 22 .u8 (List.replicate 32 0) := by rw [← hw2]; exact r02
  have B2 : Below w.heap.size w w2 := by rw [← hw2]; exact b2
  have Z2 : w2.heap.size = w1.heap.size + 1 := by rw [← hw2]; exact z2
  have H3 := Row.new w2 151 (eight_wf eight_H0)
  have K3 := K2.alloc (.cells (arr .u32 Sum.H0) 151)
  have R3 := R2.alloc (.cells (arr .u32 Sum.H0) 151)
  have B3 := B2.alloc (by omega) (.cells (arr .u32 Sum.H0) 151)
  have i3 := h.below (B3.mono hB)
  obtain ⟨w3, hw3⟩ : ∃ w3, w2.alloc (.cells (arr .u32 Sum.H0) 151) = w3 := ⟨_, rfl⟩
  have Z3 : w3.heap.size = w1.heap.size + 2 := by rw [← hw3, World.size_alloc, Z2]
  rw [hw3] at H3 K3 R3 B3 i3
  clear K2 R2 B2 r02 b2 z2 k2 r01 b1
  go_wp2_with (first
    | (refine wpList_store_Row rfl 149 _ _ rfl w1.heap.size rfl 149 .u32 _ Sum.K rfl k1 64 info_k rfl rfl ?_; change wpList _ _ _ _ _ ((w1.alloc (.cells (arr .u32 (List.replicate 64 0)) 149)).setRow w1.heap.size (arr .u32 Sum.K)); rw [hw2])
    | (at_builtin; change wpList _ _ _ _ _ (w2.alloc (.cells (arr .u32 Sum.H0) 151)); rw [hw3]; refine wpList_append_ints _ rfl _ _ 27 rfl w.heap.size 5 .u8 1 Tryz.underlying27 info_u8 (.slice none 0 0) [] rfl (Own.nil _ _ _ _) B A n c zs rfl i3 (by simp; omega) (by omega) (by omega) ?_; intro v4 w4 hown4 hg4 hat4; rw [List.nil_append] at hown4)
    | (go_at_call 116; refine (rpad_any (n : Int) n _ (by omega) (by omega)).mono ?_; rintro e w5 ⟨v5, rfl, hown5, hb5⟩; obtain ⟨A5, c5, rfl, _, _, i5⟩ := hown5.form)
    | (at_builtin; refine wpList_append_ints _ rfl _ _ 27 rfl w.heap.size 5 .u8 1 Tryz.underlying27 info_u8 v4 zs rfl (hown4.below hb5) _ _ _ _ _ rfl i5 (by rw [HL.out, pad_length]; omega) (by omega) (by have := hg4.size; have := hb5.size; omega) ?_; intro v6 w6 hown6 hg6 hat6))
  obtain ⟨msg, hmsg⟩ : ∃ msg, zs ++ padI n = msg := ⟨_, rfl⟩
  rw [hmsg] at hown6
  have hml : msg.length % 64 = 0 := by rw [← hmsg, List.length_append, HL.out]; exact pad_whole n
  have hm9 : 9 ≤ msg.length := by rw [← hmsg, List.length_append, pad_length]; omega
  have hmx : msg.length ≤ 1099511627776 + 128 := by rw [← hmsg, List.length_append, HL.out, pad_length]; omega
  have hmb : Bs msg := fun z hz => by have := wf_u8 (hown6.1 z hz); exact this
  have HS := Lib.hid (show Sum.sha zs = outB (blocksI msg (msg.length / 64)) by
    unfold Sum.sha
    rw [HL.out, hmsg, ← hmsg, List.length_append, HL.out])
  have g4 := hg4.size
  have g5 := hb5.size
  have g6 := hg6.size
  have d4 : Below w3.heap.size w3 w4 := (Below.refl _ w3).grown hg4 (Nat.le_refl _) (by simp [Value.ownBlock])
  have d5 : Below w3.heap.size w3 w5 := d4.trans (hb5.mono g4)
  have o6 : ∀ q, v4.ownBlock = some q → w3.heap.size ≤ q := fun q hq => by
    rcases hat4 with e | e
    · rw [e] at hq; simp [Value.ownBlock] at hq
    · rw [e] at hq; have := Option.some.inj hq; omega
  have d6 : Below w3.heap.size w3 w6 := d5.grown hg6 (by omega) o6
  have b6 : Below w.heap.size w w6 := B3.trans (d6.mono (by omega))
  have K6 := K3.below d6 K3.lt
  have R6 := R3.below d6 R3.lt
  have H6 := H3.below d6 (by rw [Z2, Z3]; omega)
  obtain ⟨gm, cm, hv6, hgm, hgl, hc61, hc62, hcell, _⟩ := hown6.at_ (by omega)
  have hgm3 : gm ≠ w1.heap.size + 1 := fun e => by
    rcases hown6.2.2 with ⟨hv, h0⟩ | ⟨q, cap, cur, hv, _, hq, _⟩
    · omega
    · rw [hv6] at hv
      injection hv with e1 e2 e3
      injection e1 with e1
      injection e1 with e1
      subst e1
      rw [Z2] at H6
      have h9 := H6.2
      rw [← e, hq] at h9
      cases h9
  subst hv6
  rw [Z2] at H6
  have ML := Lib.hid hml
  have HMS := Lib.hid hmsg
  have s6 : w1.heap.size + 2 ≤ w6.heap.size := by omega
  have hnp : w.heap.size < w1.heap.size + 1 := by omega
  have hp34 : w1.heap.size ≠ w1.heap.size + 1 := by omega
  have hp36 : w1.heap.size < w6.heap.size := by omega
  have hgl6 := hgl
  generalize w1.heap.size + 1 = p4 at H6 hgm3 s6 hnp hp34 ⊢
  obtain ⟨L, hL⟩ : ∃ L, msg.length = L := ⟨_, rfl⟩
  have HLM := Lib.hid hL
  rw [hL] at hml hm9 hmx hc61 hcell ⊢
  have hLi : (L : Int) ≤ 1099511627904 := by omega
  have hSg : ¬ (gm = p4 ∨ w6.heap.size ≤ gm) := by omega
  have hS3 : ¬ (w1.heap.size = p4 ∨ w6.heap.size ≤ w1.heap.size) := by omega
  have hS0 : ¬ (w.heap.size = p4 ∨ w6.heap.size ≤ w.heap.size) := by omega
  clear hL hown6 hown4 hown5 i5 i3 H3 K3 R3 B3 hg4 hg6 hb5 hat4 hat6 d4 d5 d6 o6 g4 g5 g6 k1 hmsg
  go_loopw [6] (fun i wr => ∃ j : Nat, 64 * j ≤ L ∧ i = .int .i64 ((64 * j : Nat) : Int) ∧ Only (fun b => b = p4 ∨ w6.heap.size ≤ b) w6 wr ∧ Row wr p4 151 .u32 (blocksI msg j) ∧ Below w.heap.size w wr) (fun i _ => L - (intOf i).toNat)
  case atStart => exact ⟨0, by omega, rfl, Only.refl _ _, H6, b6⟩
  case round =>
    clear H6 b6
    obtain ⟨j, hj, rfl, hon, hH, hbl⟩ := hrel
    by_cases hlt : 64 * j < L
    · obtain ⟨a, ha⟩ : ∃ a, 64 * j = a := ⟨_, rfl⟩
      have HA := Lib.hid ha
      have haL : a + 64 ≤ L := by omega
      rw [ha] at hlt ⊢
      have hai : (a : Int) < (L : Int) := by omega
      have ha0 : (0 : Int) ≤ (a : Int) := by omega
      have hai2 : (a : Int) + 64 ≤ (L : Int) := by omega
      clear ha hj
      have n7 : Row (wr.alloc (.cells (arr .u32 (List.replicate 64 0)) 149)) wr.heap.size 149 .u32 (wPart ((msg.drop a).take 64) 0) := by
        rw [wPart_start]; exact Row.new wr _ (fun z hz => by rw [List.eq_of_mem_replicate hz]; rfl)
      have o7 : Only (fun b => b = p4 ∨ w6.heap.size ≤ b) w6 (wr.alloc (.cells (arr .u32 (List.replicate 64 0)) 149)) := hon.trans (Only.of_below ((Below.refl _ wr).alloc (Nat.le_refl _) _))
      have H7 := hH.alloc (.cells (arr .u32 (List.replicate 64 0)) 149)
      have b7 := hbl.alloc hbl.size (.cells (arr .u32 (List.replicate 64 0)) 149)
      have hs7 := hon.size
      have hp47 : p4 ≠ wr.heap.size := by have := hH.lt; omega
      have hw7 := hbl.size
      go_wp2_with fail
      generalize wr.heap.size = p7 at n7 hs7 hp47 hw7 ⊢
      go_loopw [8] (fun i ws => ∃ t : Nat, t ≤ 64 ∧ i = .int .i64 (t : Int) ∧ Only (fun b => b = p4 ∨ w6.heap.size ≤ b) w6 ws ∧ Row ws p4 151 .u32 (blocksI msg j) ∧ Row ws p7 149 .u32 (wPart ((msg.drop a).take 64) t) ∧ Below w.heap.size w ws) (fun i _ => 64 - (intOf i).toNat)
      case atStart => exact ⟨0, by omega, rfl, o7, H7, n7, b7⟩
      case round =>
        clear n7 o7 H7 b7 hon hH hbl
        obtain ⟨t, ht, rfl, hon, hH, hW, hbl⟩ := hrel
        by_cases hlt64 : t < 64
        · have hti : (t : Int) < 64 := by omega
          have ht0 : (0 : Int) ≤ (t : Int) := by omega
          by_cases h16 : t < 16
          · have h16i : (t : Int) < 16 := by omega
            obtain ⟨p, hp⟩ : ∃ p, a + 4 * t = p := ⟨_, rfl⟩
            have HP := Lib.hid (show (a : Int) + 4 * (t : Int) = (p : Int) by omega)
            have HWD := Lib.hid (word_at msg a t (by rw [HLM.out]; omega) h16)
            have hpL : p + 3 < L := by omega
            have cc : ∀ q, q < L → wr.cell? ⟨gm, q, none⟩ = some (.int .u8 (msg.getD q 0)) := fun q hq => hon.cell (p := ⟨gm, q, none⟩) hSg (hcell q hq)
            rw [hp] at HWD
            have c0 := cc p (by omega)
            have c1 := cc (p + 1) (by omega)
            have c2 := cc (p + 2) (by omega)
            have c3 := cc (p + 3) (by omega)
            have y0 := hmb.at_ p
            have y1 := hmb.at_ (p + 1)
            have y2 := hmb.at_ (p + 2)
            have y3 := hmb.at_ (p + 3)
            have HST := Lib.hid (wPart_step ((msg.drop a).take 64) hlt64)
            obtain ⟨old, hco⟩ : ∃ old, wr.cell? ⟨p7, t, none⟩ = some old := ⟨_, hW.cell (by rw [wPart_length]; exact hlt64)⟩
            have hfo := hW.frozen t
            generalize msg.getD p 0 = x0 at c0 y0 HWD
            generalize msg.getD (p + 1) 0 = x1 at c1 y1 HWD
            generalize msg.getD (p + 2) 0 = x2 at c2 y2 HWD
            generalize msg.getD (p + 3) 0 = x3 at c3 y3 HWD
            have w1' : IntKind.i64.wrap ((p : Int) + 1) = ((p + 1 : Nat) : Int) := by rw [IntWalk.i64_in _ (by omega)]; omega
            have w2' : IntKind.i64.wrap ((p : Int) + 2) = ((p + 2 : Nat) : Int) := by rw [IntWalk.i64_in _ (by omega)]; omega
            have w3' : IntKind.i64.wrap ((p : Int) + 3) = ((p + 3 : Nat) : Int) := by rw [IntWalk.i64_in _ (by omega)]; omega
            have hp0 : p < L := by omega
            have hp1 : p + 1 < L := by omega
            have hp2 : p + 2 < L := by omega
            clear hp cc
            generalize p + 1 = p1 at c1 w1' hp1
            generalize p + 2 = p2 at c2 w2' hp2
            generalize p + 3 = p3 at c3 w3' hpL
            have i0 : (p : Int) < (L : Int) := by omega
            have i1 : (p1 : Int) < (L : Int) := by omega
            have i2 : (p2 : Int) < (L : Int) := by omega
            have i3 : (p3 : Int) < (L : Int) := by omega
            go_wp2_with fail
            rw [HP.out]
            have HO := Lib.hid (or4 y0 y1 y2 y3)
            have HV := Lib.hid (show (bits .or .u32 (bits .or .u32 (bits .or .u32 (x0 * 16777216) (x1 * 65536)) (x2 * 256)) x3) = (Sum.W ((msg.drop a).take 64)).getD t 0 by rw [or4 y0 y1 y2 y3, W_word _ h16, HWD.out])
            have v0 : IntKind.u32.wrap x0 = x0 := IntWalk.u32_in _ (by omega)
            have v1 : IntKind.u32.wrap x1 = x1 := IntWalk.u32_in _ (by omega)
            have v2 : IntKind.u32.wrap x2 = x2 := IntWalk.u32_in _ (by omega)
            have v3 : IntKind.u32.wrap x3 = x3 := IntWalk.u32_in _ (by omega)
            have v4 : IntKind.u32.wrap (x0 * 16777216) = x0 * 16777216 := IntWalk.u32_in _ (by omega)
            have v5 : IntKind.u32.wrap (x1 * 65536) = x1 * 65536 := IntWalk.u32_in _ (by omega)
            have v6 : IntKind.u32.wrap (x2 * 256) = x2 * 256 := IntWalk.u32_in _ (by omega)
            clear y0 y1 y2 y3 HO HWD
            go_still_tail 31, (by kernel_rfl)
            change wpList _ _ _ _ _ wr.drew
            clear v0 v1 v2 v3 v4 v5 v6 w1' w2' w3'
            go_wp2_with fail
            rw [HV.out]
            have o9 : Only (fun b => b = p4 ∨ w6.heap.size ≤ b) w6 (wr.setCell ⟨p7, t, none⟩ (.int .u32 ((Sum.W ((msg.drop a).take 64)).getD t 0))) := hon.trans (Only.of_grown (grown_setCell _ _ _ _) (fun r e => by cases e; exact .inr hs7))
            have q9 := hH.other (p := ⟨p7, t, none⟩) (by simp; omega) (.int .u32 ((Sum.W ((msg.drop a).take 64)).getD t 0))
            have r9 := hW.set t (wf_u32 (r32_W (bs := (msg.drop a).take 64) (fun z hz => hmb z (List.mem_of_mem_drop (List.mem_of_mem_take hz))) t))
            rw [← HST.out] at r9
            have b9 := hbl.setCell (p := ⟨p7, t, none⟩) (by simp; omega) (.int .u32 ((Sum.W ((msg.drop a).take 64)).getD t 0))
            go_roundw
            case rel => exact ⟨t + 1, by omega, by go_num, ⟨o9.1, o9.2⟩, q9, r9, b9.drew⟩
            case measure => simp [intOf]; omega
          · have h16i : ¬ (t : Int) < 16 := by omega
            have HV := Lib.hid (W_next ((msg.drop a).take 64) (t := t) (by omega) hlt64)
            have HST := Lib.hid (wPart_step ((msg.drop a).take 64) hlt64)
            have hbb : Bs ((msg.drop a).take 64) := fun z hz => hmb z (List.mem_of_mem_drop (List.mem_of_mem_take hz))
            have cc : ∀ q, q < t → wr.cell? ⟨p7, q, none⟩ = some (.int .u32 ((Sum.W ((msg.drop a).take 64)).getD q 0)) := fun q hq => by
              rw [hW.cell (by rw [wPart_length]; omega), wPart_get _ hq (by omega)]
            have c2 := cc (t - 2) (by omega)
            have c7 := cc (t - 7) (by omega)
            have c15 := cc (t - 15) (by omega)
            have c16 := cc (t - 16) (by omega)
            have y2 := r32_W hbb (t - 2)
            have y15 := r32_W hbb (t - 15)
            obtain ⟨old, hco⟩ : ∃ old, wr.cell? ⟨p7, t, none⟩ = some old := ⟨_, hW.cell (by rw [wPart_length]; exact hlt64)⟩
            have hfo := hW.frozen t
            have w2' : IntKind.i64.wrap ((t : Int) - 2) = ((t - 2 : Nat) : Int) := by rw [IntWalk.i64_in _ (by omega)]; omega
            have w7' : IntKind.i64.wrap ((t : Int) - 7) = ((t - 7 : Nat) : Int) := by rw [IntWalk.i64_in _ (by omega)]; omega
            have w15' : IntKind.i64.wrap ((t : Int) - 15) = ((t - 15 : Nat) : Int) := by rw [IntWalk.i64_in _ (by omega)]; omega
            have w16' : IntKind.i64.wrap ((t : Int) - 16) = ((t - 16 : Nat) : Int) := by rw [IntWalk.i64_in _ (by omega)]; omega
            have l2 : t - 2 < 64 := by omega
            have l7 : t - 7 < 64 := by omega
            have l15 : t - 15 < 64 := by omega
            have l16 : t - 16 < 64 := by omega
            generalize (Sum.W ((msg.drop a).take 64)).getD (t - 2) 0 = e2 at c2 y2 HV
            generalize (Sum.W ((msg.drop a).take 64)).getD (t - 7) 0 = e7 at c7 HV
            generalize (Sum.W ((msg.drop a).take 64)).getD (t - 15) 0 = e15 at c15 y15 HV
            generalize (Sum.W ((msg.drop a).take 64)).getD (t - 16) 0 = e16 at c16 HV
            clear cc
            generalize t - 2 = t2 at c2 w2' l2
            generalize t - 7 = t7 at c7 w7' l7
            generalize t - 15 = t15 at c15 w15' l15
            generalize t - 16 = t16 at c16 w16' l16
            have i2 : (t2 : Int) < 64 := by omega
            have i7 : (t7 : Int) < 64 := by omega
            have i15 : (t15 : Int) < 64 := by omega
            have i16 : (t16 : Int) < 64 := by omega
            have j2 := y2.1
            have j2' := y2.2
            have j15 := y15.1
            have j15' := y15.2
            have W7 := Lib.hid w7'
            have W16 := Lib.hid w16'
            have W2 := Lib.hid w2'
            have W15 := Lib.hid w15'
            clear w7' w16' w2' w15'
            go_wp2_with fail
            have w2' := W2.out
            have w15' := W15.out
            go_quiet (fail)
            clear w2' w15'
            go_wp2_with fail
            refine (rturn_any e15 7 _ y15 (by omega) (by omega)).mono ?_
            rintro e w' ⟨rfl, rfl⟩
            go_wp2_with fail
            refine (rturn_any e15 18 _ y15 (by omega) (by omega)).mono ?_
            rintro e w' ⟨rfl, rfl⟩
            go_wp2_with fail
            refine (rturn_any e2 17 _ y2 (by omega) (by omega)).mono ?_
            rintro e w' ⟨rfl, rfl⟩
            go_wp2_with fail
            refine (rturn_any e2 19 _ y2 (by omega) (by omega)).mono ?_
            rintro e w' ⟨rfl, rfl⟩
            go_wp2_with fail
            generalize hw8 : wr.drewN _ = w8
            have hst : Still wr w8 := by rw [← hw8]; exact (Still.refl _).drewN _
            have g7 := (hst.cell _).trans c7
            have g16 := (hst.cell _).trans c16
            have go := (hst.cell _).trans hco
            have gf : w8.frozen? ⟨p7, t, none⟩ = false := by rw [← hw8]; exact hfo
            have hW8 := row_still hst hW
            have hH8 := row_still hst hH
            have hb8 := hbl.trans (hst.below w.heap.size)
            have ho8 := hon.trans (Only.of_below (hst.below wr.heap.size))
            have w7' := W7.out
            have w16' := W16.out
            have u1 : ∀ x y : Int, IntKind.u32.wrap (x + y) = addI x y := fun x y => by rw [IntKind.wrap_u32]; rfl
            clear hw8
            go_still_tail 15, (by kernel_rfl)
            change wpList _ _ _ _ _ w8.drew
            clear u1 w7' w16'
            have HV2 : Hid (addI (addI (addI (bits .xor .u32 (bits .xor .u32 (rotI e2 17) (rotI e2 19)) (e2 / 1024)) e7) (bits .xor .u32 (bits .xor .u32 (rotI e15 7) (rotI e15 18)) (e15 / 8))) e16 = (Sum.W ((msg.drop a).take 64)).getD t 0) := Lib.hid (by rw [HV.out]; rfl)
            go_wp2_with fail
            rw [HV2.out]
            have o9 : Only (fun b => b = p4 ∨ w6.heap.size ≤ b) w6 (w8.setCell ⟨p7, t, none⟩ (.int .u32 ((Sum.W ((msg.drop a).take 64)).getD t 0))) := ho8.trans (Only.of_grown (grown_setCell _ _ _ _) (fun r e => by cases e; exact .inr hs7))
            have q9 := hH8.other (p := ⟨p7, t, none⟩) (by simp; omega) (.int .u32 ((Sum.W ((msg.drop a).take 64)).getD t 0))
            have r9 := hW8.set t (wf_u32 (r32_W hbb t))
            rw [← HST.out] at r9
            have b9 := hb8.setCell (p := ⟨p7, t, none⟩) (by simp; omega) (.int .u32 ((Sum.W ((msg.drop a).take 64)).getD t 0))
            go_roundw
            case rel => exact ⟨t + 1, by omega, by go_num, ⟨o9.1, o9.2⟩, q9, r9, b9.drew⟩
            case measure => simp [intOf]; omega
        · have ht64 : t = 64 := by omega
          subst ht64
          rw [wPart_end] at hW
          have e8 := eight_blocks msg j
          have HE := Lib.hid e8.1
          have hbb : Bs ((msg.drop a).take 64) := fun z hz => hmb z (List.mem_of_mem_drop (List.mem_of_mem_take hz))
          have n14 := Row.new (zs := List.replicate 8 0) (k := .u32) wr 151 (fun z hz => by rw [List.eq_of_mem_replicate hz]; rfl)
          have m14 := n14.setRow (eight_wf e8)
          have hz := hW.lt
          have hzp := hH.lt
          have mW := (hW.alloc (.cells (arr .u32 (List.replicate 8 0)) 151)).setRow_other (g' := wr.heap.size) (by omega) (arr .u32 (blocksI msg j))
          have mH := (hH.alloc (.cells (arr .u32 (List.replicate 8 0)) 151)).setRow_other (g' := wr.heap.size) (by omega) (arr .u32 (blocksI msg j))
          have bz : Below wr.heap.size wr ((wr.alloc (.cells (arr .u32 (List.replicate 8 0)) 151)).setRow wr.heap.size (arr .u32 (blocksI msg j))) := ((Below.refl _ wr).alloc (Nat.le_refl _) _).grown (grown_setRow _ _ _) (by simp) (fun r e => by cases e; exact Nat.le_refl _)
          have mo := hon.trans (Only.of_below bz)
          have mb := hbl.trans (bz.mono hbl.size)
          obtain ⟨w9, hw9⟩ : ∃ w9, (wr.alloc (.cells (arr .u32 (List.replicate 8 0)) 151)).setRow wr.heap.size (arr .u32 (blocksI msg j)) = w9 := ⟨_, rfl⟩
          rw [hw9] at m14 mW mH mo mb
          go_wp2_with (first
            | (refine wpList_load_Row rfl 151 _ rfl p4 rfl 151 .u32 _ hH 8 57 Tryz.underlying151 info_8 HE.out ?_)
            | (refine wpList_store_Row rfl 151 _ _ rfl wr.heap.size rfl 151 .u32 _ _ rfl n14 8 info_8 HE.out rfl ?_; change wpList _ _ _ _ _ ((wr.alloc (.cells (arr .u32 (List.replicate 8 0)) 151)).setRow wr.heap.size (arr .u32 (blocksI msg j))); rw [hw9]))
          clear hH hW hon hbl n14 hw9 bz
          have hp14 : wr.heap.size ≠ p4 := by omega
          have hp14' : wr.heap.size ≠ p7 := by omega
          have hp146 : w6.heap.size ≤ wr.heap.size := by omega
          generalize wr.heap.size = p14 at m14 hp14 hp14' hp146 ⊢
          generalize hh0 : blocksI msg j = h0 at m14 mH e8 HE ⊢
          have HH0 := Lib.hid hh0
          clear hh0
          have eW : (Sum.W ((msg.drop a).take 64)).length = 64 := W_length _
          generalize hbk : (msg.drop a).take 64 = bk at mW hbb eW ⊢
          have HBK := Lib.hid hbk
          clear hbk
          go_loopw [15] (fun i wr => ∃ t : Nat, t ≤ 64 ∧ i = .int .i64 (t : Int) ∧ Only (fun b => b = p4 ∨ w6.heap.size ≤ b) w6 wr ∧ Row wr p4 151 .u32 h0 ∧ Row wr p7 149 .u32 (Sum.W bk) ∧ Row wr p14 151 .u32 (Sum.rounds (Sum.W bk) t h0) ∧ Below w.heap.size w wr) (fun i _ => 64 - (intOf i).toNat)
          case atStart => exact ⟨0, by omega, rfl, mo, mH, mW, m14, mb⟩
          case round =>
            clear mo mH mW m14 mb
            obtain ⟨t, ht, rfl, hon, hH, hW, hV, hbl⟩ := hrel
            by_cases hlt64 : t < 64
            · have hti : (t : Int) < 64 := by omega
              have ht0 : (0 : Int) ≤ (t : Int) := by omega
              have eR := Lib.hid (show Sum.rounds (Sum.W bk) (t + 1) h0 = Sum.round (Sum.K.getD t 0) ((Sum.W bk).getD t 0) (Sum.rounds (Sum.W bk) t h0) from rfl)
              have eV := e8.rounds (Sum.W bk) t
              obtain ⟨x0, x1, x2, x3, x4, x5, x6, x7, hx, y0, y1, y2, y3, y4, y5, y6, y7⟩ := eV.out
              rw [hx] at hV eR
              clear hx eV
              have c0 := hV.cell (i := 0) (by simp)
              have c1 := hV.cell (i := 1) (by simp)
              have c2 := hV.cell (i := 2) (by simp)
              have c3 := hV.cell (i := 3) (by simp)
              have c4 := hV.cell (i := 4) (by simp)
              have c5 := hV.cell (i := 5) (by simp)
              have c6 := hV.cell (i := 6) (by simp)
              have c7 := hV.cell (i := 7) (by simp)
              simp only [List.getD_eq_getElem?_getD, List.getElem?_cons_zero, List.getElem?_cons_succ, Option.getD_some] at c0 c1 c2 c3 c4 c5 c6 c7
              have cK := (hon.row hS3 K6).cell (i := t) (by rw [K_length]; exact hlt64)
              have cW := hW.cell (i := t) (by rw [eW]; exact hlt64)
              generalize Sum.K.getD t 0 = kk at cK eR
              generalize (Sum.W bk).getD t 0 = ww at cW eR
              go_wp2_with fail
              go_quiet ((go_at_call 117; exact quiet_same (rturn_i x4 _ _ y4 (by omega) (by omega))))
              have hnot : (if IntKind.u32.signed = true then (-1 : Int) else IntKind.u32.max) = 4294967295 := rfl
              go_upto_region 24 with fail
              clear hnot
              go_quiet (fail)
              generalize hw8 : (wr.drewN _).drewN _ = w8
              have hst : Still wr w8 := by rw [← hw8]; exact ((Still.refl _).drewN _).drewN _
              clear hw8
              have d0 := (hst.cell _).trans c0
              have d1 := (hst.cell _).trans c1
              have d2 := (hst.cell _).trans c2
              have d3 := (hst.cell _).trans c3
              have d4 := (hst.cell _).trans c4
              have d5 := (hst.cell _).trans c5
              have d6 := (hst.cell _).trans c6
              have HV := row_still hst hV
              clear c0 c1 c2 c3 c4 c5 c6 c7 cK cW
              go_upto_region 25 with fail
              go_quiet ((go_at_call 117; exact quiet_same (rturn_i x0 _ _ y0 (by omega) (by omega))))
              generalize hw9 : w8.drewN _ = w9'
              have hst2 : Still w8 w9' := by rw [← hw9]; exact (Still.refl _).drewN _
              clear hw9 d0 d1 d2 d3 d4 d5 d6
              have HV9 := row_still hst2 HV
              have f0 := HV9.cell (i := 0) (by simp)
              have f1 := HV9.cell (i := 1) (by simp)
              have f2 := HV9.cell (i := 2) (by simp)
              have f3 := HV9.cell (i := 3) (by simp)
              have f4 := HV9.cell (i := 4) (by simp)
              have f5 := HV9.cell (i := 5) (by simp)
              have f6 := HV9.cell (i := 6) (by simp)
              simp only [List.getD_eq_getElem?_getD, List.getElem?_cons_zero, List.getElem?_cons_succ, Option.getD_some] at f0 f1 f2 f3 f4 f5 f6
              have st9 := hst.trans hst2
              go_wp2_with (refine wpList_store_Row rfl 151 _ _ rfl p14 rfl 151 .u32 _ [_, _, _, _, _, _, _, _] rfl HV9 8 info_8 rfl rfl ?_)
              rw [round_ref y4 y5 y6, ← eR.out]
              have e10 := e8.rounds (Sum.W bk) (t + 1)
              have r10 := HV9.setRow (eight_wf e10)
              have q10 := (row_still st9 hH).setRow_other (g' := p14) hp14 (arr .u32 (Sum.rounds (Sum.W bk) (t + 1) h0))
              have p10 := (row_still st9 hW).setRow_other (g' := p14) hp14' (arr .u32 (Sum.rounds (Sum.W bk) (t + 1) h0))
              have o10 := (hon.trans (Only.of_below (st9.below wr.heap.size))).trans (Only.of_grown (grown_setRow w9' p14 (arr .u32 (Sum.rounds (Sum.W bk) (t + 1) h0))) (fun r e => by cases e; exact .inr hp146))
              have b10 := (hbl.trans (st9.below w.heap.size)).grown (grown_setRow w9' p14 (arr .u32 (Sum.rounds (Sum.W bk) (t + 1) h0))) (by rw [st9.size]; exact hbl.size) (fun r e => by cases e; omega)
              go_roundw
              case rel => exact ⟨t + 1, by omega, by go_num, o10, q10, p10, r10, b10⟩
              case measure => simp [intOf]; omega
            · have ht64 : t = 64 := by omega
              rw [ht64] at hV
              have hti : ¬ (t : Int) < 64 := by omega
              have e64 := e8.rounds (Sum.W bk) 64
              have HB9 := Lib.hid (show sumUp h0 (Sum.rounds (Sum.W bk) 64 h0) = Sum.block h0 bk from rfl)
              generalize Sum.rounds (Sum.W bk) 64 h0 = vv at hV e64 HB9
              rw [← sumPart_start vv HE.out] at hH
              go_upto_region 29 with fail
              go_loopw [21] (fun i wr => ∃ q : Nat, q ≤ 8 ∧ i = .int .i64 (q : Int) ∧ Only (fun b => b = p4 ∨ w6.heap.size ≤ b) w6 wr ∧ Row wr p4 151 .u32 (sumPart h0 vv q) ∧ Row wr p14 151 .u32 vv ∧ Below w.heap.size w wr) (fun i _ => 8 - (intOf i).toNat)
              case atStart => exact ⟨0, by omega, rfl, hon, hH, hV, hbl⟩
              case round =>
                clear hon hH hV hbl hW
                obtain ⟨q, hq, rfl, hon, hH, hV, hbl⟩ := hrel
                by_cases hlt8 : q < 8
                · have hqi : (q : Int) < 8 := by omega
                  have hq0 : (0 : Int) ≤ (q : Int) := by omega
                  have c1 := hH.cell (i := q) (by rw [sumPart_length]; exact hlt8)
                  rw [sumPart_get _ _ hlt8, if_neg (by omega)] at c1
                  have c2 := hV.cell (i := q) (by rw [e64.1]; exact hlt8)
                  have f1 := hH.frozen q
                  have HST := Lib.hid (sumPart_step h0 vv hlt8)
                  have u1 : ∀ x y : Int, IntKind.u32.wrap (x + y) = addI x y := fun x y => by rw [IntKind.wrap_u32]; rfl
                  generalize h0.getD q 0 = z1 at c1 HST
                  generalize vv.getD q 0 = z2 at c2 HST
                  go_upto_region 31 with fail
                  go_still_tail 9, (by kernel_rfl)
                  change wpList _ _ _ _ _ wr.drew
                  clear u1
                  have o9 := hon.trans (Only.of_grown (grown_setCell wr p4 q (.int .u32 (addI z1 z2))) (fun r e => by cases e; exact .inl rfl))
                  have r9 := hH.set q (wf_u32 (r32_add z1 z2))
                  rw [← HST.out] at r9
                  have q9 := hV.other (p := ⟨p4, q, none⟩) (by simp; omega) (.int .u32 (addI z1 z2))
                  have b9 := hbl.setCell (p := ⟨p4, q, none⟩) (by simp; omega) (.int .u32 (addI z1 z2))
                  go_wp2_with fail
                  go_roundw
                  case rel => exact ⟨q + 1, by omega, by go_num, ⟨o9.1, o9.2⟩, r9, q9, b9.drew⟩
                  case measure => simp [intOf]; omega
                · have hq8 : q = 8 := by omega
                  subst hq8
                  rw [sumPart_end, HB9.out, ← HH0.out, ← HBK.out] at hH
                  have e9 : Sum.block (blocksI msg j) ((msg.drop a).take 64) = blocksI msg (j + 1) := by rw [blocksI, HA.out]
                  rw [e9] at hH
                  have ea : (a : Int) + 64 = ((64 * (j + 1) : Nat) : Int) := by have := HA.out; omega
                  have EA := Lib.hid ea
                  clear ea e9
                  go_wp2_with fail
                  rw [EA.out]
                  go_roundw
                  case rel => exact ⟨j + 1, by have := HA.out; omega, rfl, hon, hH, hbl⟩
                  case measure => have := HA.out; simp [intOf]; omega
    · have hjL : 64 * j = L := by omega
      have hjn : j = L / 64 := by omega
      rw [hjn] at hH
      rw [HLM.out] at HS
      have e8 := eight_blocks msg (L / 64)
      generalize blocksI msg (L / 64) = hh at hH HS e8
      have H8 := Lib.hid e8.1
      have R9 := hon.row hS0 R6
      clear hjn
      have hji : ¬ ((64 * j : Nat) : Int) < (L : Int) := by omega
      go_upto_region 34 with fail
      have n22 := Row.new (zs := List.replicate 32 0) (k := .u8) wr 22 (fun z hz => by rw [List.eq_of_mem_replicate hz]; rfl)
      rw [← outK_start hh] at n22
      have H22 := hH.alloc (.cells (arr .u8 (List.replicate 32 0)) 22)
      have R22 := R9.alloc (.cells (arr .u8 (List.replicate 32 0)) 22)
      have b22 := hbl.alloc hbl.size (.cells (arr .u8 (List.replicate 32 0)) 22)
      have hz22 := hH.lt
      have hz23 := hbl.size
      have hz24 := R9.lt
      clear hH R9 hbl hon
      generalize wr.heap.size = p22 at n22 hz22 hz23 hz24 ⊢
      go_loopw [23] (fun i wr => ∃ k : Nat, k ≤ 32 ∧ i = .int .i64 (k : Int) ∧ Row wr p22 22 .u8 (outK hh k) ∧ Row wr p4 151 .u32 hh ∧ Row wr w.heap.size 22 .u8 (List.replicate 32 0) ∧ Below w.heap.size w wr) (fun i _ => 32 - (intOf i).toNat)
      case atStart => exact ⟨0, by omega, rfl, n22, H22, R22, b22⟩
      case round =>
        clear n22 H22 R22 b22
        obtain ⟨k, hk, rfl, hO, hH, hR, hbl⟩ := hrel
        by_cases hlt32 : k < 32
        · have hki : (k : Int) < 32 := by omega
          have hk0 : (0 : Int) ≤ (k : Int) := by omega
          have c1 := hH.cell (i := k / 4) (by rw [H8.out]; omega)
          have y1 : R32 (hh.getD (k / 4) 0) := by
            rw [List.getD_eq_getElem?_getD, List.getElem?_eq_getElem (by rw [H8.out]; omega)]
            exact e8.2 _ (List.getElem_mem _)
          obtain ⟨old, hco⟩ : ∃ old, wr.cell? ⟨p22, k, none⟩ = some old := ⟨_, hO.cell (by rw [outK_length]; exact hlt32)⟩
          have hfo := hO.frozen k
          have HST := Lib.hid (outK_step hh hlt32)
          generalize hh.getD (k / 4) 0 = x at c1 y1 HST
          have j1 := y1.1
          have j2 := y1.2
          obtain ⟨sh, hsh⟩ : ∃ sh, 24 - 8 * (k % 4) = sh := ⟨_, rfl⟩
          rw [hsh] at HST
          have he : (24 : Int) - 8 * ((k : Int) % 4) = (sh : Int) := by omega
          have hs24 : (sh : Int) ≤ 24 := by omega
          have hs0 : (0 : Int) ≤ (sh : Int) := by omega
          clear hsh
          have r9 := hO.set k (z := x / 2 ^ sh % 256) (by simp [Lit.wf, IntKind.min, IntKind.max, IntKind.signed, IntKind.bits]; omega)
          rw [← HST.out] at r9
          have q9 := hH.other (p := ⟨p22, k, none⟩) (by simp; omega) (.int .u8 (x / 2 ^ sh % 256))
          have s9 := hR.other (p := ⟨p22, k, none⟩) (by simp; omega) (.int .u8 (x / 2 ^ sh % 256))
          have b9 := hbl.setCell (p := ⟨p22, k, none⟩) (by simp; omega) (.int .u8 (x / 2 ^ sh % 256))
          go_wp2_with fail
          go_roundw
          case rel => exact ⟨k + 1, by omega, by go_num, r9, q9, s9, b9⟩
          case measure => simp [intOf]; omega
        · have hk32 : k = 32 := by omega
          subst hk32
          rw [outK_end] at hO
          have HO := Lib.hid (out_length hh)
          go_wp2_with (first
            | (refine wpList_load_Row rfl 22 _ rfl p22 rfl 22 .u8 _ hO 32 5 Tryz.underlying22 info_32 HO.out ?_)
            | (refine wpList_store_Row rfl 22 _ _ rfl w.heap.size rfl 22 .u8 _ _ rfl hR 32 info_32 HO.out rfl ?_))
          have r9 := hR.setRow hO.1
          refine bodyPost_ret (v := .agg (arr .u8 (outB hh))) (results_Row rfl _ _ w.heap.size _ _ _ rfl r9 32 5 Tryz.underlying22 info_32 HO.out) rfl ?_
          exact ⟨by rw [HS.out], hbl.grown (grown_setRow _ _ _) hbl.size (fun r e => by cases e; exact Nat.le_refl _)⟩
end Go.Proofs.YtjelacblnjbfgaaGreatDoor.Sha
