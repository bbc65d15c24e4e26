/-
  The iterator over a message's blocks of package sha, by its contract: it hands out just the blocks, one by one. Conditions: at most 2^30 parts, of at most 2^40 bytes together.
-/
import Derived.Test.YtbfdhbobokfbhaaDoorSha6
import Derived.Test.YtbfdhbobokfbhaaDoorIn
namespace Go.Proofs.YtbfdhbobokfbhaaDoor.Sha
open Go.RowKit Go.Shelf Go.Proofs.YtbfdhbobokfbhaaDoor.Mem Go.Proofs.YtbfdhbobokfbhaaDoor.Help Go.Proofs.YtbfdhbobokfbhaaDoor.Sum Go.Proofs.YtbfdhbobokfbhaaDoor.Range
set_option linter.unusedVariables false
attribute [local go_sem] Oper.semAt_some

/-- the whole blocks of a message -/
def chunks (m : List Int) : List (List Int) := (List.range (m.length / 64)).map fun i => (m.drop (64 * i)).take 64
theorem chunks_length (m : List Int) : (chunks m).length = m.length / 64 := by simp [chunks]
theorem chunks_take (m : List Int) {j : Nat} (h : 64 * (j + 1) ≤ m.length) : (chunks m).take j ++ [(m.drop (64 * j)).take 64] = (chunks m).take (j + 1) := by
  have hj : j < (chunks m).length := by rw [chunks_length]; omega
  rw [List.take_succ_eq_append_getElem hj]
  simp [chunks]
theorem chunks_mem {m x : List Int} (h : x ∈ chunks m) : x.length = 64 ∧ ∀ z ∈ x, z ∈ m := by
  simp only [chunks, List.mem_map, List.mem_range] at h
  obtain ⟨i, hi, rfl⟩ := h
  exact ⟨by rw [List.length_take, List.length_drop]; omega, fun z hz => List.mem_of_mem_drop (List.mem_of_mem_take hz)⟩

/-- the block as it is when p bytes have come -/
def Blk (m : List Int) (p : Nat) (cur : List Int) : Prop := cur.length = 64 ∧ cur.take (p % 64) = (m.drop (64 * (p / 64))).take (p % 64)
theorem Blk.step {m cur : List Int} {p n k : Nat} (h : Blk m p cur) (hk : k = min n (64 - p % 64)) (hn : p + n ≤ m.length) (h0 : 0 < n) :
    (cur.take (p % 64) ++ (((m.drop p).take n).take k ++ cur.drop (p % 64 + k))).length = 64 ∧ ((p + k) % 64 ≠ 0 → Blk m (p + k) (cur.take (p % 64) ++ (((m.drop p).take n).take k ++ cur.drop (p % 64 + k)))) ∧
      ((p + k) % 64 = 0 → cur.take (p % 64) ++ (((m.drop p).take n).take k ++ cur.drop (p % 64 + k)) = (m.drop (64 * (p / 64))).take 64) := by
  obtain ⟨hl, ht⟩ := h
  have hp : p % 64 < 64 := Nat.mod_lt _ (by omega)
  have hc : (cur.take (p % 64)).length = p % 64 := by simp; omega
  have hd : (((m.drop p).take n).take k).length = k := by simp; omega
  have e1 : cur.take (p % 64) ++ ((m.drop p).take n).take k = (m.drop (64 * (p / 64))).take (p % 64 + k) := by
    rw [ht, List.take_take, Nat.min_eq_left (by omega), List.take_add, List.drop_drop]
    congr 3
    omega
  have hlen : (cur.take (p % 64) ++ (((m.drop p).take n).take k ++ cur.drop (p % 64 + k))).length = 64 := by
    rw [List.length_append, List.length_append, hc, hd, List.length_drop]; omega
  refine ⟨hlen, fun hne => ⟨hlen, ?_⟩, fun he => ?_⟩
  · have hlt : p % 64 + k < 64 := by omega
    have e2 : (p + k) % 64 = p % 64 + k := by omega
    have e3 : (p + k) / 64 = p / 64 := by omega
    rw [e2, e3, ← e1, ← List.append_assoc, List.take_left' (by rw [List.length_append, hc, hd])]
  · have hk64 : p % 64 + k = 64 := by omega
    have ed : cur.drop 64 = [] := List.drop_of_length_le (by omega)
    rw [hk64, ed, List.append_nil, e1, hk64]
theorem Blk.next {m cur : List Int} {p : Nat} (hl : cur.length = 64) (h : p % 64 = 0) : Blk m p cur := ⟨hl, by rw [h]; simp⟩

theorem flat_get : ∀ (yss : List (List Int)) (k : Nat), k < yss.length → yss.getD k [] = (yss.flatten.drop (yss.take k).flatten.length).take (yss.getD k []).length
  | [], k, h => by simp at h
  | ys :: yss, 0, _ => by simp
  | ys :: yss, k + 1, h => by
    have := flat_get yss k (by simpa using h)
    simp only [List.getD_cons_succ, List.take_succ_cons, List.flatten_cons, List.length_append] at this ⊢
    rw [List.drop_append, List.drop_of_length_le (by omega), List.nil_append]
    have e : ys.length + (yss.take k).flatten.length - ys.length = (yss.take k).flatten.length := by omega
    rw [e]
    exact this
def lenV : Value → Nat
  | .slice _ n _ => n
  | _ => 0

theorem blocks_any (A : Option Addr) (m c : Nat) (w : World) :
    Calls Tryd.prog 32 #[.slice A m c] w fun e w' => e = .returned (.func (.func 36) #[] #[.pointer (some ⟨w.heap.size, 0, none⟩)]) ∧ w' = w.alloc (.cells #[.slice A m c] 43) := by
  go_enter Tryd.func32, Tryd.ntmps32
  go_wp2
  go_ret
  exact ⟨rfl, rfl⟩

set_option maxRecDepth 100000 in
set_option maxHeartbeats 2000000 in
theorem iter_far (n st bx B : Nat) (A : Option Addr) (m c : Nat) (vs : List Value) (xss : List (List Int)) (w : World) (hbx : w.cell? ⟨bx, 0, none⟩ = some (.slice A m c)) (h : Vals w B A m vs) (ht : Texts w B vs xss)
    (hB : B ≤ st) (hst : st < w.heap.size) (hm : m ≤ 1073741824) (hn : xss.flatten.length ≤ 1099511627776) :
    SeqFar Fence.wide n Tryd.prog 36 #[.pointer (some ⟨bx, 0, none⟩)] (fun bs => #[.agg (arr .u8 bs)]) (Only (· = st)) (chunks (xss.flatten ++ padI xss.flatten.length)) w := by
  intro l J W hW hJ hY h0
  have hbx' := (hW.cell (p := ⟨bx, 0, none⟩) (World.block_lt_of_cell? w _ hbx)).trans hbx
  have hs := hW.size
  have h1 := (h.below (hW.mono (by omega))).alloc (by omega) (.cells (arr .u8 (List.replicate 64 0)) 44)
  have ht1 := (ht.below (hW.mono (by omega)) : Texts W B vs xss).keep (w' := W.alloc (.cells (arr .u8 (List.replicate 64 0)) 44)) (fun p hp => World.cell?_alloc_lt W _ p (by omega))
  have hbx1 : ∀ o, (W.alloc o).cell? ⟨bx, 0, none⟩ = some (.slice A m c) := fun o => (World.cell?_alloc_lt W o _ (World.block_lt_of_cell? W _ hbx')).trans hbx'
  refine callsIn_of_wp Tryd.func36 rfl trivial ?_ rfl
  simp only [Tryd.ntmps36, List.size_toArray, List.length_cons, List.length_nil, Nat.reduceAdd, Nat.reduceSub, Array.replicate_succ, Array.replicate_zero, List.push_toArray, List.append_toArray, List.nil_append, List.cons_append]
  gi_wp2_with fail
  refine ⟨trivial, fun h => (by cases h), ?_⟩
  refine (callsIn_wide.2 (padded_any B A m c vs xss _ h1 ht1 (by simp; omega) hm hn)).mono ?_
  rintro e w2 ⟨v2, rfl, hown, hpad, hb2⟩
  have nb : Row (W.alloc (.cells (arr .u8 (List.replicate 64 0)) 44)) W.heap.size 44 .u8 (List.replicate 64 0) := Row.new W _ (fun z hz => by rw [List.eq_of_mem_replicate hz]; rfl)
  have rb := nb.below hb2 (by simp)
  have hs2 := hb2.size
  have hw2 : Below W.heap.size W w2 := ((Below.refl _ W).alloc (Nat.le_refl _) _).trans (hb2.mono (by simp))
  have hJ2 := hJ [] W w2 none h0 (grown_of_below hw2 none) (fun r e => by cases e)
  rw [World.size_alloc] at hown hpad hs2
  have htn : Texts w2 B vs xss := (ht.below (hW.mono (by omega)) : Texts W B vs xss).below (hw2.mono (by omega))
  obtain ⟨g, cap, rfl, hg1, hg2, hvals⟩ : ∃ g cap, v2 = .slice (some ⟨g, 0, none⟩) (m + 1) cap ∧ W.heap.size + 1 ≤ g ∧ g < w2.heap.size ∧ Vals w2 w2.heap.size (some ⟨g, 0, none⟩) (m + 1) (vs ++ [.slice (some ⟨W.heap.size + 1, 0, none⟩) (padI xss.flatten.length).length (padI xss.flatten.length).length]) := by
    rcases hown.2 with ⟨_, h0⟩ | ⟨g, cap, cur, e, hge, hgg, hnc, hcm, hcs, htk⟩
    · omega
    · subst e
      refine ⟨g, cap, rfl, hge, (Array.getElem?_eq_some_iff.1 hgg).1, ownsRow_vals hown (fun v hv => ?_)⟩
      rcases List.mem_append.1 hv with hv | hv
      · exact htn.one_cell v hv
      · have : v = _ := List.mem_singleton.1 hv
        rw [this]; rfl
  -- every text, of the parts and of the pad, lies apart from the caller's cell and from the block
  have hS : ∀ b, b < B → ¬ (b = st ∨ b = W.heap.size) := fun b hb e => by omega
  have hall : ∀ k, k ≤ m → ∃ A' n' c', w2.cell? ⟨g, k, none⟩ = some (.slice A' n' c') ∧ n' ≤ c' ∧ c' ≤ maxLen ∧ IntsN w2 .u8 (fun b => b = st ∨ b = W.heap.size) A' n' ((xss ++ [padI xss.flatten.length]).getD k []) := by
    intro k hk
    obtain ⟨b, off, e, _, hc⟩ := hvals.at_ (i := k) (by omega)
    injection e with e
    injection e with e1 e2
    subst e1
    subst e2
    rw [Nat.zero_add] at hc
    by_cases hkm : k < m
    · obtain ⟨A', n', c', e3, h3, h4, h5⟩ := htn.2 k (by rw [h.1]; exact hkm)
      have hkv : k < vs.length := by rw [h.1]; exact hkm
      have hkx : k < xss.length := by rw [← ht.1]; exact hkv
      refine ⟨A', n', c', ?_, h3, h4, ?_⟩
      · rw [hc, ← e3]
        simp [List.getD_eq_getElem?_getD, List.getElem?_append_left hkv]
      · have e4 : (xss ++ [padI xss.flatten.length]).getD k [] = xss.getD k [] := by simp [List.getD_eq_getElem?_getD, List.getElem?_append_left hkx]
        rw [e4]
        exact IntsN.of h5 hS
    · have : k = m := by omega
      subst this
      have hkv : vs.length = k := h.1
      have hkx : xss.length = k := by rw [← ht.1]; exact hkv
      refine ⟨some ⟨W.heap.size + 1, 0, none⟩, (padI xss.flatten.length).length, (padI xss.flatten.length).length, ?_, Nat.le_refl _, ?_, ?_⟩
      · rw [hc]; simp [List.getD_eq_getElem?_getD, hkv]
      · rw [pad_length]; unfold maxLen; omega
      · have e4 : (xss ++ [padI xss.flatten.length]).getD k [] = padI xss.flatten.length := by simp [List.getD_eq_getElem?_getD, hkx]
        rw [e4]
        exact IntsN.row hpad (by omega)
  have hgS : ¬ (g = st ∨ g = W.heap.size) := by omega
  have hbS : ¬ W.heap.size = st := by omega
  clear hvals hown hpad htn nb hb2 h1 ht1 hbx1 hbx' hbx
  -- the whole message, and how far the parts reach
  obtain ⟨yss, hyss⟩ : ∃ yss, xss ++ [padI xss.flatten.length] = yss := ⟨_, rfl⟩
  have hyl : yss.length = m + 1 := by rw [← hyss, List.length_append, ← ht.1, h.1]; rfl
  have hmsg : xss.flatten ++ padI xss.flatten.length = yss.flatten := by rw [← hyss, List.flatten_append]; simp
  have hwhole : yss.flatten.length % 64 = 0 := by rw [← hmsg, List.length_append]; exact pad_whole _
  have hbig : yss.flatten.length ≤ 1099511627776 + 128 := by rw [← hmsg, List.length_append, pad_length]; omega
  rw [hyss] at hall
  rw [hmsg] at hY
  have HM := Lib.hid hmsg
  clear hyss hmsg h ht hn
  have HW := Lib.hid hwhole
  have HY := Lib.hid hyl
  clear hwhole hyl
  have hm' : (m : Int) ≤ 1073741824 := by omega
  gi_wp2_with fail
  gi_loopw [4, 11] (fun f i wr => ∃ k p : Nat, k ≤ m + 1 ∧ i = .int .i64 k ∧ Hid (p = (yss.take k).flatten.length) ∧ f = .int .i64 ((p % 64 : Nat) : Int) ∧ J ((chunks yss.flatten).take (p / 64)) wr ∧ Only (fun b => b = st ∨ b = W.heap.size) w2 wr ∧
    ∃ cur, Row wr W.heap.size 44 .u8 cur ∧ Hid (Blk yss.flatten p cur)) (fun _ i _ => m + 1 - (intOf i).toNat)
  case atStart => exact ⟨0, 0, by omega, rfl, Lib.hid (by simp), rfl, by simpa using hJ2, Only.refl _ _, _, rb, Lib.hid ⟨by simp, by simp⟩⟩
  case round =>
    obtain ⟨k, p, hk, rfl, hp, rfl, hJp, hon, cur, hcur, hblk⟩ := hrel
    by_cases hlt : k < m + 1
    · obtain ⟨A1, n1, c1, hc1, hn1, hm1, hi1⟩ := hall k (by omega)
      have hc1' := hon.cell (p := ⟨g, k, none⟩) hgS hc1
      have hlt' : (k : Int) < (m : Int) + 1 := by omega
      have hk0 : (0 : Int) ≤ (k : Int) := by omega
      have hkl : k < yss.length := by rw [HY.out]; exact hlt
      have hq : p + n1 = (yss.take (k + 1)).flatten.length := by rw [flat_take yss hkl, hi1.1, ← hp.out]
      have hqm := flat_le yss (k + 1)
      have htx := flat_get yss k hkl
      rw [hi1.1, ← hp.out] at htx
      rw [htx] at hi1
      obtain ⟨q, hq2⟩ : ∃ q, (yss.take (k + 1)).flatten.length = q := ⟨_, rfl⟩
      have HQ2 := Lib.hid hq2.symm
      rw [hq2] at hq hqm
      clear hq2
      have HQ := Lib.hid hq
      clear hq htx hp hc1 hall
      gi_wp2_with fail
      gi_loopw [4, 6] (fun f a wr => ∃ p n' : Nat, ∃ A' c', f = .int .i64 ((p % 64 : Nat) : Int) ∧ a = .slice A' n' c' ∧ n' ≤ c' ∧ c' ≤ maxLen ∧ Hid (p + n' = q) ∧ IntsN w2 .u8 (fun b => b = st ∨ b = W.heap.size) A' n' ((yss.flatten.drop p).take n') ∧
        J ((chunks yss.flatten).take (p / 64)) wr ∧ Only (fun b => b = st ∨ b = W.heap.size) w2 wr ∧ ∃ cur, Row wr W.heap.size 44 .u8 cur ∧ Hid (Blk yss.flatten p cur)) (fun _ a _ => lenV a)
      case atStart => exact ⟨p, n1, A1, c1, rfl, rfl, hn1, hm1, HQ, hi1, hJp, hon, cur, hcur, hblk⟩
      case round =>
        clear hi1 hJp hon hcur hblk hn1 hm1 HQ
        obtain ⟨p, n', A', c', rfl, rfl, hn1, hm1, hq, hi1, hJp, hon, cur, hcur, hblk⟩ := hrel
        by_cases hpos : 0 < n'
        · obtain ⟨b, off, rfl, hbN, hcc⟩ := hi1.2.2 hpos
          have hcw : ∀ i, i < n' → wr.cell? ⟨b, off + i, none⟩ = some (.int .u8 (((yss.flatten.drop p).take n').getD i 0)) := fun i hi => hon.cell (p := ⟨b, off + i, none⟩) hbN (hcc i hi)
          obtain ⟨mm, hmm⟩ : ∃ mm, min n' (64 - p % 64) = mm := ⟨_, rfl⟩
          have hstep := hblk.out.step (n := n') hmm.symm (by have := hq.out; omega) hpos
          have HST := Lib.hid hstep
          have hcl := hblk.out.1
          have hxl := hi1.1
          have HCL := Lib.hid hcl
          have HXL := Lib.hid hxl
          have hf64 : p % 64 < 64 := Nat.mod_lt _ (by omega)
          have hmm1 : 0 < mm := by omega
          have hmm2 : mm ≤ n' := by omega
          have hmm3 : mm ≤ 64 - p % 64 := by omega
          have HMM := Lib.hid hmm
          clear hstep hcl hxl hmm hcc
          obtain ⟨f, hf⟩ : ∃ f, p % 64 = f := ⟨_, rfl⟩
          have hcur' := hcur
          obtain ⟨new, hnew⟩ : ∃ new, cur.take f ++ (((yss.flatten.drop p).take n').take mm ++ cur.drop (f + mm)) = new := ⟨_, rfl⟩
          have r3 : Row (wr.setRow W.heap.size (arr .u8 new)) W.heap.size 44 .u8 new := hcur.setRow (fun z hz => by
            rw [← hnew] at hz
            rcases List.mem_append.1 hz with hz | hz
            · exact hcur.1 z (List.mem_of_mem_take hz)
            · rcases List.mem_append.1 hz with hz | hz
              · exact hi1.2.1 z (List.mem_of_mem_take hz)
              · exact hcur.1 z (List.mem_of_mem_drop hz))
          have o3 : Only (fun b => b = st ∨ b = W.heap.size) w2 (wr.setRow W.heap.size (arr .u8 new)) := hon.trans (Only.of_grown (grown_setRow _ _ _) (fun r e => by cases e; exact .inr rfl))
          have J3 := hJ _ _ _ _ hJp (grown_setRow wr W.heap.size (arr .u8 new)) (fun r e => by cases e; exact Nat.le_refl _)
          rw [hf, hnew] at HST
          rw [hf] at HMM hf64 hmm3 ⊢
          have hfi : (f : Int) < 64 := by omega
          have hmi : (mm : Int) ≤ 64 - (f : Int) := by omega
          have hmi0 : (0 : Int) < (mm : Int) := by omega
          have hfi0 : (0 : Int) ≤ (f : Int) := by omega
          have hmi2 : (mm : Int) ≤ (n' : Int) := by omega
          have hsl := fun W' => run_slice_arr_l (P := Tryd.prog) 44 5 64 W.heap.size f W' Tryd.underlying44 (by kernel_rfl) hf64
          have hcutN := hi1.cut hmm2 hn1
          rw [List.drop_take, List.drop_drop] at hcutN
          have HQ' := Lib.hid (show p + mm + (n' - mm) = q by have := hq.out; omega)
          by_cases hz : (p + mm) % 64 = 0
          · have hx := HST.out.2.2 hz
            have e64 : p + mm = 64 * (p / 64 + 1) := by omega
            have htk := chunks_take yss.flatten (j := p / 64) (by have := hq.out; omega)
            obtain ⟨fn, tmps, assign, body, hy, hR⟩ := hY _ new _ J3 (by rw [hx, htk]; exact List.take_prefix _ _)
            have HTK := Lib.hid htk
            have HXX := Lib.hid hx
            have HZ := Lib.hid hz
            have HE := Lib.hid e64
            have hzi : ((f : Int) + (mm : Int)) % 64 = 0 := by omega
            have hz2 := Lib.hid hzi
            clear hx htk e64 hz hzi
            have hL : new.length = 64 := HST.out.1
            have HLn := Lib.hid hL
            clear hL
            have hzb : ((((f : Int) + (mm : Int)) % 64 == 0)) = true := by rw [hz2.out]; rfl
            by_cases hcm : c' = mm
            · rw [if_pos hcm] at hcutN
              subst hcm
              have HQ0 := Lib.hid (show p + c' + 0 = q by have := hq.out; omega)
              have hz0 : IntsN w2 .u8 (fun b => b = st ∨ b = W.heap.size) (some ⟨b, off, none⟩) 0 ((yss.flatten.drop (p + c')).take 0) := ⟨by simp, by simp, fun h => absurd h (by omega)⟩
              gi_wp2_with (first
                | (refine wpListIn_copy_Row rfl _ _ 22 22 rfl 5 Tryd.underlying22 (by kernel_rfl) W.heap.size f (64 - f) (64 - f) (some ⟨b, off, none⟩) n' c' rfl rfl 44 .u8 cur _ hcur (fun _ => ⟨b, off, rfl, hcw⟩) HXL.out c' HMM.out.symm hmm1 (by rw [HCL.out]; omega) ?_; rw [hnew])
                | (refine wpListIn_load_Row rfl 44 _ rfl W.heap.size rfl 44 .u8 new r3 64 5 Tryd.underlying44 info_64 HLn.out ?_))
              all_goals
                refine ⟨fun h => (by cases h), ?_⟩
                refine hR.mono ?_
                rintro e W4 ⟨rfl, J4, k4⟩
                have o4 := o3.trans (k4.mono (fun i e => .inl e))
                have r4 := k4.row hbS r3
                rw [HXX.out, HTK.out] at J4
                gi_wp2_with fail
                go_roundw
                case rel => exact ⟨p + c', 0, _, _, by rw [HZ.out, hz2.out]; rfl, rfl, by omega, by omega, HQ0, hz0, by rw [show (p + c') / 64 = p / 64 + 1 by have := HE.out; omega]; exact J4, o4, new, r4, Lib.hid (Blk.next HLn.out HZ.out)⟩
                case measure => simp [lenV]; omega
            · rw [if_neg hcm] at hcutN
              gi_wp2_with (first
                | (refine wpListIn_copy_Row rfl _ _ 22 22 rfl 5 Tryd.underlying22 (by kernel_rfl) W.heap.size f (64 - f) (64 - f) (some ⟨b, off, none⟩) n' c' rfl rfl 44 .u8 cur _ hcur (fun _ => ⟨b, off, rfl, hcw⟩) HXL.out mm HMM.out.symm hmm1 (by rw [HCL.out]; omega) ?_; rw [hnew])
                | (refine wpListIn_load_Row rfl 44 _ rfl W.heap.size rfl 44 .u8 new r3 64 5 Tryd.underlying44 info_64 HLn.out ?_))
              all_goals
                refine ⟨fun h => (by cases h), ?_⟩
                refine hR.mono ?_
                rintro e W4 ⟨rfl, J4, k4⟩
                have o4 := o3.trans (k4.mono (fun i e => .inl e))
                have r4 := k4.row hbS r3
                rw [HXX.out, HTK.out] at J4
                gi_wp2_with fail
                go_roundw
                case rel => exact ⟨p + mm, n' - mm, _, _, by rw [HZ.out, hz2.out]; rfl, rfl, by omega, by omega, HQ', hcutN, by rw [show (p + mm) / 64 = p / 64 + 1 by have := HE.out; omega]; exact J4, o4, new, r4, Lib.hid (Blk.next HLn.out HZ.out)⟩
                case measure => simp [lenV]; omega
          · have HB := Lib.hid (HST.out.2.1 hz)
            have hzi : ¬ ((f : Int) + (mm : Int)) % 64 = 0 := by omega
            have hzb : (((f : Int) + (mm : Int)) % 64 == 0) = false := by simpa using hzi
            have HD := Lib.hid (show (p + mm) / 64 = p / 64 by omega)
            have HE := Lib.hid (show ((f : Int) + (mm : Int)) % 64 = (((p + mm) % 64 : Nat) : Int) by omega)
            by_cases hcm : c' = mm
            · rw [if_pos hcm] at hcutN
              subst hcm
              have HQ0 := Lib.hid (show p + c' + 0 = q by have := hq.out; omega)
              have hz0 : IntsN w2 .u8 (fun b => b = st ∨ b = W.heap.size) (some ⟨b, off, none⟩) 0 ((yss.flatten.drop (p + c')).take 0) := ⟨by simp, by simp, fun h => absurd h (by omega)⟩
              gi_wp2_with (refine wpListIn_copy_Row rfl _ _ 22 22 rfl 5 Tryd.underlying22 (by kernel_rfl) W.heap.size f (64 - f) (64 - f) (some ⟨b, off, none⟩) n' c' rfl rfl 44 .u8 cur _ hcur (fun _ => ⟨b, off, rfl, hcw⟩) HXL.out c' HMM.out.symm hmm1 (by rw [HCL.out]; omega) ?_; rw [hnew])
              all_goals
                refine ⟨fun _ h => (by cases h), ?_⟩
                gi_wp2_with fail
                go_roundw
                case rel => exact ⟨p + c', 0, _, _, by rw [HE.out], rfl, by omega, by omega, HQ0, hz0, by rw [HD.out]; exact J3, o3, new, r3, HB⟩
                case measure => simp [lenV]; omega
            · rw [if_neg hcm] at hcutN
              gi_wp2_with (refine wpListIn_copy_Row rfl _ _ 22 22 rfl 5 Tryd.underlying22 (by kernel_rfl) W.heap.size f (64 - f) (64 - f) (some ⟨b, off, none⟩) n' c' rfl rfl 44 .u8 cur _ hcur (fun _ => ⟨b, off, rfl, hcw⟩) HXL.out mm HMM.out.symm hmm1 (by rw [HCL.out]; omega) ?_; rw [hnew])
              all_goals
                refine ⟨fun _ h => (by cases h), ?_⟩
                gi_wp2_with fail
                go_roundw
                case rel => exact ⟨p + mm, n' - mm, _, _, by rw [HE.out], rfl, by omega, by omega, HQ', hcutN, by rw [HD.out]; exact J3, o3, new, r3, HB⟩
                case measure => simp [lenV]; omega
        · have hn0 : n' = 0 := by omega
          subst hn0
          have hpq : Hid (p = q) := Lib.hid (by have := hq.out; omega)
          gi_wp2_with fail
          go_roundw
          case rel => exact ⟨k + 1, q, by omega, by go_num, HQ2, by rw [← hpq.out], by rw [← hpq.out]; exact hJp, hon, cur, hcur, by rw [← hpq.out]; exact hblk⟩
          case measure => simp [intOf]; omega
    · have hkm : k = m + 1 := by omega
      subst hkm
      have hpe : p = yss.flatten.length := by
        have := hp.out
        rw [List.take_of_length_le (by rw [HY.out]; omega)] at this
        exact this
      have hall2 : (chunks yss.flatten).take (p / 64) = chunks (xss.flatten ++ padI xss.flatten.length) := by
        rw [HM.out, List.take_of_length_le (by rw [chunks_length, hpe]; omega)]
      have HA := Lib.hid hall2
      clear hall2 hpe
      gi_wp2_with fail
      go_end0
      exact ⟨⟨_, rfl⟩, by rw [← HA.out]; exact hJp⟩
end Go.Proofs.YtbfdhbobokfbhaaDoor.Sha

