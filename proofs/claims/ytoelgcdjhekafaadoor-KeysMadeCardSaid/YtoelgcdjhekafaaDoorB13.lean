/-
  The iterator over numbers of package keys, by its contract: it hands out each number of its list, in order. Conditions: at most 2^30 numbers.
  Bytes of the call's own in a variable that is appended to, in a range over a function: what a step keeps of them. No conditions beyond those stated.
  The function laid of package keys by its contract: bytes, and behind them the eight bytes of each number. Conditions: at most 2^30 bytes and 2^20 numbers; the numbers lie apart from the bytes.
  A place's numbers, and a nonce, of package keys, by their contracts; what a place's fields are to a region. No conditions beyond those stated.
-/
import Derived.Test.YtoelgcdjhekafaaDoorB1
import Derived.Test.YtoelgcdjhekafaaDoorB9
import Derived.Test.YtoelgcdjhekafaaDoorB12
import Derived.Test.YtoelgcdjhekafaaDoorB11
import Derived.Test.YtoelgcdjhekafaaDoorB10
namespace Go.Proofs.YtoelgcdjhekafaaDoor.Ky
open Go.RowKit Go.Shelf Go.Proofs.YtoelgcdjhekafaaDoor.Mem Go.Proofs.YtoelgcdjhekafaaDoor.Help Go.Proofs.YtoelgcdjhekafaaDoor.Sum Go.Proofs.YtoelgcdjhekafaaDoor.Po Go.Proofs.YtoelgcdjhekafaaDoor.Range Go.Proofs.YtoelgcdjhekafaaDoor
set_option linter.unusedVariables false
attribute [local go_sem] Oper.semAt_some
attribute [local irreducible] wpList wpListIn

theorem order_any (A : Option Addr) (m c : Nat) (w : World) :
    Calls Tryd.prog 26 #[.slice A m c] w fun e w' => e = .returned (.func (.func 37) #[] #[.pointer (some ⟨w.heap.size, 0, none⟩)]) ∧ w' = w.alloc (.cells #[.slice A m c] 60) := by
  go_enter Tryd.func26, Tryd.ntmps26
  go_wp2
  go_ret
  exact ⟨rfl, rfl⟩

theorem order_prefix (zs : List Int) {k : Nat} (hk : k < zs.length) : zs.take k ++ [zs.getD k 0] = zs.take (k + 1) := by
  rw [List.take_succ_eq_append_getElem hk, List.getD_eq_getElem?_getD, List.getElem?_eq_getElem hk]
  rfl

/-- a number is handed out -/
def Num (x : Int) (B0 : Nat) (W : World) (args : Array Value) : Prop := args = #[.int .u64 x]
set_option maxRecDepth 100000 in
set_option maxHeartbeats 2000000 in
theorem order_give (n bx : Nat) (S : Nat → Prop) (A : Option Addr) (m c : Nat) (zs : List Int) (w : World) (hbx : w.cell? ⟨bx, 0, none⟩ = some (.slice A m c)) (hbS : ¬ S bx) (h : IntsN w .u64 S A m zs) (hm : m ≤ 1073741824) :
    SeqGive Fence.wide n Tryd.prog 37 #[.pointer (some ⟨bx, 0, none⟩)] Num (Only S) zs w := by
  intro l J W hW hJ hY h0
  have kbx := (hW.cell (p := ⟨bx, 0, none⟩) (World.block_lt_of_cell? w _ hbx)).trans hbx
  have kv := h.only (Only.of_below hW)
  have HL := Lib.hid h.1
  have hmi : (m : Int) ≤ 1073741824 := by omega
  clear hbx h
  refine callsIn_of_wp Tryd.func37 rfl trivial ?_ rfl
  simp only [Tryd.ntmps37, List.size_toArray, List.length_cons, List.length_nil, Nat.reduceAdd, Nat.reduceSub, Array.replicate_succ, Array.replicate_zero, List.push_toArray, List.append_toArray, List.nil_append, List.cons_append]
  gi_wp2_with fail
  gi_loopw [7] (fun i wr => ∃ k : Nat, k ≤ m ∧ i = .int .i64 k ∧ J (zs.take k) wr ∧ Only S W wr) (fun i _ => m - (intOf i).toNat)
  case atStart => exact ⟨0, by omega, rfl, by simpa using h0, Only.refl _ _⟩
  case round =>
    obtain ⟨k, hk, rfl, Jk, ok⟩ := hrel
    by_cases hlt : k < m
    · obtain ⟨b, off, rfl, hbS', hc⟩ := (kv.only ok).2.2 (by omega)
      have hck := hc k hlt
      have hkl : k < zs.length := by rw [HL.out]; exact hlt
      have HP := Lib.hid (order_prefix zs hkl)
      have hpre : zs.take k ++ [zs.getD k 0] <+: zs := by rw [HP.out]; exact List.take_prefix _ _
      generalize zs.getD k 0 = v at hck HP hpre
      obtain ⟨fn, tmps, assign, body, hy, hR⟩ := hY (zs.take k) v #[.int .u64 v] wr wr Jk (World.grownBy.refl _ _) rfl hpre
      have hlt' : (k : Int) < (m : Int) := by omega
      have hk0 : (0 : Int) ≤ (k : Int) := by omega
      clear hpre hc
      gi_wp2_with fail
      refine ⟨fun h => (by cases h), ?_⟩
      refine hR.mono ?_
      rintro e W4 ⟨rfl, J4, o4⟩
      rw [HP.out] at J4
      gi_wp2_with fail
      go_roundw
      case rel => exact ⟨k + 1, by omega, by go_num, J4, ok.trans o4⟩
      case measure => simp [intOf]; omega
    · have hkm : k = m := by omega
      subst hkm
      rw [List.take_of_length_le (by rw [HL.out]; omega)] at Jk
      gi_wp2_with fail
      go_end0
      exact ⟨⟨_, rfl⟩, Jk⟩
end Go.Proofs.YtoelgcdjhekafaaDoor.Ky
namespace Go.Proofs.YtoelgcdjhekafaaDoor.Ky
open Go.RowKit Go.Shelf Go.Proofs.YtoelgcdjhekafaaDoor.Mem Go.Proofs.YtoelgcdjhekafaaDoor.Help Go.Proofs.YtoelgcdjhekafaaDoor.Sum Go.Proofs.YtoelgcdjhekafaaDoor.Po Go.Proofs.YtoelgcdjhekafaaDoor.Range Go.Proofs.YtoelgcdjhekafaaDoor
set_option linter.unusedVariables false

theorem digits_snoc : ∀ (k : Nat) (x : Int), digits x (k + 1) = digits x k ++ [x / 2 ^ (8 * k) % 256]
  | 0, x => by simp [digits]
  | k + 1, x => by
    rw [digits, digits_snoc k (x / 256), digits, List.cons_append]
    congr 2
    rw [show (2 : Int) ^ (8 * (k + 1)) = 256 * 2 ^ (8 * k) by rw [show 8 * (k + 1) = 8 * k + 8 by omega, Int.pow_add]; omega, Int.ediv_ediv_of_nonneg (by omega)]
theorem eights_snoc (pre : List Int) (x : Int) : eights (pre ++ [x]) = eights pre ++ digits x 8 := by simp [eights]

/-- what a round may turn: the variable at lb, what lies behind it, and the elder room O -/
def Turns (lb : Nat) (O : Option Nat) (b : Nat) : Prop := lb ≤ b ∨ O = some b
/-- bytes zs, in a variable at lb that holds v -/
structure Buf (w : World) (B lb : Nat) (O : Option Nat) (v : Value) (zs : List Int) (W : World) : Prop where
  le : B ≤ lb
  cell : W.heap[lb]? = some (.cells #[v] 34 (0, 0))
  own : OwnM W B 5 .u8 v zs
  free : ∀ b, v.ownBlock = some b → b ≠ lb ∧ Turns lb O b
  below : Below B w W
section
variable {w W W' : World} {B lb : Nat} {O : Option Nat} {v : Value} {zs : List Int}
theorem Buf.low (h : Buf w B lb O v zs W) : lb < W.heap.size := (Array.getElem?_eq_some_iff.1 h.cell).1
/-- what is no cells may turn -/
theorem Buf.keep (h : Buf w B lb O v zs W) {row : Option Nat} (hg : W.grownBy W' row) (hr : ∀ r, row = some r → B ≤ r ∧ ∃ o : Obj, W.heap[r]? = some o ∧ o.isCells = false) : Buf w B lb O v zs W' :=
  ⟨h.le, Held.keep_cells h.cell hg (Held.ne_of_cells h.cell (fun r e => (hr r e).2)), h.own.kept hg (h.own.ne (fun r e => (hr r e).2)), h.free, h.below.grown hg (Nat.le_trans h.le (Nat.le_of_lt h.low)) (fun r e => (hr r e).1)⟩
theorem Buf.grow (h : Buf w B lb O v zs W) (hg : W.grownBy W' none) : Buf w B lb O v zs W' := h.keep hg (fun r e => by cases e)
/-- a list is made, appended, and kept -/
theorem Buf.step {wb wa ws : World} {v2 : Value} {zs2 : List Int} (h : Buf w B lb O v zs W) (gb : Below W.heap.size W wb) (ga : wb.grownBy wa v.ownBlock) (hn : v2.ownBlock = v.ownBlock ∨ v2.ownBlock = some wb.heap.size)
    (oa : OwnM wa B 5 .u8 v2 zs2) (ls : ws.heap[lb]? = some (.cells #[v2] 34 (0, 0))) (gs : wa.grownBy ws (some lb)) :
    Buf w B lb O v2 zs2 ws ∧ KeepsOthers W ws ∧ Only (Turns lb O) W ws := by
  have hl := h.low
  have g1 : W.grownBy wb none := grown_of_below gb none
  have hb := h.grow g1
  have hne : some lb ≠ v.ownBlock := fun e => (h.free lb e.symm).1 rfl
  have hla := Held.keep_cells hb.cell ga hne
  have free2 : ∀ b, v2.ownBlock = some b → b ≠ lb ∧ Turns lb O b := fun b e => by
    rcases hn with q | q
    · rw [q] at e; exact h.free b e
    · rw [q] at e
      injection e with e
      have := hb.low
      exact ⟨by omega, .inl (by omega)⟩
  have hBb : B ≤ wb.heap.size := Nat.le_trans hb.le (Nat.le_of_lt hb.low)
  refine ⟨⟨h.le, ls, oa.kept gs ?_, free2, ?_⟩, ?_, ?_⟩
  · cases hq : v2.ownBlock with
    | none => exact .inl rfl
    | some b => exact .inr fun e => by injection e with e; exact (free2 b hq).1 e
  · refine (hb.below.grown ga hBb (fun r e => ?_)).grown gs (Nat.le_trans hBb ga.size) (fun r e => by cases e; exact h.le)
    exact (hb.own.lt r e).1
  · refine ((Held.others_of_new g1).trans (KeepsOthers.of_grownBy ga (fun j o e ho => ?_))).trans (Held.others_of_grown hla gs)
    obtain ⟨cs, fz, hcs⟩ := hb.own.obj e
    rw [hcs] at ho
    cases ho
    rfl
  · exact ((Only.of_grown g1 (fun r e => by cases e)).trans (Only.of_grown ga (fun r e => (h.free r e).2))).trans (Only.of_grown gs (fun r e => by cases e; exact .inl (Nat.le_refl _)))
end
section
variable {P : Program} {ops : Array Oper} {Q : Exit → Act → World → Prop}
/-- one number appended onto what the call owns; whose block it lies in -/
theorem op_append_buf (i : Nat) (d : Option Tmp) {o : Oper} {a : Act} {w : World} {K : Act → World → Prop} {s x : Operand} (ts : TypeId) (hi : ops[i]? = some o) (hd : o.dst = d) (hw : Region.wanted o (yielded ops a.tmps) = true)
    (ho : o.op = .call { callee := .builtin .append, args := #[s, x], argTypes := #[ts, ts] }) (base : Nat) (e : TypeId) (k : IntKind) (bytes : Nat) (ht : P.underlying ts = some (.slice e))
    (hinfo : (P.info? e).map (fun i => (i.zero, i.size, i.bytes)) = some (some (.int k 0), 1, bytes)) (v : Value) (zs : List Int) (hs : a.eval s = v) (hown : OwnM w base e k v zs)
    (p c : Nat) (z : Int) (hx : a.eval x = .slice (some ⟨p, 0, none⟩) 1 c) (hr : w.cell? ⟨p, 0, none⟩ = some (.int k z)) (hwf : (Lit.int k z).wf = true) (hlen : zs.length + 1 ≤ 17592186044416) (hby : bytes ≤ 8) (hbase : base ≤ w.heap.size)
    (h : ∀ A' n' c' w', OwnM w' base e k (.slice A' n' c') (zs ++ [z]) → w.grownBy w' v.ownBlock → ((Value.slice A' n' c').ownBlock = v.ownBlock ∨ (Value.slice A' n' c').ownBlock = some w.heap.size) → n' ≤ c' → c' ≤ maxLen → Hid ((zs ++ [z]).length = n') → K (a.put d (.slice A' n' c')) w') : wpOp P ops Q i K a w := by
  subst hd
  refine Held.op_wp i hi hw ?_
  obtain ⟨v', w', hrun, h2, h3, h7⟩ := run_append_oneM (P := P) w base ts o.type e k bytes ht hinfo v zs hown p c z hr hwf hlen hby hbase
  obtain ⟨A', c', rfl, h4, h5, h6⟩ := h2.form
  exact Lib.wp_append_run w s x ts ts ho _ _ hs hx _ w' hrun (h _ _ _ w' h2 h3 h7 h4 h5 (Lib.hid rfl))
end
end Go.Proofs.YtoelgcdjhekafaaDoor.Ky
namespace Go.Proofs.YtoelgcdjhekafaaDoor.Ky
open Go.RowKit Go.Shelf Go.Proofs.YtoelgcdjhekafaaDoor.Mem Go.Proofs.YtoelgcdjhekafaaDoor.Help Go.Proofs.YtoelgcdjhekafaaDoor.Sum Go.Proofs.YtoelgcdjhekafaaDoor.Po Go.Proofs.YtoelgcdjhekafaaDoor.Range Go.Proofs.YtoelgcdjhekafaaDoor
set_option linter.unusedVariables false
attribute [local go_sem] Oper.semAt_some
attribute [local irreducible] wpList wpListIn Calls

theorem byte_range {x : Int} (k : Nat) : 0 ≤ x / 2 ^ (8 * k) % 256 ∧ x / 2 ^ (8 * k) % 256 ≤ 255 := by omega

set_option maxRecDepth 100000 in
set_option maxHeartbeats 4000000 in
theorem laid_any (B : Nat) (A0 : Option Addr) (n0 c0 : Nat) (zs : List Int) (bx : Nat) (A : Option Addr) (m c : Nat) (xs : List Int) (w : World) (ho : OwnM w B 5 .u8 (.slice A0 n0 c0) zs) (hB : B ≤ w.heap.size) (hn0 : zs.length ≤ 1073741824)
    (hbx : w.cell? ⟨bx, 0, none⟩ = some (.slice A m c)) (hbo : (Value.slice A0 n0 c0).ownBlock ≠ some bx) (hx : IntsN w .u64 (fun b => (Value.slice A0 n0 c0).ownBlock = some b) A m xs) (hm : m ≤ 1048576) :
    Calls Tryd.prog 29 #[.slice A0 n0 c0, .func (.func 37) #[] #[.pointer (some ⟨bx, 0, none⟩)]] w fun e w' => ∃ A' n' c', e = .returned (.slice A' n' c') ∧ OwnM w' B 5 .u8 (.slice A' n' c') (zs ++ eights xs) ∧ Below B w w' := by
  refine (callsIn_wide (n := 3)).1 ?_
  refine callsIn_of_wp_marks Tryd.func29 rfl trivial ?_ rfl
  simp only [Tryd.ntmps29, List.size_toArray, List.length_cons, List.length_nil, Nat.reduceAdd, Nat.reduceSub, Array.replicate_succ, Array.replicate_zero, List.push_toArray, List.append_toArray, List.nil_append, List.cons_append]
  obtain ⟨O, hO⟩ : ∃ O, (Value.slice A0 n0 c0).ownBlock = O := ⟨_, rfl⟩
  obtain ⟨lb, hlb⟩ : ∃ lb, w.heap.size = lb := ⟨_, rfl⟩
  have hOl : ∀ b, O = some b → b < lb := fun b e => by rw [← hlb]; exact (ho.lt b (by rw [hO]; exact e)).2
  have HZ := Lib.hid hn0
  have HXL := Lib.hid hx.1
  have HXW := Lib.hid hx.2.1
  rw [hO] at hbo
  have hbxl : bx < lb := by rw [← hlb]; exact World.block_lt_of_cell? w _ hbx
  have hSb : ¬ Turns lb O bx := fun e => by
    rcases e with e | e
    · omega
    · exact hbo e
  have hx2 : IntsN w .u64 (Turns lb O) A m xs := ⟨hx.1, hx.2.1, fun h0 => by
    obtain ⟨b, off, e, hb, hc⟩ := hx.2.2 h0
    refine ⟨b, off, e, fun t => ?_, hc⟩
    rcases t with t | t
    · have := World.block_lt_of_cell? w _ (hc 0 h0)
      have : b < w.heap.size := this
      omega
    · exact hb (hO.trans t)⟩
  clear hx hn0 hbo
  gi_wp2_with (refine Held.wpListIn_box_cell (w := w) rfl 34 _ rfl (.slice A0 n0 c0) rfl rfl ?_; intro w1 h1 g1 z1)
  have hB1 : B ≤ lb := by omega
  rw [hlb] at h1
  have b1 : Buf w B lb O (.slice A0 n0 c0) (zs ++ eights []) w1 := by
    refine ⟨hB1, h1, ?_, fun b e => ?_, (Below.refl _ w).grown g1 hB (fun r e => by cases e)⟩
    · rw [show zs ++ eights [] = zs by simp [eights]]
      exact ho.kept g1 (by cases (Value.slice A0 n0 c0).ownBlock <;> simp)
    · rw [hO] at e
      have := hOl b e
      exact ⟨by omega, .inr e⟩
  have hit := fun N => order_give N bx (Turns lb O) A m c xs w1 ((Only.of_grown g1 (S := Turns lb O) (fun r e => by cases e)).cell (p := ⟨bx, 0, none⟩) hSb hbx) hSb (hx2.only (Only.of_grown g1 (fun r e => by cases e))) (by omega)
  have hs1 : lb < w1.heap.size := b1.low
  have H1 := Lib.hid hs1
  clear h1 g1 z1 ho hbx hx2 hlb
  gi_wp2_with fail
  refine wpIn_rangeFunc_give rfl (by omega) (gf := 37) (lb := #[.pointer (some ⟨bx, 0, none⟩)]) rfl trivial (enters_of Tryd.func37 (by kernel_rfl) rfl)
    (hit _) (fun h k => h.trans k) (fun W l o o' hl ho hc _ => Only.put W l o o' ho hc) (Below.refl _ _) (fun x B W args hx => by cases hx; rfl)
    (fun pre W => ∃ v, Buf w B lb O v (zs ++ eights pre) W) (fun s W W' row hs hg hr => by obtain ⟨v, hv⟩ := hs; exact ⟨v, hv.keep hg (fun r e => ⟨by have := (hr r e).1; have := H1.out; omega, (hr r e).2⟩)⟩) ⟨_, b1⟩
    (fun x a' pre W => (∃ v, Buf w B lb O v (zs ++ eights pre) W) ∧
      a' = { tmps := #[.slice A0 n0 c0, .func (.func 37) #[] #[.pointer (some ⟨bx, 0, none⟩)], .pointer (some ⟨lb, 0, none⟩), undef, .slice none 0 0, .int .u64 x, undef, .func (.func 37) #[] #[.pointer (some ⟨bx, 0, none⟩)], .int .u64 x, undef, undef, undef, undef, undef, undef, undef, undef, undef, undef, undef, undef, undef], defers := [] }) ?ib ?assign ?body ?done
  case ib =>
    rintro x a' pre W W' row ⟨⟨v, hv⟩, h7⟩ hgr hr
    exact ⟨⟨v, hv.keep hgr (fun r e => ⟨by have := (hr r e).1; have := H1.out; omega, (hr r e).2⟩)⟩, h7⟩
  case assign =>
    rintro l pre x args W0 W K ⟨v, hv⟩ hg rfl hp hsz hK
    simp only [Held.zip_one, List.setIfInBounds_toArray, List.set_cons_zero, List.set_cons_succ]
    gi_wp2_with fail
    exact hK _ _ (KeepsOthers.refl _) (Only.refl _ _) ⟨⟨v, hv.grow hg⟩, rfl⟩
  case body =>
    rintro l pre x a' W ⟨⟨v, hv⟩, rfl⟩ hp hsz
    have hpl := List.IsPrefix.length_le hp
    have hxw := wf_u64 (HXW.out x (hp.subset (by simp)))
    have hx0 := hxw.1
    have hlen : (eights pre).length ≤ 8388608 := by rw [eights_length]; have := HXL.out; simp at hpl; omega
    have HLE := Lib.hid hlen
    have HE := Lib.hid (eights_snoc pre x)
    clear hp hpl hlen hxw
    gi_wp2_with fail
    gi_loopw [9] (fun i wr => ∃ k : Nat, k ≤ 8 ∧ i = .int .i64 k ∧ (∃ v, Buf w B lb O v (zs ++ eights pre ++ digits x k) wr) ∧ KeepsOthers W wr ∧ Only (Turns lb O) W wr) (fun i _ => 8 - (intOf i).toNat)
    case atStart => exact ⟨0, by omega, rfl, ⟨v, by rw [show digits x 0 = [] from rfl, List.append_nil]; exact hv⟩, KeepsOthers.refl _, Only.refl _ _⟩
    case round =>
      clear hv
      obtain ⟨k, hk, rfl, ⟨v1, hv1⟩, kk, ok⟩ := hrel
      by_cases hlt : k < 8
      · have hlt' : (k : Int) < 8 := by omega
        obtain ⟨A1, c1, rfl, _⟩ := hv1.own.form
        obtain ⟨n1, hn1⟩ : ∃ n1, (zs ++ eights pre ++ digits x k).length = n1 := ⟨_, rfl⟩
        rw [hn1] at hv1
        have HN := Lib.hid (show (zs ++ eights pre ++ digits x k).length + 1 ≤ 17592186044416 by rw [List.length_append, List.length_append, digits_length]; have := HZ.out; have := HLE.out; omega)
        have HD := Lib.hid (show zs ++ eights pre ++ digits x k ++ [x / 2 ^ (8 * k) % 256] = zs ++ eights pre ++ digits x (k + 1) by rw [digits_snoc, ← List.append_assoc])
        clear hn1
        have hmul : IntKind.i64.wrap (8 * (k : Int)) = ((8 * k : Nat) : Int) := by rw [IntKind.wrap_i64]; omega
        have hcv : IntKind.u8.wrap (x / 2 ^ (8 * k)) = x / 2 ^ (8 * k) % 256 := by rw [IntKind.wrap_u8]
        have hwz : ∀ z ∈ [x / 2 ^ (8 * k) % 256], (Lit.int .u8 z).wf = true := fun z hz => by rw [List.mem_singleton.1 hz]; exact wf_byte (byte_range k)
        gi_wp2_with fail
        refine Held.wpIn_region_heldR (r := some l) (S := fun _ => True) rfl (by kernel_rfl) (by kernel_rfl) (fun a w h => h) ?_
        change wpAnyH _ _ _ _ _ _ _ _ wr.drew
        have c0_0 : True := trivial
        refine Held.take (v := .int .u64 x) 1 (some 13) rfl rfl (by kernel_rfl) (by kernel_rfl) (by kernel_rfl) (fun _ _ _ h => h) rfl (Held.y_move rfl rfl) c0_0 ?_
        simp only [Act.put, List.setIfInBounds_toArray, List.set_cons_zero, List.set_cons_succ]
        refine Held.take (v := .int .i64 (k : Int)) 2 (some 14) rfl rfl (by kernel_rfl) (by kernel_rfl) (by kernel_rfl) (fun _ _ _ h => h) rfl (Held.y_move rfl rfl) c0_0 ?_
        simp only [Act.put, List.setIfInBounds_toArray, List.set_cons_zero, List.set_cons_succ]
        refine Held.take (v := .int .i64 ((8 * k : Nat) : Int)) 3 (some 15) rfl rfl (by kernel_rfl) (by kernel_rfl) (by kernel_rfl) (fun _ _ _ h => h) rfl (Held.y_int rfl rfl rfl (Held.run_mul 3 .i64 hmul)) c0_0 ?_
        simp only [Act.put, List.setIfInBounds_toArray, List.set_cons_zero, List.set_cons_succ]
        refine Held.take (v := .int .u64 (x / 2 ^ (8 * k))) 4 (some 16) rfl rfl (by kernel_rfl) (by kernel_rfl) (by kernel_rfl) (fun _ _ _ h => h) rfl (Held.y_bin rfl rfl rfl (fun w => by simp [eqGuard]) (Held.run_shr 23 .u64 .i64 (8 * k) (by show 8 * k ≤ 64; omega) rfl)) c0_0 ?_
        simp only [Act.put, List.setIfInBounds_toArray, List.set_cons_zero, List.set_cons_succ]
        refine Held.take (v := .int .u8 (x / 2 ^ (8 * k) % 256)) 5 (some 17) rfl rfl (by kernel_rfl) (by kernel_rfl) (by kernel_rfl) (fun _ _ _ h => h) rfl (Held.y_convert rfl rfl (by kernel_rfl) Tryd.underlying5 hcv) c0_0 ?_
        simp only [Act.put, List.setIfInBounds_toArray, List.set_cons_zero, List.set_cons_succ]
        refine Held.two 0 6 (by kernel_rfl) ?_ ?_
        · refine Held.op_load 0 (some 12) 34 ⟨lb, 0, none⟩ (.slice A1 n1 c1) rfl rfl rfl rfl rfl (Held.run_loadVar_cell _ _ _ _ (by kernel_rfl) (cell_of_one hv1.cell)) ?_
          have c0_1 := c0_0
          refine ⟨c0_1, ?_⟩
          simp only [Act.put, List.setIfInBounds_toArray, List.set_cons_zero, List.set_cons_succ]
          refine Held.one 6 (by kernel_rfl) ?_
          refine Held.op_build_Row 6 (some 18) 34 5 1 .u8 1 [x / 2 ^ (8 * k) % 256] rfl rfl rfl rfl Tryd.underlying34 info_u8 (by simp [Act.eval]) rfl (by omega) (by omega) hwz ?_
          intro p wb rb gb zb
          have gb : Below wr.heap.size wr wb := ⟨gb.os, gb.tape, gb.output, gb.size, gb.block⟩
          have hb := hv1.grow (grown_of_below gb none)
          have cb := hb.cell
          have c0_2 := c0_1
          refine ⟨c0_2, ?_⟩
          simp only [Act.put, List.setIfInBounds_toArray, List.set_cons_zero, List.set_cons_succ]
          refine Held.one 7 (by kernel_rfl) ?_
          refine op_append_buf 7 (some 19) 34 rfl rfl rfl rfl B 5 .u8 1 Tryd.underlying34 info_u8 (.slice A1 n1 c1) _ rfl hb.own p 1 (x / 2 ^ (8 * k) % 256) rfl (rb.cell (i := 0) (by simp)) (hwz _ List.mem_cons_self) HN.out (by omega) (Nat.le_trans hb.le (Nat.le_of_lt hb.low)) ?_
          intro A2 n2 c2 wa oa ga fa ha1 ha2 na
          rw [HD.out] at oa
          have la := Held.keep_cells hb.cell ga (fun e => (hb.free lb e.symm).1 rfl)
          have c0_3 := c0_2
          refine ⟨c0_3, ?_⟩
          simp only [Act.put, List.setIfInBounds_toArray, List.set_cons_zero, List.set_cons_succ]
          refine Held.one 8 (by kernel_rfl) ?_
          refine Held.op_store_box 8 none 34 lb 34 (.slice A1 n1 c1) (.slice A2 n2 c2) rfl rfl rfl rfl rfl rfl la (by kernel_rfl) rfl rfl ?_
          intro ws ls gs
          have c0_4 := c0_3
          refine ⟨c0_4, ?_⟩
          simp only [Act.put]
          refine wpAnyH_done (by kernel_rfl) ?_ _
          obtain ⟨q1, q2, q3⟩ := hv1.step gb ga fa oa ls gs
          clear gb hb cb rb ga oa la gs ls hv1
          gi_wp2_with fail
          go_roundw
          case rel => exact ⟨k + 1, by omega, by go_num, ⟨_, q1⟩, kk.trans q2, ok.trans q3⟩
          case measure => simp [intOf]; omega
        · refine Held.op_build_Row 6 (some 18) 34 5 1 .u8 1 [x / 2 ^ (8 * k) % 256] rfl rfl rfl rfl Tryd.underlying34 info_u8 (by simp [Act.eval]) rfl (by omega) (by omega) hwz ?_
          intro p wb rb gb zb
          have gb : Below wr.heap.size wr wb := ⟨gb.os, gb.tape, gb.output, gb.size, gb.block⟩
          have hb := hv1.grow (grown_of_below gb none)
          have cb := hb.cell
          have c0_1 := c0_0
          refine ⟨c0_1, ?_⟩
          simp only [Act.put, List.setIfInBounds_toArray, List.set_cons_zero, List.set_cons_succ]
          refine Held.one 0 (by kernel_rfl) ?_
          refine Held.op_load 0 (some 12) 34 ⟨lb, 0, none⟩ (.slice A1 n1 c1) rfl rfl rfl rfl rfl (Held.run_loadVar_cell _ _ _ _ (by kernel_rfl) (cell_of_one cb)) ?_
          have c0_2 := c0_1
          refine ⟨c0_2, ?_⟩
          simp only [Act.put, List.setIfInBounds_toArray, List.set_cons_zero, List.set_cons_succ]
          refine Held.one 7 (by kernel_rfl) ?_
          refine op_append_buf 7 (some 19) 34 rfl rfl rfl rfl B 5 .u8 1 Tryd.underlying34 info_u8 (.slice A1 n1 c1) _ rfl hb.own p 1 (x / 2 ^ (8 * k) % 256) rfl (rb.cell (i := 0) (by simp)) (hwz _ List.mem_cons_self) HN.out (by omega) (Nat.le_trans hb.le (Nat.le_of_lt hb.low)) ?_
          intro A2 n2 c2 wa oa ga fa ha1 ha2 na
          rw [HD.out] at oa
          have la := Held.keep_cells hb.cell ga (fun e => (hb.free lb e.symm).1 rfl)
          have c0_3 := c0_2
          refine ⟨c0_3, ?_⟩
          simp only [Act.put, List.setIfInBounds_toArray, List.set_cons_zero, List.set_cons_succ]
          refine Held.one 8 (by kernel_rfl) ?_
          refine Held.op_store_box 8 none 34 lb 34 (.slice A1 n1 c1) (.slice A2 n2 c2) rfl rfl rfl rfl rfl rfl la (by kernel_rfl) rfl rfl ?_
          intro ws ls gs
          have c0_4 := c0_3
          refine ⟨c0_4, ?_⟩
          simp only [Act.put]
          refine wpAnyH_done (by kernel_rfl) ?_ _
          obtain ⟨q1, q2, q3⟩ := hv1.step gb ga fa oa ls gs
          clear gb hb cb rb ga oa la gs ls hv1
          gi_wp2_with fail
          go_roundw
          case rel => exact ⟨k + 1, by omega, by go_num, ⟨_, q1⟩, kk.trans q2, ok.trans q3⟩
          case measure => simp [intOf]; omega
      · have hk8 : k = 8 := by omega
        subst hk8
        rw [List.append_assoc, ← HE.out] at hv1
        gi_wp2_with fail
        exact ⟨kk, ok, _, hv1⟩
  case done =>
    rintro D W hD ⟨v, hv⟩ hDl
    obtain ⟨A1, c1, rfl, _⟩ := hv.own.form
    obtain ⟨n1, hn1⟩ : ∃ n1, (zs ++ eights xs).length = n1 := ⟨_, rfl⟩
    rw [hn1] at hv
    have cl := cell_of_one hv.cell
    have HD := Lib.hid hDl
    have hlD : lb ≠ D := by have := H1.out; omega
    clear hn1
    gi_wp2_with fail
    have kp := hv.keep (grownBy_putObj' W D (.deferred none)) (fun r e => by cases e; exact ⟨by have := H1.out; omega, _, hDl, rfl⟩)
    refine ⟨by simp, .inl ⟨_, _, rfl, run_takeDeferred hDl, ?_⟩⟩
    exact ⟨_, results_tmp rfl _ _ _, A1, n1, c1, rfl, kp.own, kp.below⟩
end Go.Proofs.YtoelgcdjhekafaaDoor.Ky
namespace Go.Proofs.YtoelgcdjhekafaaDoor.Ky
open Go.RowKit Go.Shelf Go.Proofs.YtoelgcdjhekafaaDoor.Mem Go.Proofs.YtoelgcdjhekafaaDoor.Help Go.Proofs.YtoelgcdjhekafaaDoor.Sum Go.Proofs.YtoelgcdjhekafaaDoor.Po Go.Proofs.YtoelgcdjhekafaaDoor.Range Go.Proofs.YtoelgcdjhekafaaDoor
set_option linter.unusedVariables false
attribute [local irreducible] wpList wpListIn Calls

/-- a number as of 64 bits -/
def u64 (x : Int) : Int := x % 18446744073709551616
theorem u64_eq (x : Int) : IntKind.u64.wrap x = u64 x := by rw [IntKind.wrap_u64]; rfl
theorem u64_wf (x : Int) : (Lit.int .u64 (u64 x)).wf = true := wf_64 (by unfold u64; omega)
theorem u64_id {x : Int} (h : (Lit.int .u64 x).wf = true) : u64 x = x := by have := wf_u64 h; unfold u64; omega
theorem digits_congr : ∀ (k : Nat) {x y : Int}, x % 256 ^ k = y % 256 ^ k → digits x k = digits y k
  | 0, _, _, _ => rfl
  | k + 1, x, y, h => by
    have hN : (0 : Int) < 256 ^ k := Int.pow_pos (by omega)
    rw [Int.pow_succ, Int.mul_comm (256 ^ k) 256] at h
    have h1 : ∀ z : Int, z % (256 * 256 ^ k) % 256 = z % 256 := fun z => Int.emod_emod_of_dvd z ⟨_, rfl⟩
    have h2 : ∀ z : Int, z % (256 * 256 ^ k) / 256 = z / 256 % 256 ^ k := fun z => by
      generalize (256 : Int) ^ k = N at hN ⊢
      have e1 := Int.mul_ediv_add_emod (z / 256) N
      have e2 := Int.emod_nonneg (z / 256) (show N ≠ 0 by omega)
      have e3 := Int.emod_lt_of_pos (z / 256) hN
      have e4 : z = (z % 256 + 256 * (z / 256 % N)) + 256 * N * (z / 256 / N) := by
        rw [Int.mul_assoc]
        omega
      have e5 : z % (256 * N) = z % 256 + 256 * (z / 256 % N) := by
        conv => lhs; rw [e4]
        rw [Int.add_mul_emod_self_left]
        exact Int.emod_eq_of_lt (by omega) (by omega)
      rw [e5]
      omega
    have g1 : x % 256 = y % 256 := by rw [← h1 x, ← h1 y, h]
    have g2 : x / 256 % 256 ^ k = y / 256 % 256 ^ k := by rw [← h2 x, ← h2 y, h]
    rw [digits, digits, g1, digits_congr k g2]
theorem digits_take : ∀ (k n : Nat) (x : Int), k ≤ n → (digits x n).take k = digits x k
  | 0, n, x, _ => by simp [digits]
  | k + 1, 0, x, h => by omega
  | k + 1, n + 1, x, h => by rw [digits, List.take_succ_cons, digits_take k n _ (by omega), digits]
theorem nonce_take (a i : Int) : (eights [a, u64 i]).take 12 = nonce a i := by
  have e : eights [a, u64 i] = digits a 8 ++ digits (u64 i) 8 := by simp [eights]
  rw [e, List.take_append, digits_length, List.take_of_length_le (by rw [digits_length]; omega), digits_take 4 8 _ (by omega)]
  unfold nonce
  rw [digits_congr 4 (show u64 i % 256 ^ 4 = i % 256 ^ 4 by unfold u64; omega)]

theorem info_w64 : (Tryd.prog.info? 23).map (fun i => (i.zero, i.size, i.bytes)) = some (some (.int .u64 0), 1, 8) := by kernel_rfl
theorem zero_12 : (Tryd.prog.info? 31).bind (·.zero) = some (.agg (arr .u8 (List.replicate 12 0))) := by kernel_rfl
theorem info_12 : (Tryd.prog.info? 31).map (·.size) = some 12 := by kernel_rfl
theorem size_u8 : (Tryd.prog.info? 5).map (·.size) = some 1 := by kernel_rfl
section
variable {S : World → Prop} {ρ : Operand → Value} {o : Oper}
/-- a field's address -/
theorem y_place {x : Operand} {b j : Nat} (hj : j < 5) (ho : o.op = .fieldAddr 25 x j) (hx : ρ x = .pointer (some ⟨b, 0, none⟩)) : ∀ w, S w → (execOp ρ o).run Tryd.prog w = .ok (.value (.pointer (some ⟨b, j, none⟩))) w := fun w _ => by
  match j, hj with
  | 0, _ => simp [execOp, ho, hx, Instr.fieldAt, Instr.sureAddr, run_underlying Tryd.underlying25, fieldPlace, addr_add]
  | 1, _ => simp [execOp, ho, hx, Instr.fieldAt, Instr.sureAddr, run_underlying Tryd.underlying25, fieldPlace, addr_add]
  | 2, _ => simp [execOp, ho, hx, Instr.fieldAt, Instr.sureAddr, run_underlying Tryd.underlying25, fieldPlace, addr_add]
  | 3, _ => simp [execOp, ho, hx, Instr.fieldAt, Instr.sureAddr, run_underlying Tryd.underlying25, fieldPlace, addr_add]
  | 4, _ => simp [execOp, ho, hx, Instr.fieldAt, Instr.sureAddr, run_underlying Tryd.underlying25, fieldPlace, addr_add]
/-- a place, whole -/
theorem y_load_place {x : Operand} {b : Nat} {cs : Array Value} (ho : o.op = .load 25 x) (hx : ρ x = .pointer (some ⟨b, 0, none⟩)) (hs : cs.size = 5) (hc : ∀ w, S w → w.heap[b]? = some (.cells cs 25 (0, 0))) : ∀ w, S w → (execOp ρ o).run Tryd.prog w = .ok (.value (.agg cs)) w := fun w hw => by
  simp only [execOp, ho, hx, Instr.loadAt, Instr.sureAddr, Sem.run_bind, Sem.run_pure, Result.andThen_ok, run_loadVar_row w b 25 25 cs (0, 0) _ (hc w hw) Tryd.underlying25 rfl (by rw [hs]; kernel_rfl)]
end

theorem spot_any (ph r a t i : Int) (w : World) :
    Calls Tryd.prog 27 #[.agg #[.int .i64 ph, .int .i64 r, .int .i64 a, .int .u64 t, .int .i64 i]] w fun e w' => ∃ bx g : Nat, e = .returned (.func (.func 37) #[] #[.pointer (some ⟨bx, 0, none⟩)]) ∧ w'.cell? ⟨bx, 0, none⟩ = some (.slice (some ⟨g, 0, none⟩) 3 3) ∧
      Row w' g 23 .u64 [u64 ph, u64 r, u64 a] ∧ w.heap.size ≤ g ∧ w.heap.size ≤ bx ∧ Below w.heap.size w w' := by
  have h1 := u64_eq ph
  have h2 := u64_eq r
  have h3 := u64_eq a
  go_enter Tryd.func27, Tryd.ntmps27
  go_wp2_with fail
  refine (order_any _ 3 3 _).mono ?_
  rintro e w3 ⟨rfl, hw3⟩
  have b3 : Below w.heap.size w w3 := by rw [hw3]; exact (((Below.refl _ w).alloc (Nat.le_refl _) _).alloc (by simp) _).alloc (by simp; omega) _
  have rw3 : Row w3 (w.heap.size + 1) 23 .u64 [u64 ph, u64 r, u64 a] := by
    rw [hw3]
    have q := (Row.new (w.alloc (.cells #[.int .i64 ph, .int .i64 r, .int .i64 a, .int .u64 t, .int .i64 i] 25)) 23 (k := .u64) (zs := [u64 ph, u64 r, u64 a]) (by simp [u64_wf])).alloc (.cells #[.slice (some ⟨w.heap.size + 1, 0, none⟩) 3 3] 60)
    simpa [arr, h1, h2, h3] using q
  have c3 : w3.cell? ⟨w.heap.size + 2, 0, none⟩ = some (.slice (some ⟨w.heap.size + 1, 0, none⟩) 3 3) := by
    rw [hw3, World.cell?_alloc_at _ _ _ _ (by simp)]
    rfl
  clear hw3
  go_wp2_with fail
  go_ret
  exact ⟨_, w.heap.size + 1, rfl, by simpa using c3, rw3, by omega, by omega, b3⟩

set_option maxHeartbeats 1000000 in
theorem nonce_any (a i : Int) (ha : (Lit.int .u64 a).wf = true) (w : World) :
    Calls Tryd.prog 16 #[.int .u64 a, .int .i64 i] w fun e w' => e = .returned (.agg (arr .u8 (nonce a i))) ∧ Below w.heap.size w w' := by
  have h1 := u64_eq i
  go_enter Tryd.func16, Tryd.ntmps16
  go_wp2_with (first
    | (refine wpList_alloc_Row rfl 31 rfl .u8 12 zero_12 ?_; intro w1 r1 g1 z1)
    | (refine Held.wpList_build_row (w := w1) rfl 60 23 2 _ rfl .u64 8 [a, u64 i] Tryd.underlying60 info_w64 (by simp [Act.eval, h1]) rfl (by omega) (by omega) (by intro z hz; rcases List.mem_cons.1 hz with rfl | hz; exact ha; rw [List.mem_singleton.1 hz]; exact u64_wf i) ?_; intro w2 r2 g2 z2))
  refine (order_any _ 2 2 w2).mono ?_
  rintro e w3 ⟨rfl, hw3⟩
  have e1 := g1.size
  have e2 := g2.size
  have r3 : Row w3 w1.heap.size 23 .u64 [a, u64 i] := by rw [hw3]; exact r2.alloc _
  have c3 : w3.cell? ⟨w2.heap.size, 0, none⟩ = some (.slice (some ⟨w1.heap.size, 0, none⟩) 2 2) := by rw [hw3, World.cell?_alloc_at _ _ _ _ rfl]; rfl
  have n3 : Row w3 w.heap.size 31 .u8 (List.replicate 12 0) := by rw [hw3]; exact (r1.grown g2 (by simp)).alloc _
  have b3 : Below w.heap.size w w3 := by rw [hw3]; exact (((Below.refl _ w).grown g1 (Nat.le_refl _) (by simp)).grown g2 (by omega) (by simp)).alloc (by omega) _
  clear hw3 r1 r2 g1 g2 z1 z2
  go_wp2_with fail
  refine (laid_any w3.heap.size none 0 0 [] w2.heap.size (some ⟨w1.heap.size, 0, none⟩) 2 2 [a, u64 i] w3 (OwnM.nil _ _ _ _) (Nat.le_refl _) (by simp) c3 (by simp [Value.ownBlock]) (IntsN.row r3 (fun e => by cases e)) (by omega)).mono ?_
  rintro e w4 ⟨A', n', c', rfl, o4, b4⟩
  rw [List.nil_append] at o4
  obtain ⟨hn, hc, hm⟩ := o4.caps
  have hn16 : n' = 16 := by rw [← hn, eights_length]; rfl
  obtain ⟨g, rfl, hg, hr⟩ := o4.head (by omega)
  have n4 := n3.below b4 n3.lt
  have c4 := b3.trans (b4.mono b3.size)
  have hsl : ∀ W, (Instr.sliceAt 34 (.slice (some ⟨g, 0, none⟩) n' c') none (some (.int .i64 12)) none).run Tryd.prog W = .ok (.slice (some ⟨g, 0, none⟩) 12 c') W := fun W => run_front (P := Tryd.prog) (n := n') (cap := c') (h := 12) Tryd.underlying34 size_u8 (Flat.head g 0 c') (by omega) W
  have hr12 : w4.rangeAt g 0 ((nonce a i).map (Value.int .u8)) := fun j v hv => by
    have hj : j < 12 := by have := (List.getElem?_eq_some_iff.1 hv).1; simpa [nonce_length] using this
    refine hr j v ?_
    rw [← nonce_take, List.getElem?_map, List.getElem?_take, if_pos hj] at hv
    rw [List.getElem?_map]
    exact hv
  have HN := Lib.hid (nonce_length a i)
  have HB := Lib.hid (bs_wf (nonce_bytes a i))
  clear hr hn hc hm hn16 o4 b4 c3 r3 n3 b3 e1 e2
  go_wp2_with (first
    | (refine wpList_arrayAt rfl 31 _ rfl _ 12 c' 12 5 rfl Tryd.underlying31 (by omega) ?_)
    | (refine wpList_load_mid rfl 31 _ rfl g 0 rfl ((nonce a i).map (Value.int .u8)) _ hr12 Tryd.underlying31 rfl (by rw [info_12, List.length_map, HN.out]) ?_)
    | (refine wpList_store_RowTo (w := w4) rfl 31 _ _ rfl w.heap.size rfl 31 .u8 _ (nonce a i) rfl n4 12 info_12 HN.out (by simp) HB.out ?_; intro w5 r5 g5 z5))
  have b5 : Below w.heap.size w w5 := c4.grown g5 c4.size (fun r e => by cases e; exact Nat.le_refl _)
  exact bodyPost_ret (results_Row rfl _ _ w.heap.size _ _ _ rfl r5 12 5 Tryd.underlying31 info_12 HN.out) rfl ⟨rfl, b5⟩
end Go.Proofs.YtoelgcdjhekafaaDoor.Ky
