/-
  The functions below, Journal, Job, Sender, Place and Aad of package keys by their contracts. Conditions: keys of 32 bytes; the two tables of package sha lie where the program's text lays them.
  A place's name, by package keys and by the document's own, by their contracts. Conditions: the table of package internal/strconv lies where the program's text lays it.
  The function Aad of package keys by its contract. No conditions beyond those stated.
  The document's own Pad by its contract. Conditions: a message of at most 2^44 bytes.
  The document's own Sum by its contract: SHA-256 of a text. Conditions: a text of at most 2^40 bytes.
  The document's own Tag (HMAC of one text) by its contract. Conditions: a key and a text of at most 2^40 bytes.
  The document's own Extract, Expand and Key (package dominoref04) by their contracts. Conditions: salts, keys and what is said are at most 2^38 bytes.
  A number's eight bytes, numbers' bytes, a nonce and what goes beside, by the document's own, by their contracts. Conditions beyond those stated: none.
  A nonce by the document's own, by its contract. No conditions beyond those stated.
  []byte("..") of a text that the program's text says: no program here. No conditions beyond those stated.
-/
import Derived.Test.YtoelgcdjhekafaaDoorB2
import Derived.Test.YtoelgcdjhekafaaDoorB3
import Derived.Test.YtoelgcdjhekafaaDoorB1
import Derived.Lib.AtoiErrMem
import Derived.Great.BuildSlice
import Derived.Deep.Cut
import Derived.Lib.SlBytesConst
import Derived.Laws.IdiomStrings
namespace Go.Proofs.YtoelgcdjhekafaaDoor.Ky
open Go.RowKit Go.Shelf Go.Proofs.YtoelgcdjhekafaaDoor.Mem Go.Proofs.YtoelgcdjhekafaaDoor.Help Go.Proofs.YtoelgcdjhekafaaDoor.Sum Go.Proofs.YtoelgcdjhekafaaDoor.Sha Go.Proofs.YtoelgcdjhekafaaDoor.Mac Go.Proofs.YtoelgcdjhekafaaDoor.Po Go.Proofs.YtoelgcdjhekafaaDoor.Range Go.Proofs.YtoelgcdjhekafaaDoor.Hkdf Go.Proofs.YtoelgcdjhekafaaDoor
set_option linter.unusedVariables false
attribute [local irreducible] wpList wpListIn Calls

section
variable {P : Program} {ops : Array Oper} {Q : Exit → Act → World → Prop}
/-- a text turned into bytes -/
theorem op_text (i : Nat) (d : Option Tmp) {o : Oper} {a : Act} {w : World} {K : Act → World → Prop} (src dst e : TypeId) {x : Operand} (s : ByteArray) (zs : List Int) (hi : ops[i]? = some o) (hd : o.dst = d) (hw : Region.wanted o (yielded ops a.tmps) = true)
    (ho : o.op = .convert src dst x) (hx : a.eval x = .string s) {u : TypeDesc} (hs : P.underlying src = some u) (ht : P.underlying dst = some (.slice e)) (he : P.underlying e = some (.int .u8)) (hz : s.data.toList.map (fun b => (b.toNat : Int)) = zs) (hm : s.size ≤ 1048576)
    (h : ∀ p c' w', OwnM w' w.heap.size e .u8 (.slice (some ⟨p, 0, none⟩) s.size c') zs → Below w.heap.size w w' → Hid (w.heap.size ≤ p) → K (a.put d (.slice (some ⟨p, 0, none⟩) s.size c')) w') : wpOp P ops Q i K a w := by
  subst hd
  refine Held.op_wp i hi hw ?_
  have hrun := Lib.run_convert_string_bytes (P := P) w src dst e s hs ht he
  unfold Oper.wp execOp
  simp only [ho, hx, hrun, Sem.run_bind, Sem.run_pure, Result.andThen_ok]
  exact h _ _ _ (own_text w e s zs hz hm) (Lib.bytesWorld_below w e s) (Lib.hid (Nat.le_refl _))
end
/-- a text's bytes -/
def textOf (s : ByteArray) : List Int := s.data.toList.map fun b => (b.toNat : Int)
theorem textOf_length (s : ByteArray) : (textOf s).length = s.size := by rw [textOf, List.length_map]; rfl

set_option maxRecDepth 100000 in
set_option maxHeartbeats 8000000 in
theorem below_any (above : List Int) (ha : above.length = 32) (hab : ∀ z ∈ above, (Lit.int .u8 z).wf = true) (s : ByteArray) (hs : s.size ≤ 1000) (bx : Nat) (A : Option Addr) (m c : Nat) (xs : List Int) (w : World)
    (hbx : w.cell? ⟨bx, 0, none⟩ = some (.slice A m c)) (hx : Ints w .u64 w.heap.size A m xs) (hm : m ≤ 1000) (hT0 : Tab w 3 Sum.H0) (hT1 : Tab w 4 Sum.K) :
    Calls Tryd.prog 25 #[.agg (arr .u8 above), .string s, .func (.func 37) #[] #[.pointer (some ⟨bx, 0, none⟩)]] w fun e w' => e = .returned (.agg (arr .u8 (hkey [] above (textOf s ++ eights xs)))) ∧ Below w.heap.size w w' := by
  have HK := Lib.hid ha
  have hbl := World.block_lt_of_cell? w _ hbx
  have HS := Lib.hid (textOf_length s)
  have HX := Lib.hid hx.1
  clear ha
  go_enter Tryd.func25, Tryd.ntmps25
  go_wp2_with (first
    | (refine wpList_box_Row (w := w) rfl 22 _ rfl .u8 above rfl hab ?_; intro w1 r1 g1 z1)
    | (refine wpList_alloc_Row (w := w1) rfl 22 rfl .u8 32 zero_32 ?_; intro w2 r2 g2 z2))
  obtain ⟨ga, hga⟩ : ∃ g, w.heap.size = g := ⟨_, rfl⟩
  obtain ⟨gr, hgr⟩ : ∃ g, w1.heap.size = g := ⟨_, rfl⟩
  have k1 := r1.grown g2 (by simp)
  have b2 : Below w.heap.size w w2 := ((Below.refl _ w).grown g1 (Nat.le_refl _) (by simp)).grown g2 g1.size (by simp)
  have hgrw : w.heap.size ≤ gr := by rw [← hgr]; exact g1.size
  rw [hgr] at r2 ⊢
  rw [hga] at k1 ⊢
  have HGA := Lib.hid hga
  clear hga hgr r1 g1 g2 z1 z2
  refine wp_region_held (S := fun W => Below gr w2 W) (by kernel_rfl) ?_
  change wpAnyH _ _ _ _ _ _ _ _ w2.drew
  have e0 := (Below.refl w2.heap.size w2).drew
  have hg2 : gr ≤ w2.heap.size := Nat.le_of_lt r2.lt
  have c0 := e0.mono hg2
  refine Held.take (v := .slice (some ⟨ga, 0, none⟩) 32 32) 0 (some 7) rfl rfl (by kernel_rfl) (by kernel_rfl) (by kernel_rfl) (fun _ _ _ h => h) rfl (Held.y_slice rfl (fun X => run_slice_arr_all (P := Tryd.prog) 22 5 32 ga X Tryd.underlying22 (by kernel_rfl) (by omega))) c0 ?_
  simp only [Act.put, List.setIfInBounds_toArray, List.set_cons_zero, List.set_cons_succ]
  refine Held.take (v := .string s) 1 (some 8) rfl rfl (by kernel_rfl) (by kernel_rfl) (by kernel_rfl) (fun _ _ _ h => h) rfl (Held.y_move rfl rfl) c0 ?_
  simp only [Act.put, List.setIfInBounds_toArray, List.set_cons_zero, List.set_cons_succ]
  refine Held.take (v := .func (.func 37) #[] #[.pointer (some ⟨bx, 0, none⟩)]) 3 (some 10) rfl rfl (by kernel_rfl) (by kernel_rfl) (by kernel_rfl) (fun _ _ _ h => h) rfl (Held.y_move rfl rfl) c0 ?_
  simp only [Act.put, List.setIfInBounds_toArray, List.set_cons_zero, List.set_cons_succ]
  refine Held.one 2 (by kernel_rfl) ?_
  refine op_text 2 (some 9) 9 34 5 s (textOf s) rfl rfl rfl rfl rfl Tryd.underlying9 Tryd.underlying34 Tryd.underlying5 rfl (by omega) ?_
  intro p cp w3 o3 b3 hp
  have hp := hp.out
  have hp : w2.heap.size ≤ p := hp
  have e3 : Below w2.heap.size w2 w3 := e0.trans b3
  have d3 := b2.trans (e3.mono b2.size)
  have hpw : w.heap.size ≤ p := Nat.le_trans b2.size hp
  refine ⟨e3.mono hg2, ?_⟩
  simp only [Act.put, List.setIfInBounds_toArray, List.set_cons_zero, List.set_cons_succ]
  refine Held.one 4 (by kernel_rfl) ?_
  refine Held.op_call 4 (some 11) 29 #[.slice (some ⟨p, 0, none⟩) s.size cp, .func (.func 37) #[] #[.pointer (some ⟨bx, 0, none⟩)]] rfl rfl rfl rfl (enters_of Tryd.func29 (by kernel_rfl) rfl) (by simp [Act.eval]) (laid_any w2.heap.size (some ⟨p, 0, none⟩) s.size cp (textOf s) bx A m c xs w3 o3 e3.size (by rw [HS.out]; omega) ((d3.cell (p := ⟨bx, 0, none⟩) hbl).trans hbx) (fun e => by have e : some p = some bx := e; injection e with e; have : bx < w.heap.size := hbl; omega) (IntsN.of (hx.below d3) (fun b hb e => by have e : some p = some b := e; injection e with e; omega)) (by omega)) ?_
  rintro e w4 ⟨A4, n4, c4, rfl, o4, b4⟩
  have e4 : Below w2.heap.size w2 w4 := e3.trans b4
  have d4 := b2.trans (e4.mono b2.size)
  clear o3 b3 b4
  refine ⟨_, rfl, e4.mono hg2, ?_⟩
  simp only [Act.put, List.setIfInBounds_toArray, List.set_cons_zero, List.set_cons_succ]
  obtain ⟨q1, q2, q3⟩ := o4.caps
  have hn4 : n4 ≤ 20000 := by rw [← q1, List.length_append, eights_length, HS.out, HX.out]; omega
  have i4 := o4.ints q1
  have hk4 := (k1.below e4 k1.lt).ints (n := 32) (by rw [HK.out]; omega)
  rw [List.take_of_length_le (by rw [HK.out]; omega)] at hk4
  have s4 : w2.heap.size ≤ w4.heap.size := e4.size
  clear q1
  refine Held.one 5 (by kernel_rfl) ?_
  refine Held.op_call 5 (some 12) 36 #[.slice none 0 0, .slice (some ⟨ga, 0, none⟩) 32 32, .slice A4 n4 c4] rfl rfl rfl rfl (enters_of Tryd.func36 (by kernel_rfl) rfl) (by simp [Act.eval]) (key_any w4.heap.size w4.heap.size w4.heap.size none (some ⟨ga, 0, none⟩) A4 0 0 32 32 n4 c4 [] above (textOf s ++ eights xs) w4 (Ints.nil _ _ _ _) (Nat.le_refl _) (Nat.le_refl _) (by simp [maxLen]) (by omega) hk4 (Nat.le_refl _) (Nat.le_refl _) (by simp [maxLen]) (by omega) i4 (Nat.le_refl _) q2 q3 (by omega) (hT0.below d4 hT0.lt) (hT1.below d4 hT1.lt)) ?_
  rintro e w5 ⟨rfl, b5⟩
  have e5 := e4.trans (b5.mono e4.size)
  have d5 := b2.trans (e5.mono b2.size)
  have n5 := r2.below e5 r2.lt
  have HO := Lib.hid (hkey_length [] above (textOf s ++ eights xs))
  have HW := Lib.hid (hkey_wf [] above (textOf s ++ eights xs))
  clear i4 hk4 o4 b5
  obtain ⟨key, hkk⟩ : ∃ key, hkey [] above (textOf s ++ eights xs) = key := ⟨_, rfl⟩
  rw [hkk] at HO HW ⊢
  have HKK := Lib.hid hkk
  clear hkk
  refine ⟨_, rfl, e5.mono hg2, ?_⟩
  simp only [Act.put, List.setIfInBounds_toArray, List.set_cons_zero, List.set_cons_succ]
  refine Held.one 6 (by kernel_rfl) ?_
  refine Held.op_store_RowL 6 none 22 gr 22 .u8 _ key rfl rfl rfl rfl rfl rfl n5 32 info_32 HO.out (by simp) HW.out ?_
  intro wz rz gz
  have ez : Below gr w2 wz := (e5.mono hg2).grown gz (Nat.le_trans hg2 e5.size) (fun r e => by cases e; exact Nat.le_refl _)
  have dz := d5.grown gz d5.size (fun r e => by cases e; exact hgrw)
  refine ⟨ez, ?_⟩
  simp only [Act.put]
  refine wpAnyH_done (by kernel_rfl) ?_ _
  clear ez gz
  go_wp2_with fail
  exact bodyPost_ret (results_Row rfl _ _ gr _ _ _ rfl rz 32 5 Tryd.underlying22 info_32 HO.out) rfl ⟨by rw [HKK.out], dz⟩

theorem order_cell (A : Option Addr) (m c : Nat) (w : World) :
    Calls Tryd.prog 26 #[.slice A m c] w fun e w' => ∃ bx : Nat, e = .returned (.func (.func 37) #[] #[.pointer (some ⟨bx, 0, none⟩)]) ∧ w'.cell? ⟨bx, 0, none⟩ = some (.slice A m c) ∧ w.heap.size ≤ bx ∧ Below w.heap.size w w' :=
  (order_any A m c w).mono fun e w' ⟨he, hw⟩ => ⟨w.heap.size, he, by rw [hw, World.cell?_alloc_at _ _ _ _ rfl]; rfl, Nat.le_refl _, by rw [hw]; exact (Below.refl _ w).alloc (Nat.le_refl _) _⟩
/-- the keys, as plain functions -/
def kJob (master : List Int) (id : Int) : List Int := hkey [] master ([106, 111, 98] ++ eights [id])
def kPlace (job : List Int) (ph r a : Int) : List Int := hkey [] job ([112, 108, 97, 99, 101] ++ eights [u64 ph, u64 r, u64 a])
def kSender (job : List Int) (from_ start : Int) : List Int := hkey [] job ([115, 101, 110, 100, 101, 114] ++ eights [u64 from_, start])
def kJournal (job : List Int) : List Int := hkey [] job [106, 111, 117, 114, 110, 97, 108]
set_option maxRecDepth 100000 in
set_option maxHeartbeats 8000000 in
theorem journal_any (key0 : List Int) (hk : key0.length = 32) (hkb : ∀ z ∈ key0, (Lit.int .u8 z).wf = true)  (w : World) (hT0 : Tab w 3 Sum.H0) (hT1 : Tab w 4 Sum.K) :
    Calls Tryd.prog 14 #[.agg (arr .u8 key0)] w fun e w' => e = .returned (.agg (arr .u8 (kJournal key0))) ∧ Below w.heap.size w w' := by
  have HK := Lib.hid hk
  have HKB := Lib.hid hkb
  clear hk hkb
  go_enter Tryd.func14, Tryd.ntmps14
  go_wp2_with (first
    | (refine wpList_box_Row (w := w) rfl 22 _ rfl .u8 key0 rfl HKB.out ?_; intro w1 r1 g1 z1)
    | (refine wpList_alloc_Row (w := w1) rfl 22 rfl .u8 32 zero_32 ?_; intro w2 r2 g2 z2))
  obtain ⟨ga, hga⟩ : ∃ g, w.heap.size = g := ⟨_, rfl⟩
  obtain ⟨gr, hgr⟩ : ∃ g, w1.heap.size = g := ⟨_, rfl⟩
  have k1 := r1.grown g2 (by simp)
  have b2 : Below w.heap.size w w2 := ((Below.refl _ w).grown g1 (Nat.le_refl _) (by simp)).grown g2 g1.size (by simp)
  have hgrw : w.heap.size ≤ gr := by rw [← hgr]; exact g1.size
  rw [hgr] at r2 ⊢
  have hgar : ga < gr := by rw [← hga, ← hgr]; exact r1.lt
  rw [hga] at k1 ⊢
  have HGA := Lib.hid hga
  clear hga hgr r1 g1 g2 z1 z2
  refine wp_region_held (S := fun W => Below gr w2 W) (by kernel_rfl) ?_
  change wpAnyH _ _ _ _ _ _ _ _ w2.drew
  have e0 := (Below.refl w2.heap.size w2).drew
  have hg2 : gr ≤ w2.heap.size := Nat.le_of_lt r2.lt
  have c0 := e0.mono hg2
  refine Held.take (v := .agg (arr .u8 key0)) 0 (some 3) rfl rfl (by kernel_rfl) (by kernel_rfl) (by kernel_rfl) (fun _ _ _ h => h) rfl (Held.y_load_Row (zs := key0) rfl rfl Tryd.underlying22 info_32 HK.out (fun W hW => k1.below hW hgar)) c0 ?_
  simp only [Act.put, List.setIfInBounds_toArray, List.set_cons_zero, List.set_cons_succ]
  refine Held.one 1 (by kernel_rfl) ?_
  refine Held.op_call 1 (some 4) 26 #[.slice none 0 0] rfl rfl rfl rfl (enters_of Tryd.func26 (by kernel_rfl) rfl) (by simp [Act.eval]) (order_cell none 0 0 w2.drew) ?_
  rintro e w4 ⟨bx, rfl, cb, hbx, b4⟩
  have e4 : Below w2.heap.size w2 w4 := e0.trans b4
  clear hbx
  refine ⟨_, rfl, e4.mono hg2, ?_⟩
  simp only [Act.put, List.setIfInBounds_toArray, List.set_cons_zero, List.set_cons_succ]
  refine Held.one 2 (by kernel_rfl) ?_
  refine Held.op_call 2 (some 5) 25 #[.agg (arr .u8 key0), .string ⟨#[106, 111, 117, 114, 110, 97, 108]⟩, .func (.func 37) #[] #[.pointer (some ⟨bx, 0, none⟩)]] rfl rfl rfl rfl (enters_of Tryd.func25 (by kernel_rfl) rfl) (by simp [Act.eval]) (below_any key0 HK.out HKB.out ⟨#[106, 111, 117, 114, 110, 97, 108]⟩ (by decide) bx none 0 0 [] w4 cb (Ints.nil _ _ _ _) (by omega) (hT0.below (b2.trans (e4.mono b2.size)) hT0.lt) (hT1.below (b2.trans (e4.mono b2.size)) hT1.lt)) ?_
  rintro e w5 ⟨rfl, b5⟩
  have e5 := e4.trans (b5.mono e4.size)
  have d5 := b2.trans (e5.mono b2.size)
  have n5 := r2.below e5 r2.lt
  have HO := Lib.hid (hkey_length [] key0 (textOf ⟨#[106, 111, 117, 114, 110, 97, 108]⟩ ++ eights []))
  have HW := Lib.hid (hkey_wf [] key0 (textOf ⟨#[106, 111, 117, 114, 110, 97, 108]⟩ ++ eights []))
  obtain ⟨key, hkk⟩ : ∃ key, hkey [] key0 (textOf ⟨#[106, 111, 117, 114, 110, 97, 108]⟩ ++ eights []) = key := ⟨_, rfl⟩
  rw [hkk] at HO HW ⊢
  have HKK := Lib.hid hkk
  clear hkk b5
  refine ⟨_, rfl, e5.mono hg2, ?_⟩
  simp only [Act.put, List.setIfInBounds_toArray, List.set_cons_zero, List.set_cons_succ]
  refine Held.one 3 (by kernel_rfl) ?_
  refine Held.op_store_RowL 3 none 22 gr 22 .u8 _ key rfl rfl rfl rfl rfl rfl n5 32 info_32 HO.out (by simp) HW.out ?_
  intro wz rz gz
  have ez : Below gr w2 wz := (e5.mono hg2).grown gz (Nat.le_trans hg2 e5.size) (fun r e => by cases e; exact Nat.le_refl _)
  have dz := d5.grown gz d5.size (fun r e => by cases e; exact hgrw)
  refine ⟨ez, ?_⟩
  simp only [Act.put]
  refine wpAnyH_done (by kernel_rfl) ?_ _
  clear ez gz
  go_wp2_with fail
  exact bodyPost_ret (results_Row rfl _ _ gr _ _ _ rfl rz 32 5 Tryd.underlying22 info_32 HO.out) rfl ⟨by rw [← HKK.out]; rfl, dz⟩

set_option maxRecDepth 100000 in
set_option maxHeartbeats 8000000 in
theorem job_any (key0 : List Int) (hk : key0.length = 32) (hkb : ∀ z ∈ key0, (Lit.int .u8 z).wf = true) (id : Int) (hid : (Lit.int .u64 id).wf = true) (w : World) (hT0 : Tab w 3 Sum.H0) (hT1 : Tab w 4 Sum.K) :
    Calls Tryd.prog 7 #[.agg (arr .u8 key0), .int .u64 id] w fun e w' => e = .returned (.agg (arr .u8 (kJob key0 id))) ∧ Below w.heap.size w w' := by
  have HK := Lib.hid hk
  have HKB := Lib.hid hkb
  clear hk hkb
  have hwid : ∀ z ∈ [id], (Lit.int .u64 z).wf = true := fun z hz => by rw [List.mem_singleton.1 hz]; exact hid
  go_enter Tryd.func7, Tryd.ntmps7
  go_wp2_with (first
    | (refine wpList_box_Row (w := w) rfl 22 _ rfl .u8 key0 rfl HKB.out ?_; intro w1 r1 g1 z1)
    | (refine wpList_alloc_Row (w := w1) rfl 22 rfl .u8 32 zero_32 ?_; intro w2 r2 g2 z2))
  obtain ⟨ga, hga⟩ : ∃ g, w.heap.size = g := ⟨_, rfl⟩
  obtain ⟨gr, hgr⟩ : ∃ g, w1.heap.size = g := ⟨_, rfl⟩
  have k1 := r1.grown g2 (by simp)
  have b2 : Below w.heap.size w w2 := ((Below.refl _ w).grown g1 (Nat.le_refl _) (by simp)).grown g2 g1.size (by simp)
  have hgrw : w.heap.size ≤ gr := by rw [← hgr]; exact g1.size
  rw [hgr] at r2 ⊢
  have hgar : ga < gr := by rw [← hga, ← hgr]; exact r1.lt
  rw [hga] at k1 ⊢
  have HGA := Lib.hid hga
  clear hga hgr r1 g1 g2 z1 z2
  refine wp_region_held (S := fun W => Below gr w2 W) (by kernel_rfl) ?_
  change wpAnyH _ _ _ _ _ _ _ _ w2.drew
  have e0 := (Below.refl w2.heap.size w2).drew
  have hg2 : gr ≤ w2.heap.size := Nat.le_of_lt r2.lt
  have c0 := e0.mono hg2
  refine Held.take (v := .agg (arr .u8 key0)) 0 (some 5) rfl rfl (by kernel_rfl) (by kernel_rfl) (by kernel_rfl) (fun _ _ _ h => h) rfl (Held.y_load_Row (zs := key0) rfl rfl Tryd.underlying22 info_32 HK.out (fun W hW => k1.below hW hgar)) c0 ?_
  simp only [Act.put, List.setIfInBounds_toArray, List.set_cons_zero, List.set_cons_succ]
  refine Held.take (v := .int .u64 id) 1 (some 6) rfl rfl (by kernel_rfl) (by kernel_rfl) (by kernel_rfl) (fun _ _ _ h => h) rfl (Held.y_move rfl rfl) c0 ?_
  simp only [Act.put, List.setIfInBounds_toArray, List.set_cons_zero, List.set_cons_succ]
  refine Held.one 2 (by kernel_rfl) ?_
  refine Held.op_build_Row 2 (some 7) 60 23 1 .u64 8 [id] rfl rfl rfl rfl Tryd.underlying60 info_w64 (by simp [Act.eval]) rfl (by omega) (by omega) hwid ?_
  intro p w3 r3 b3 z3
  have e3 : Below w2.heap.size w2 w3 := e0.trans b3
  refine ⟨e3.mono hg2, ?_⟩
  simp only [Act.put, List.setIfInBounds_toArray, List.set_cons_zero, List.set_cons_succ]
  refine Held.one 3 (by kernel_rfl) ?_
  refine Held.op_call 3 (some 8) 26 #[.slice (some ⟨p, 0, none⟩) 1 1] rfl rfl rfl rfl (enters_of Tryd.func26 (by kernel_rfl) rfl) (by simp [Act.eval]) (order_cell _ 1 1 w3) ?_
  rintro e w4 ⟨bx, rfl, cb, hbx, b4⟩
  have e4 := e3.trans (b4.mono e3.size)
  have r4 := r3.below b4 r3.lt
  clear hbx
  refine ⟨_, rfl, e4.mono hg2, ?_⟩
  simp only [Act.put, List.setIfInBounds_toArray, List.set_cons_zero, List.set_cons_succ]
  refine Held.one 4 (by kernel_rfl) ?_
  refine Held.op_call 4 (some 9) 25 #[.agg (arr .u8 key0), .string ⟨#[106, 111, 98]⟩, .func (.func 37) #[] #[.pointer (some ⟨bx, 0, none⟩)]] rfl rfl rfl rfl (enters_of Tryd.func25 (by kernel_rfl) rfl) (by simp [Act.eval]) (below_any key0 HK.out HKB.out ⟨#[106, 111, 98]⟩ (by decide) bx (some ⟨p, 0, none⟩) 1 1 [id] w4 cb (r4.ints (n := 1) (by simp)) (by omega) (hT0.below (b2.trans (e4.mono b2.size)) hT0.lt) (hT1.below (b2.trans (e4.mono b2.size)) hT1.lt)) ?_
  rintro e w5 ⟨rfl, b5⟩
  have e5 := e4.trans (b5.mono e4.size)
  have d5 := b2.trans (e5.mono b2.size)
  have n5 := r2.below e5 r2.lt
  have HO := Lib.hid (hkey_length [] key0 (textOf ⟨#[106, 111, 98]⟩ ++ eights [id]))
  have HW := Lib.hid (hkey_wf [] key0 (textOf ⟨#[106, 111, 98]⟩ ++ eights [id]))
  obtain ⟨key, hkk⟩ : ∃ key, hkey [] key0 (textOf ⟨#[106, 111, 98]⟩ ++ eights [id]) = key := ⟨_, rfl⟩
  rw [hkk] at HO HW ⊢
  have HKK := Lib.hid hkk
  clear hkk b5
  refine ⟨_, rfl, e5.mono hg2, ?_⟩
  simp only [Act.put, List.setIfInBounds_toArray, List.set_cons_zero, List.set_cons_succ]
  refine Held.one 5 (by kernel_rfl) ?_
  refine Held.op_store_RowL 5 none 22 gr 22 .u8 _ key rfl rfl rfl rfl rfl rfl n5 32 info_32 HO.out (by simp) HW.out ?_
  intro wz rz gz
  have ez : Below gr w2 wz := (e5.mono hg2).grown gz (Nat.le_trans hg2 e5.size) (fun r e => by cases e; exact Nat.le_refl _)
  have dz := d5.grown gz d5.size (fun r e => by cases e; exact hgrw)
  refine ⟨ez, ?_⟩
  simp only [Act.put]
  refine wpAnyH_done (by kernel_rfl) ?_ _
  clear ez gz
  go_wp2_with fail
  exact bodyPost_ret (results_Row rfl _ _ gr _ _ _ rfl rz 32 5 Tryd.underlying22 info_32 HO.out) rfl ⟨by rw [← HKK.out]; rfl, dz⟩

set_option maxRecDepth 100000 in
set_option maxHeartbeats 8000000 in
theorem sender_any (key0 : List Int) (hk : key0.length = 32) (hkb : ∀ z ∈ key0, (Lit.int .u8 z).wf = true) (from_ start : Int) (hst : (Lit.int .u64 start).wf = true) (w : World) (hT0 : Tab w 3 Sum.H0) (hT1 : Tab w 4 Sum.K) :
    Calls Tryd.prog 12 #[.agg (arr .u8 key0), .int .i64 from_, .int .u64 start] w fun e w' => e = .returned (.agg (arr .u8 (kSender key0 from_ start))) ∧ Below w.heap.size w w' := by
  have HK := Lib.hid hk
  have HKB := Lib.hid hkb
  clear hk hkb
  have hwid : ∀ z ∈ [u64 from_, start], (Lit.int .u64 z).wf = true := fun z hz => by
    rcases List.mem_cons.1 hz with rfl | hz
    · exact u64_wf _
    · rw [List.mem_singleton.1 hz]; exact hst
  go_enter Tryd.func12, Tryd.ntmps12
  go_wp2_with (first
    | (refine wpList_box_Row (w := w) rfl 22 _ rfl .u8 key0 rfl HKB.out ?_; intro w1 r1 g1 z1)
    | (refine wpList_alloc_Row (w := w1) rfl 22 rfl .u8 32 zero_32 ?_; intro w2 r2 g2 z2))
  obtain ⟨ga, hga⟩ : ∃ g, w.heap.size = g := ⟨_, rfl⟩
  obtain ⟨gr, hgr⟩ : ∃ g, w1.heap.size = g := ⟨_, rfl⟩
  have k1 := r1.grown g2 (by simp)
  have b2 : Below w.heap.size w w2 := ((Below.refl _ w).grown g1 (Nat.le_refl _) (by simp)).grown g2 g1.size (by simp)
  have hgrw : w.heap.size ≤ gr := by rw [← hgr]; exact g1.size
  rw [hgr] at r2 ⊢
  have hgar : ga < gr := by rw [← hga, ← hgr]; exact r1.lt
  rw [hga] at k1 ⊢
  have HGA := Lib.hid hga
  clear hga hgr r1 g1 g2 z1 z2
  refine wp_region_held (S := fun W => Below gr w2 W) (by kernel_rfl) ?_
  change wpAnyH _ _ _ _ _ _ _ _ w2.drew
  have e0 := (Below.refl w2.heap.size w2).drew
  have hg2 : gr ≤ w2.heap.size := Nat.le_of_lt r2.lt
  have c0 := e0.mono hg2
  refine Held.take (v := .agg (arr .u8 key0)) 0 (some 7) rfl rfl (by kernel_rfl) (by kernel_rfl) (by kernel_rfl) (fun _ _ _ h => h) rfl (Held.y_load_Row (zs := key0) rfl rfl Tryd.underlying22 info_32 HK.out (fun W hW => k1.below hW hgar)) c0 ?_
  simp only [Act.put, List.setIfInBounds_toArray, List.set_cons_zero, List.set_cons_succ]
  refine Held.take (v := .int .i64 from_) 1 (some 8) rfl rfl (by kernel_rfl) (by kernel_rfl) (by kernel_rfl) (fun _ _ _ h => h) rfl (Held.y_move rfl rfl) c0 ?_
  simp only [Act.put, List.setIfInBounds_toArray, List.set_cons_zero, List.set_cons_succ]
  refine Held.take (v := .int .u64 (u64 from_)) 2 (some 9) rfl rfl (by kernel_rfl) (by kernel_rfl) (by kernel_rfl) (fun _ _ _ h => h) rfl (Held.y_convert rfl rfl (by kernel_rfl) Tryd.underlying23 (u64_eq _)) c0 ?_
  simp only [Act.put, List.setIfInBounds_toArray, List.set_cons_zero, List.set_cons_succ]
  refine Held.take (v := .int .u64 start) 3 (some 10) rfl rfl (by kernel_rfl) (by kernel_rfl) (by kernel_rfl) (fun _ _ _ h => h) rfl (Held.y_move rfl rfl) c0 ?_
  simp only [Act.put, List.setIfInBounds_toArray, List.set_cons_zero, List.set_cons_succ]
  refine Held.one 4 (by kernel_rfl) ?_
  refine Held.op_build_Row 4 (some 11) 60 23 2 .u64 8 [u64 from_, start] rfl rfl rfl rfl Tryd.underlying60 info_w64 (by simp [Act.eval]) rfl (by omega) (by omega) hwid ?_
  intro p w3 r3 b3 z3
  have e3 : Below w2.heap.size w2 w3 := e0.trans b3
  refine ⟨e3.mono hg2, ?_⟩
  simp only [Act.put, List.setIfInBounds_toArray, List.set_cons_zero, List.set_cons_succ]
  refine Held.one 5 (by kernel_rfl) ?_
  refine Held.op_call 5 (some 12) 26 #[.slice (some ⟨p, 0, none⟩) 2 2] rfl rfl rfl rfl (enters_of Tryd.func26 (by kernel_rfl) rfl) (by simp [Act.eval]) (order_cell _ 2 2 w3) ?_
  rintro e w4 ⟨bx, rfl, cb, hbx, b4⟩
  have e4 := e3.trans (b4.mono e3.size)
  have r4 := r3.below b4 r3.lt
  clear hbx
  refine ⟨_, rfl, e4.mono hg2, ?_⟩
  simp only [Act.put, List.setIfInBounds_toArray, List.set_cons_zero, List.set_cons_succ]
  refine Held.one 6 (by kernel_rfl) ?_
  refine Held.op_call 6 (some 13) 25 #[.agg (arr .u8 key0), .string ⟨#[115, 101, 110, 100, 101, 114]⟩, .func (.func 37) #[] #[.pointer (some ⟨bx, 0, none⟩)]] rfl rfl rfl rfl (enters_of Tryd.func25 (by kernel_rfl) rfl) (by simp [Act.eval]) (below_any key0 HK.out HKB.out ⟨#[115, 101, 110, 100, 101, 114]⟩ (by decide) bx (some ⟨p, 0, none⟩) 2 2 [u64 from_, start] w4 cb (r4.ints (n := 2) (by simp)) (by omega) (hT0.below (b2.trans (e4.mono b2.size)) hT0.lt) (hT1.below (b2.trans (e4.mono b2.size)) hT1.lt)) ?_
  rintro e w5 ⟨rfl, b5⟩
  have e5 := e4.trans (b5.mono e4.size)
  have d5 := b2.trans (e5.mono b2.size)
  have n5 := r2.below e5 r2.lt
  have HO := Lib.hid (hkey_length [] key0 (textOf ⟨#[115, 101, 110, 100, 101, 114]⟩ ++ eights [u64 from_, start]))
  have HW := Lib.hid (hkey_wf [] key0 (textOf ⟨#[115, 101, 110, 100, 101, 114]⟩ ++ eights [u64 from_, start]))
  obtain ⟨key, hkk⟩ : ∃ key, hkey [] key0 (textOf ⟨#[115, 101, 110, 100, 101, 114]⟩ ++ eights [u64 from_, start]) = key := ⟨_, rfl⟩
  rw [hkk] at HO HW ⊢
  have HKK := Lib.hid hkk
  clear hkk b5
  refine ⟨_, rfl, e5.mono hg2, ?_⟩
  simp only [Act.put, List.setIfInBounds_toArray, List.set_cons_zero, List.set_cons_succ]
  refine Held.one 7 (by kernel_rfl) ?_
  refine Held.op_store_RowL 7 none 22 gr 22 .u8 _ key rfl rfl rfl rfl rfl rfl n5 32 info_32 HO.out (by simp) HW.out ?_
  intro wz rz gz
  have ez : Below gr w2 wz := (e5.mono hg2).grown gz (Nat.le_trans hg2 e5.size) (fun r e => by cases e; exact Nat.le_refl _)
  have dz := d5.grown gz d5.size (fun r e => by cases e; exact hgrw)
  refine ⟨ez, ?_⟩
  simp only [Act.put]
  refine wpAnyH_done (by kernel_rfl) ?_ _
  clear ez gz
  go_wp2_with fail
  exact bodyPost_ret (results_Row rfl _ _ gr _ _ _ rfl rz 32 5 Tryd.underlying22 info_32 HO.out) rfl ⟨by rw [← HKK.out]; rfl, dz⟩

theorem wpList_box_place {P : Program} {ops : Array Oper} {rest : List Oper} {o : Oper} {a : Act} {w : World} {Q : Exit → Act → World → Prop} (hgd : o.guard = none) (x : Operand) (ho : o.op = .box 25 x) (cs : Array Value) (hx : a.eval x = .agg cs) (hc : (Value.agg cs).cells = cs)
    (h : ∀ w', w'.heap[w.heap.size]? = some (.cells cs 25 (0, 0)) → w.grownBy w' none → wpList P ops Q rest (a.put o.dst (.pointer (some ⟨w.heap.size, 0, none⟩))) w') : wpList P ops Q (o :: rest) a w := by
  refine wpList_plain hgd fun K hK => ?_
  unfold Oper.wp execOp
  simp only [ho, hx, Sem.run_bind, Instr.box, newVar, newRow, run_newObj_alloc, Sem.run_pure, Result.andThen_ok, hc]
  exact hK _ _ (h _ (heap_alloc_new w _) (World.grownBy_alloc w _ none))

set_option maxRecDepth 100000 in
set_option maxHeartbeats 8000000 in
theorem place_any (key0 : List Int) (hk : key0.length = 32) (hkb : ∀ z ∈ key0, (Lit.int .u8 z).wf = true) (ph r a t i : Int) (w : World) (hT0 : Tab w 3 Sum.H0) (hT1 : Tab w 4 Sum.K) :
    Calls Tryd.prog 10 #[.agg (arr .u8 key0), .agg #[.int .i64 ph, .int .i64 r, .int .i64 a, .int .u64 t, .int .i64 i]] w fun e w' => e = .returned (.agg (arr .u8 (kPlace key0 ph r a))) ∧ Below w.heap.size w w' := by
  have HK := Lib.hid hk
  have HKB := Lib.hid hkb
  clear hk hkb
  go_enter Tryd.func10, Tryd.ntmps10
  go_wp2_with (first
    | (refine wpList_box_Row (w := w) rfl 22 _ rfl .u8 key0 rfl HKB.out ?_; intro w1 r1 g1 z1)
    | (refine wpList_box_place (w := w1) rfl _ rfl #[.int .i64 ph, .int .i64 r, .int .i64 a, .int .u64 t, .int .i64 i] rfl rfl ?_; intro wq rq gq)
    | (refine wpList_alloc_Row (w := wq) rfl 22 rfl .u8 32 zero_32 ?_; intro w2 r2 g2 z2))
  obtain ⟨ga, hga⟩ : ∃ g, w.heap.size = g := ⟨_, rfl⟩
  obtain ⟨gp, hgp⟩ : ∃ g, w1.heap.size = g := ⟨_, rfl⟩
  obtain ⟨gr, hgr⟩ : ∃ g, wq.heap.size = g := ⟨_, rfl⟩
  have k1 := (r1.grown gq (by simp)).grown g2 (by simp)
  have b2 : Below w.heap.size w w2 := (((Below.refl _ w).grown g1 (Nat.le_refl _) (by simp)).grown gq g1.size (by simp)).grown g2 (Nat.le_trans g1.size gq.size) (by simp)
  have hgrw : w.heap.size ≤ gr := by rw [← hgr]; exact Nat.le_trans g1.size gq.size
  have hgpr : gp < gr := by rw [← hgr]; rw [hgp] at rq; exact (Array.getElem?_eq_some_iff.1 rq).1
  have q2 := Held.keep_cells rq g2 (by simp)
  rw [hgr] at r2 ⊢
  rw [hgp] at q2 ⊢
  have hgar : ga < gr := by rw [← hga]; exact Nat.lt_of_lt_of_le r1.lt (by rw [← hgr]; exact gq.size)
  rw [hga] at k1 ⊢
  have HGA := Lib.hid hga
  clear hga hgr hgp r1 g1 gq g2 z1 z2 rq
  refine wp_region_held (S := fun W => Below gr w2 W) (by kernel_rfl) ?_
  change wpAnyH _ _ _ _ _ _ _ _ w2.drew
  have e0 := (Below.refl w2.heap.size w2).drew
  have hg2 : gr ≤ w2.heap.size := Nat.le_of_lt r2.lt
  have c0 := e0.mono hg2
  refine Held.take (v := .agg (arr .u8 key0)) 0 (some 5) rfl rfl (by kernel_rfl) (by kernel_rfl) (by kernel_rfl) (fun _ _ _ h => h) rfl (Held.y_load_Row (zs := key0) rfl rfl Tryd.underlying22 info_32 HK.out (fun W hW => k1.below hW hgar)) c0 ?_
  simp only [Act.put, List.setIfInBounds_toArray, List.set_cons_zero, List.set_cons_succ]
  refine Held.take (v := .agg #[.int .i64 ph, .int .i64 r, .int .i64 a, .int .u64 t, .int .i64 i]) 1 (some 6) rfl rfl (by kernel_rfl) (by kernel_rfl) (by kernel_rfl) (fun _ _ _ h => h) rfl (y_load_place rfl rfl rfl (fun W hW => (hW.block gp hgpr).trans q2)) c0 ?_
  simp only [Act.put, List.setIfInBounds_toArray, List.set_cons_zero, List.set_cons_succ]
  refine Held.one 2 (by kernel_rfl) ?_
  refine Held.op_call 2 (some 7) 27 #[.agg #[.int .i64 ph, .int .i64 r, .int .i64 a, .int .u64 t, .int .i64 i]] rfl rfl rfl rfl (enters_of Tryd.func27 (by kernel_rfl) rfl) (by simp [Act.eval]) (spot_any ph r a t i w2.drew) ?_
  rintro e w4 ⟨bx, p, rfl, cb, r4, hp1, hp2, b4⟩
  have e4 : Below w2.heap.size w2 w4 := e0.trans b4
  clear hp1 hp2
  refine ⟨_, rfl, e4.mono hg2, ?_⟩
  simp only [Act.put, List.setIfInBounds_toArray, List.set_cons_zero, List.set_cons_succ]
  refine Held.one 3 (by kernel_rfl) ?_
  refine Held.op_call 3 (some 8) 25 #[.agg (arr .u8 key0), .string ⟨#[112, 108, 97, 99, 101]⟩, .func (.func 37) #[] #[.pointer (some ⟨bx, 0, none⟩)]] rfl rfl rfl rfl (enters_of Tryd.func25 (by kernel_rfl) rfl) (by simp [Act.eval]) (below_any key0 HK.out HKB.out ⟨#[112, 108, 97, 99, 101]⟩ (by decide) bx (some ⟨p, 0, none⟩) 3 3 [u64 ph, u64 r, u64 a] w4 cb (r4.ints (n := 3) (by simp)) (by omega) (hT0.below (b2.trans (e4.mono b2.size)) hT0.lt) (hT1.below (b2.trans (e4.mono b2.size)) hT1.lt)) ?_
  rintro e w5 ⟨rfl, b5⟩
  have e5 := e4.trans (b5.mono e4.size)
  have d5 := b2.trans (e5.mono b2.size)
  have n5 := r2.below e5 r2.lt
  have HO := Lib.hid (hkey_length [] key0 (textOf ⟨#[112, 108, 97, 99, 101]⟩ ++ eights [u64 ph, u64 r, u64 a]))
  have HW := Lib.hid (hkey_wf [] key0 (textOf ⟨#[112, 108, 97, 99, 101]⟩ ++ eights [u64 ph, u64 r, u64 a]))
  obtain ⟨key, hkk⟩ : ∃ key, hkey [] key0 (textOf ⟨#[112, 108, 97, 99, 101]⟩ ++ eights [u64 ph, u64 r, u64 a]) = key := ⟨_, rfl⟩
  rw [hkk] at HO HW ⊢
  have HKK := Lib.hid hkk
  clear hkk b5
  refine ⟨_, rfl, e5.mono hg2, ?_⟩
  simp only [Act.put, List.setIfInBounds_toArray, List.set_cons_zero, List.set_cons_succ]
  refine Held.one 4 (by kernel_rfl) ?_
  refine Held.op_store_RowL 4 none 22 gr 22 .u8 _ key rfl rfl rfl rfl rfl rfl n5 32 info_32 HO.out (by simp) HW.out ?_
  intro wz rz gz
  have ez : Below gr w2 wz := (e5.mono hg2).grown gz (Nat.le_trans hg2 e5.size) (fun r e => by cases e; exact Nat.le_refl _)
  have dz := d5.grown gz d5.size (fun r e => by cases e; exact hgrw)
  refine ⟨ez, ?_⟩
  simp only [Act.put]
  refine wpAnyH_done (by kernel_rfl) ?_ _
  clear ez gz
  go_wp2_with fail
  exact bodyPost_ret (results_Row rfl _ _ gr _ _ _ rfl rz 32 5 Tryd.underlying22 info_32 HO.out) rfl ⟨by rw [← HKK.out]; rfl, dz⟩

end Go.Proofs.YtoelgcdjhekafaaDoor.Ky
namespace Go.Proofs.YtoelgcdjhekafaaDoor.Ky
open Go.RowKit Go.Shelf Go.Proofs.YtoelgcdjhekafaaDoor.Mem Go.Proofs.YtoelgcdjhekafaaDoor.Help Go.Proofs.YtoelgcdjhekafaaDoor.Po Go.Proofs.YtoelgcdjhekafaaDoor
set_option linter.unusedVariables false
attribute [local irreducible] wpList wpListIn Calls

/-- a place's name -/
def nameU (ph r a : Int) (t : Nat) (i : Int) : List UInt8 := [112] ++ Lib.itoa ph ++ [46, 114] ++ Lib.itoa r ++ [46, 97] ++ Lib.itoa a ++ [46, 116] ++ Lib.decDigits t ++ [46, 105] ++ Lib.itoa i
/-- a number that an int holds -/
def I64 (x : Int) : Prop := -9223372036854775808 ≤ x ∧ x ≤ 9223372036854775807
theorem i64_of {x : Int} (h : (Lit.int .i64 x).wf = true) : I64 x := wf_i64 h
theorem nameU_length (ph r a : Int) (t : Nat) (i : Int) (h1 : I64 ph) (h2 : I64 r) (h3 : I64 a) (h4 : t < 18446744073709551616) (h5 : I64 i) : (nameU ph r a t i).length ≤ 200 := by
  have l1 := itoa_length ph h1
  have l2 := itoa_length r h2
  have l3 := itoa_length a h3
  have l4 := dec_length t h4
  have l5 := itoa_length i h5
  simp [nameU]
  omega

set_option maxRecDepth 100000 in
set_option maxHeartbeats 8000000 in
theorem name_any (ph r a : Int) (t : Nat) (i : Int) (h1 : I64 ph) (h2 : I64 r) (h3 : I64 a) (h4 : t < 18446744073709551616) (h5 : I64 i) (w : World) (hP : Pow w) :
    Calls Tryd.prog 21 #[.agg #[.int .i64 ph, .int .i64 r, .int .i64 a, .int .u64 (t : Int), .int .i64 i]] w fun e w' => e = .returned (.string ⟨(nameU ph r a t i).toArray⟩) ∧ Below w.heap.size w w' := by
  have l1 := itoa_length ph h1
  have l2 := itoa_length r h2
  have l3 := itoa_length a h3
  have l4 := dec_length t h4
  have l5 := itoa_length i h5
  obtain ⟨n1, e1⟩ : ∃ l, [112] ++ Lib.itoa ph = l := ⟨_, rfl⟩
  have m1 : n1.length ≤ 22 := by rw [← e1]; simp; omega
  obtain ⟨n2, e2⟩ : ∃ l, n1 ++ [46, 114] = l := ⟨_, rfl⟩
  have m2 : n2.length ≤ 24 := by rw [← e2]; simp; omega
  obtain ⟨n3, e3⟩ : ∃ l, n2 ++ Lib.itoa r = l := ⟨_, rfl⟩
  have m3 : n3.length ≤ 45 := by rw [← e3]; simp; omega
  obtain ⟨n4, e4⟩ : ∃ l, n3 ++ [46, 97] = l := ⟨_, rfl⟩
  have m4 : n4.length ≤ 47 := by rw [← e4]; simp; omega
  obtain ⟨n5, e5⟩ : ∃ l, n4 ++ Lib.itoa a = l := ⟨_, rfl⟩
  have m5 : n5.length ≤ 68 := by rw [← e5]; simp; omega
  obtain ⟨n6, e6⟩ : ∃ l, n5 ++ [46, 116] = l := ⟨_, rfl⟩
  have m6 : n6.length ≤ 70 := by rw [← e6]; simp; omega
  obtain ⟨n7, e7⟩ : ∃ l, n6 ++ Lib.decDigits t = l := ⟨_, rfl⟩
  have m7 : n7.length ≤ 90 := by rw [← e7]; simp; omega
  obtain ⟨n8, e8⟩ : ∃ l, n7 ++ [46, 105] = l := ⟨_, rfl⟩
  have m8 : n8.length ≤ 92 := by rw [← e8]; simp; omega
  obtain ⟨n9, e9⟩ : ∃ l, n8 ++ Lib.itoa i = l := ⟨_, rfl⟩
  have m9 : n9.length ≤ 113 := by rw [← e9]; simp; omega
  have E1 := Lib.hid e1
  have M1 := Lib.hid (Nat.le_trans m1 (show _ ≤ 1048576 by omega))
  have E2 := Lib.hid e2
  have M2 := Lib.hid (Nat.le_trans m2 (show _ ≤ 1048576 by omega))
  have E3 := Lib.hid e3
  have M3 := Lib.hid (Nat.le_trans m3 (show _ ≤ 1048576 by omega))
  have E4 := Lib.hid e4
  have M4 := Lib.hid (Nat.le_trans m4 (show _ ≤ 1048576 by omega))
  have E5 := Lib.hid e5
  have M5 := Lib.hid (Nat.le_trans m5 (show _ ≤ 1048576 by omega))
  have E6 := Lib.hid e6
  have M6 := Lib.hid (Nat.le_trans m6 (show _ ≤ 1048576 by omega))
  have E7 := Lib.hid e7
  have M7 := Lib.hid (Nat.le_trans m7 (show _ ≤ 1048576 by omega))
  have E8 := Lib.hid e8
  have M8 := Lib.hid (Nat.le_trans m8 (show _ ≤ 1048576 by omega))
  have E9 := Lib.hid e9
  have M9 := Lib.hid (Nat.le_trans m9 (show _ ≤ 1048576 by omega))
  have HN := Lib.hid (show nameU ph r a t i = n9 by rw [← e9, ← e8, ← e7, ← e6, ← e5, ← e4, ← e3, ← e2, ← e1]; rfl)
  clear e1 m1 e2 m2 e3 m3 e4 m4 e5 m5 e6 m6 e7 m7 e8 m8 e9 m9 l1 l2 l3 l4 l5
  go_enter Tryd.func21, Tryd.ntmps21
  go_wp2_with (refine wpList_box_place (w := w) rfl _ rfl #[.int .i64 ph, .int .i64 r, .int .i64 a, .int .u64 (t : Int), .int .i64 i] rfl rfl ?_; intro w1 q1 g1)
  have bw : Below w.heap.size w w1 := (Below.refl _ w).grown g1 (Nat.le_refl _) (by simp)
  obtain ⟨bp, hbe⟩ : ∃ b, w.heap.size = b := ⟨_, rfl⟩
  rw [hbe] at q1 ⊢
  have hbp : bp < w1.heap.size := (Array.getElem?_eq_some_iff.1 q1).1
  have f0 : w1.cell? ⟨bp, 0, none⟩ = some (.int .i64 ph) := by rw [cell_of_row w1 bp 0 _ _ _ q1]; rfl
  have f1 : w1.cell? ⟨bp, 1, none⟩ = some (.int .i64 r) := by rw [cell_of_row w1 bp 1 _ _ _ q1]; rfl
  have f2 : w1.cell? ⟨bp, 2, none⟩ = some (.int .i64 a) := by rw [cell_of_row w1 bp 2 _ _ _ q1]; rfl
  have f3 : w1.cell? ⟨bp, 3, none⟩ = some (.int .u64 (t : Int)) := by rw [cell_of_row w1 bp 3 _ _ _ q1]; rfl
  have f4 : w1.cell? ⟨bp, 4, none⟩ = some (.int .i64 i) := by rw [cell_of_row w1 bp 4 _ _ _ q1]; rfl
  have HBE := Lib.hid hbe
  have hPw := hP.below bw hP.lt
  clear hbe g1 q1
  refine wp_region_held (S := fun W => Below w1.heap.size w1 W) (by kernel_rfl) ?_
  change wpAnyH _ _ _ _ _ _ _ _ w1.drew
  have c0_0 := (Below.refl w1.heap.size w1).drew
  refine Held.take (v := .pointer (some ⟨bp, 0, none⟩)) 0 (some 3) rfl rfl (by kernel_rfl) (by kernel_rfl) (by kernel_rfl) (fun _ _ _ h => h) rfl (y_place (by omega) rfl rfl) c0_0 ?_
  simp only [Act.put, List.setIfInBounds_toArray, List.set_cons_zero, List.set_cons_succ]
  refine Held.take (v := .int .i64 ph) 1 (some 4) rfl rfl (by kernel_rfl) (by kernel_rfl) (by kernel_rfl) (fun _ _ _ h => h) rfl (Held.y_load rfl rfl (by kernel_rfl) (fun W hW => (hW.cell (p := ⟨bp, 0, none⟩) hbp).trans f0)) c0_0 ?_
  simp only [Act.put, List.setIfInBounds_toArray, List.set_cons_zero, List.set_cons_succ]
  refine Held.take (v := .pointer (some ⟨bp, 1, none⟩)) 5 (some 8) rfl rfl (by kernel_rfl) (by kernel_rfl) (by kernel_rfl) (fun _ _ _ h => h) rfl (y_place (by omega) rfl rfl) c0_0 ?_
  simp only [Act.put, List.setIfInBounds_toArray, List.set_cons_zero, List.set_cons_succ]
  refine Held.take (v := .int .i64 r) 6 (some 9) rfl rfl (by kernel_rfl) (by kernel_rfl) (by kernel_rfl) (fun _ _ _ h => h) rfl (Held.y_load rfl rfl (by kernel_rfl) (fun W hW => (hW.cell (p := ⟨bp, 1, none⟩) hbp).trans f1)) c0_0 ?_
  simp only [Act.put, List.setIfInBounds_toArray, List.set_cons_zero, List.set_cons_succ]
  refine Held.take (v := .pointer (some ⟨bp, 2, none⟩)) 10 (some 13) rfl rfl (by kernel_rfl) (by kernel_rfl) (by kernel_rfl) (fun _ _ _ h => h) rfl (y_place (by omega) rfl rfl) c0_0 ?_
  simp only [Act.put, List.setIfInBounds_toArray, List.set_cons_zero, List.set_cons_succ]
  refine Held.take (v := .int .i64 a) 11 (some 14) rfl rfl (by kernel_rfl) (by kernel_rfl) (by kernel_rfl) (fun _ _ _ h => h) rfl (Held.y_load rfl rfl (by kernel_rfl) (fun W hW => (hW.cell (p := ⟨bp, 2, none⟩) hbp).trans f2)) c0_0 ?_
  simp only [Act.put, List.setIfInBounds_toArray, List.set_cons_zero, List.set_cons_succ]
  refine Held.take (v := .pointer (some ⟨bp, 3, none⟩)) 15 (some 18) rfl rfl (by kernel_rfl) (by kernel_rfl) (by kernel_rfl) (fun _ _ _ h => h) rfl (y_place (by omega) rfl rfl) c0_0 ?_
  simp only [Act.put, List.setIfInBounds_toArray, List.set_cons_zero, List.set_cons_succ]
  refine Held.take (v := .int .u64 (t : Int)) 16 (some 19) rfl rfl (by kernel_rfl) (by kernel_rfl) (by kernel_rfl) (fun _ _ _ h => h) rfl (Held.y_load rfl rfl (by kernel_rfl) (fun W hW => (hW.cell (p := ⟨bp, 3, none⟩) hbp).trans f3)) c0_0 ?_
  simp only [Act.put, List.setIfInBounds_toArray, List.set_cons_zero, List.set_cons_succ]
  refine Held.take (v := .pointer (some ⟨bp, 4, none⟩)) 20 (some 23) rfl rfl (by kernel_rfl) (by kernel_rfl) (by kernel_rfl) (fun _ _ _ h => h) rfl (y_place (by omega) rfl rfl) c0_0 ?_
  simp only [Act.put, List.setIfInBounds_toArray, List.set_cons_zero, List.set_cons_succ]
  refine Held.take (v := .int .i64 i) 21 (some 24) rfl rfl (by kernel_rfl) (by kernel_rfl) (by kernel_rfl) (fun _ _ _ h => h) rfl (Held.y_load rfl rfl (by kernel_rfl) (fun W hW => (hW.cell (p := ⟨bp, 4, none⟩) hbp).trans f4)) c0_0 ?_
  simp only [Act.put, List.setIfInBounds_toArray, List.set_cons_zero, List.set_cons_succ]
  refine Held.one 2 (by kernel_rfl) ?_
  refine Held.op_call 2 (some 5) 30 #[.int .i64 ph] rfl rfl rfl rfl (enters_of Tryd.func30 (by kernel_rfl) rfl) (by simp [Act.eval]) (itoa_any ph h1 w1.drew (hPw.below c0_0 hPw.lt)) ?_
  rintro e w2 ⟨rfl, b1⟩
  have c0_1 := c0_0.trans (b1.mono c0_0.size)
  refine ⟨_, rfl, c0_1, ?_⟩
  simp only [Act.put, List.setIfInBounds_toArray, List.set_cons_zero, List.set_cons_succ]
  refine Held.take (v := .string ⟨n1.toArray⟩) 3 (some 6) rfl rfl (by kernel_rfl) (by kernel_rfl) (by kernel_rfl) (fun _ _ _ h => h) rfl (y_cat rfl rfl rfl E1.out M1.out) c0_1 ?_
  simp only [Act.put, List.setIfInBounds_toArray, List.set_cons_zero, List.set_cons_succ]
  refine Held.take (v := .string ⟨n2.toArray⟩) 4 (some 7) rfl rfl (by kernel_rfl) (by kernel_rfl) (by kernel_rfl) (fun _ _ _ h => h) rfl (y_cat rfl rfl rfl E2.out M2.out) c0_1 ?_
  simp only [Act.put, List.setIfInBounds_toArray, List.set_cons_zero, List.set_cons_succ]
  refine Held.one 7 (by kernel_rfl) ?_
  refine Held.op_call 7 (some 10) 30 #[.int .i64 r] rfl rfl rfl rfl (enters_of Tryd.func30 (by kernel_rfl) rfl) (by simp [Act.eval]) (itoa_any r h2 w2 (hPw.below c0_1 hPw.lt)) ?_
  rintro e w3 ⟨rfl, b2⟩
  have c0_2 := c0_1.trans (b2.mono c0_1.size)
  refine ⟨_, rfl, c0_2, ?_⟩
  simp only [Act.put, List.setIfInBounds_toArray, List.set_cons_zero, List.set_cons_succ]
  refine Held.take (v := .string ⟨n3.toArray⟩) 8 (some 11) rfl rfl (by kernel_rfl) (by kernel_rfl) (by kernel_rfl) (fun _ _ _ h => h) rfl (y_cat rfl rfl rfl E3.out M3.out) c0_2 ?_
  simp only [Act.put, List.setIfInBounds_toArray, List.set_cons_zero, List.set_cons_succ]
  refine Held.take (v := .string ⟨n4.toArray⟩) 9 (some 12) rfl rfl (by kernel_rfl) (by kernel_rfl) (by kernel_rfl) (fun _ _ _ h => h) rfl (y_cat rfl rfl rfl E4.out M4.out) c0_2 ?_
  simp only [Act.put, List.setIfInBounds_toArray, List.set_cons_zero, List.set_cons_succ]
  refine Held.one 12 (by kernel_rfl) ?_
  refine Held.op_call 12 (some 15) 30 #[.int .i64 a] rfl rfl rfl rfl (enters_of Tryd.func30 (by kernel_rfl) rfl) (by simp [Act.eval]) (itoa_any a h3 w3 (hPw.below c0_2 hPw.lt)) ?_
  rintro e w4 ⟨rfl, b3⟩
  have c0_3 := c0_2.trans (b3.mono c0_2.size)
  refine ⟨_, rfl, c0_3, ?_⟩
  simp only [Act.put, List.setIfInBounds_toArray, List.set_cons_zero, List.set_cons_succ]
  refine Held.take (v := .string ⟨n5.toArray⟩) 13 (some 16) rfl rfl (by kernel_rfl) (by kernel_rfl) (by kernel_rfl) (fun _ _ _ h => h) rfl (y_cat rfl rfl rfl E5.out M5.out) c0_3 ?_
  simp only [Act.put, List.setIfInBounds_toArray, List.set_cons_zero, List.set_cons_succ]
  refine Held.take (v := .string ⟨n6.toArray⟩) 14 (some 17) rfl rfl (by kernel_rfl) (by kernel_rfl) (by kernel_rfl) (fun _ _ _ h => h) rfl (y_cat rfl rfl rfl E6.out M6.out) c0_3 ?_
  simp only [Act.put, List.setIfInBounds_toArray, List.set_cons_zero, List.set_cons_succ]
  refine Held.one 17 (by kernel_rfl) ?_
  refine Held.op_call 17 (some 20) 31 #[.int .u64 (t : Int), .int .i64 10] rfl rfl rfl rfl (enters_of Tryd.func31 (by kernel_rfl) rfl) (by simp [Act.eval]) (fuint_any t h4 w4 (hPw.below c0_3 hPw.lt)) ?_
  rintro e w5 ⟨rfl, b4⟩
  have c0_4 := c0_3.trans (b4.mono c0_3.size)
  refine ⟨_, rfl, c0_4, ?_⟩
  simp only [Act.put, List.setIfInBounds_toArray, List.set_cons_zero, List.set_cons_succ]
  refine Held.take (v := .string ⟨n7.toArray⟩) 18 (some 21) rfl rfl (by kernel_rfl) (by kernel_rfl) (by kernel_rfl) (fun _ _ _ h => h) rfl (y_cat rfl rfl rfl E7.out M7.out) c0_4 ?_
  simp only [Act.put, List.setIfInBounds_toArray, List.set_cons_zero, List.set_cons_succ]
  refine Held.take (v := .string ⟨n8.toArray⟩) 19 (some 22) rfl rfl (by kernel_rfl) (by kernel_rfl) (by kernel_rfl) (fun _ _ _ h => h) rfl (y_cat rfl rfl rfl E8.out M8.out) c0_4 ?_
  simp only [Act.put, List.setIfInBounds_toArray, List.set_cons_zero, List.set_cons_succ]
  refine Held.one 22 (by kernel_rfl) ?_
  refine Held.op_call 22 (some 25) 30 #[.int .i64 i] rfl rfl rfl rfl (enters_of Tryd.func30 (by kernel_rfl) rfl) (by simp [Act.eval]) (itoa_any i h5 w5 (hPw.below c0_4 hPw.lt)) ?_
  rintro e w6 ⟨rfl, b5⟩
  have c0_5 := c0_4.trans (b5.mono c0_4.size)
  refine ⟨_, rfl, c0_5, ?_⟩
  simp only [Act.put, List.setIfInBounds_toArray, List.set_cons_zero, List.set_cons_succ]
  refine Held.take (v := .string ⟨n9.toArray⟩) 23 (some 26) rfl rfl (by kernel_rfl) (by kernel_rfl) (by kernel_rfl) (fun _ _ _ h => h) rfl (y_cat rfl rfl rfl E9.out M9.out) c0_5 ?_
  simp only [Act.put, List.setIfInBounds_toArray, List.set_cons_zero, List.set_cons_succ]
  refine Held.take (v := .string ⟨n9.toArray⟩) 24 (some 2) rfl rfl (by kernel_rfl) (by kernel_rfl) (by kernel_rfl) (fun _ _ _ h => h) rfl (Held.y_assign rfl rfl) c0_5 ?_
  simp only [Act.put, List.setIfInBounds_toArray, List.set_cons_zero, List.set_cons_succ]
  refine wpAnyH_done (by kernel_rfl) ?_ _
  have dz := bw.trans (c0_5.mono bw.size)
  go_wp2_with fail
  go_ret
  exact ⟨by rw [HN.out]; rfl, dz⟩

set_option maxRecDepth 100000 in
set_option maxHeartbeats 8000000 in
theorem rname_any (ph r a : Int) (t : Nat) (i : Int) (h1 : I64 ph) (h2 : I64 r) (h3 : I64 a) (h4 : t < 18446744073709551616) (h5 : I64 i) (w : World) :
    Calls Tryd.prog 22 #[.agg #[.int .i64 ph, .int .i64 r, .int .i64 a, .int .u64 (t : Int), .int .i64 i]] w fun e w' => e = .returned (.string ⟨(nameU ph r a t i).toArray⟩) ∧ Below w.heap.size w w' := by
  have l1 := itoa_length ph h1
  have l2 := itoa_length r h2
  have l3 := itoa_length a h3
  have l4 := dec_length t h4
  have l5 := itoa_length i h5
  obtain ⟨n1, e1⟩ : ∃ l, [112] ++ Lib.itoa ph = l := ⟨_, rfl⟩
  have m1 : n1.length ≤ 22 := by rw [← e1]; simp; omega
  obtain ⟨n2, e2⟩ : ∃ l, n1 ++ [46, 114] = l := ⟨_, rfl⟩
  have m2 : n2.length ≤ 24 := by rw [← e2]; simp; omega
  obtain ⟨n3, e3⟩ : ∃ l, n2 ++ Lib.itoa r = l := ⟨_, rfl⟩
  have m3 : n3.length ≤ 45 := by rw [← e3]; simp; omega
  obtain ⟨n4, e4⟩ : ∃ l, n3 ++ [46, 97] = l := ⟨_, rfl⟩
  have m4 : n4.length ≤ 47 := by rw [← e4]; simp; omega
  obtain ⟨n5, e5⟩ : ∃ l, n4 ++ Lib.itoa a = l := ⟨_, rfl⟩
  have m5 : n5.length ≤ 68 := by rw [← e5]; simp; omega
  obtain ⟨n6, e6⟩ : ∃ l, n5 ++ [46, 116] = l := ⟨_, rfl⟩
  have m6 : n6.length ≤ 70 := by rw [← e6]; simp; omega
  obtain ⟨n7, e7⟩ : ∃ l, n6 ++ Lib.decDigits t = l := ⟨_, rfl⟩
  have m7 : n7.length ≤ 90 := by rw [← e7]; simp; omega
  obtain ⟨n8, e8⟩ : ∃ l, n7 ++ [46, 105] = l := ⟨_, rfl⟩
  have m8 : n8.length ≤ 92 := by rw [← e8]; simp; omega
  obtain ⟨n9, e9⟩ : ∃ l, n8 ++ Lib.itoa i = l := ⟨_, rfl⟩
  have m9 : n9.length ≤ 113 := by rw [← e9]; simp; omega
  have E1 := Lib.hid e1
  have M1 := Lib.hid (Nat.le_trans m1 (show _ ≤ 1048576 by omega))
  have E2 := Lib.hid e2
  have M2 := Lib.hid (Nat.le_trans m2 (show _ ≤ 1048576 by omega))
  have E3 := Lib.hid e3
  have M3 := Lib.hid (Nat.le_trans m3 (show _ ≤ 1048576 by omega))
  have E4 := Lib.hid e4
  have M4 := Lib.hid (Nat.le_trans m4 (show _ ≤ 1048576 by omega))
  have E5 := Lib.hid e5
  have M5 := Lib.hid (Nat.le_trans m5 (show _ ≤ 1048576 by omega))
  have E6 := Lib.hid e6
  have M6 := Lib.hid (Nat.le_trans m6 (show _ ≤ 1048576 by omega))
  have E7 := Lib.hid e7
  have M7 := Lib.hid (Nat.le_trans m7 (show _ ≤ 1048576 by omega))
  have E8 := Lib.hid e8
  have M8 := Lib.hid (Nat.le_trans m8 (show _ ≤ 1048576 by omega))
  have E9 := Lib.hid e9
  have M9 := Lib.hid (Nat.le_trans m9 (show _ ≤ 1048576 by omega))
  have HN := Lib.hid (show nameU ph r a t i = n9 by rw [← e9, ← e8, ← e7, ← e6, ← e5, ← e4, ← e3, ← e2, ← e1]; rfl)
  clear e1 m1 e2 m2 e3 m3 e4 m4 e5 m5 e6 m6 e7 m7 e8 m8 e9 m9 l1 l2 l3 l4 l5
  go_enter Tryd.func22, Tryd.ntmps22
  go_wp2_with (refine wpList_box_place (w := w) rfl _ rfl #[.int .i64 ph, .int .i64 r, .int .i64 a, .int .u64 (t : Int), .int .i64 i] rfl rfl ?_; intro w1 q1 g1)
  have bw : Below w.heap.size w w1 := (Below.refl _ w).grown g1 (Nat.le_refl _) (by simp)
  obtain ⟨bp, hbe⟩ : ∃ b, w.heap.size = b := ⟨_, rfl⟩
  rw [hbe] at q1 ⊢
  have hbp : bp < w1.heap.size := (Array.getElem?_eq_some_iff.1 q1).1
  have f0 : w1.cell? ⟨bp, 0, none⟩ = some (.int .i64 ph) := by rw [cell_of_row w1 bp 0 _ _ _ q1]; rfl
  have f1 : w1.cell? ⟨bp, 1, none⟩ = some (.int .i64 r) := by rw [cell_of_row w1 bp 1 _ _ _ q1]; rfl
  have f2 : w1.cell? ⟨bp, 2, none⟩ = some (.int .i64 a) := by rw [cell_of_row w1 bp 2 _ _ _ q1]; rfl
  have f3 : w1.cell? ⟨bp, 3, none⟩ = some (.int .u64 (t : Int)) := by rw [cell_of_row w1 bp 3 _ _ _ q1]; rfl
  have f4 : w1.cell? ⟨bp, 4, none⟩ = some (.int .i64 i) := by rw [cell_of_row w1 bp 4 _ _ _ q1]; rfl
  have HBE := Lib.hid hbe
  clear hbe g1 q1
  refine wp_region_held (S := fun W => Below w1.heap.size w1 W) (by kernel_rfl) ?_
  change wpAnyH _ _ _ _ _ _ _ _ w1.drew
  have c0_0 := (Below.refl w1.heap.size w1).drew
  refine Held.take (v := .pointer (some ⟨bp, 0, none⟩)) 0 (some 3) rfl rfl (by kernel_rfl) (by kernel_rfl) (by kernel_rfl) (fun _ _ _ h => h) rfl (y_place (by omega) rfl rfl) c0_0 ?_
  simp only [Act.put, List.setIfInBounds_toArray, List.set_cons_zero, List.set_cons_succ]
  refine Held.take (v := .int .i64 ph) 1 (some 4) rfl rfl (by kernel_rfl) (by kernel_rfl) (by kernel_rfl) (fun _ _ _ h => h) rfl (Held.y_load rfl rfl (by kernel_rfl) (fun W hW => (hW.cell (p := ⟨bp, 0, none⟩) hbp).trans f0)) c0_0 ?_
  simp only [Act.put, List.setIfInBounds_toArray, List.set_cons_zero, List.set_cons_succ]
  refine Held.take (v := .pointer (some ⟨bp, 1, none⟩)) 5 (some 8) rfl rfl (by kernel_rfl) (by kernel_rfl) (by kernel_rfl) (fun _ _ _ h => h) rfl (y_place (by omega) rfl rfl) c0_0 ?_
  simp only [Act.put, List.setIfInBounds_toArray, List.set_cons_zero, List.set_cons_succ]
  refine Held.take (v := .int .i64 r) 6 (some 9) rfl rfl (by kernel_rfl) (by kernel_rfl) (by kernel_rfl) (fun _ _ _ h => h) rfl (Held.y_load rfl rfl (by kernel_rfl) (fun W hW => (hW.cell (p := ⟨bp, 1, none⟩) hbp).trans f1)) c0_0 ?_
  simp only [Act.put, List.setIfInBounds_toArray, List.set_cons_zero, List.set_cons_succ]
  refine Held.take (v := .pointer (some ⟨bp, 2, none⟩)) 10 (some 13) rfl rfl (by kernel_rfl) (by kernel_rfl) (by kernel_rfl) (fun _ _ _ h => h) rfl (y_place (by omega) rfl rfl) c0_0 ?_
  simp only [Act.put, List.setIfInBounds_toArray, List.set_cons_zero, List.set_cons_succ]
  refine Held.take (v := .int .i64 a) 11 (some 14) rfl rfl (by kernel_rfl) (by kernel_rfl) (by kernel_rfl) (fun _ _ _ h => h) rfl (Held.y_load rfl rfl (by kernel_rfl) (fun W hW => (hW.cell (p := ⟨bp, 2, none⟩) hbp).trans f2)) c0_0 ?_
  simp only [Act.put, List.setIfInBounds_toArray, List.set_cons_zero, List.set_cons_succ]
  refine Held.take (v := .pointer (some ⟨bp, 3, none⟩)) 15 (some 18) rfl rfl (by kernel_rfl) (by kernel_rfl) (by kernel_rfl) (fun _ _ _ h => h) rfl (y_place (by omega) rfl rfl) c0_0 ?_
  simp only [Act.put, List.setIfInBounds_toArray, List.set_cons_zero, List.set_cons_succ]
  refine Held.take (v := .int .u64 (t : Int)) 16 (some 19) rfl rfl (by kernel_rfl) (by kernel_rfl) (by kernel_rfl) (fun _ _ _ h => h) rfl (Held.y_load rfl rfl (by kernel_rfl) (fun W hW => (hW.cell (p := ⟨bp, 3, none⟩) hbp).trans f3)) c0_0 ?_
  simp only [Act.put, List.setIfInBounds_toArray, List.set_cons_zero, List.set_cons_succ]
  refine Held.take (v := .pointer (some ⟨bp, 4, none⟩)) 20 (some 23) rfl rfl (by kernel_rfl) (by kernel_rfl) (by kernel_rfl) (fun _ _ _ h => h) rfl (y_place (by omega) rfl rfl) c0_0 ?_
  simp only [Act.put, List.setIfInBounds_toArray, List.set_cons_zero, List.set_cons_succ]
  refine Held.take (v := .int .i64 i) 21 (some 24) rfl rfl (by kernel_rfl) (by kernel_rfl) (by kernel_rfl) (fun _ _ _ h => h) rfl (Held.y_load rfl rfl (by kernel_rfl) (fun W hW => (hW.cell (p := ⟨bp, 4, none⟩) hbp).trans f4)) c0_0 ?_
  simp only [Act.put, List.setIfInBounds_toArray, List.set_cons_zero, List.set_cons_succ]
  refine Held.one 2 (by kernel_rfl) ?_
  refine Held.op_call 2 (some 5) 32 #[.int .i64 ph] rfl rfl rfl rfl (enters_of Tryd.func32 (by kernel_rfl) rfl) (by simp [Act.eval]) (number_any ph h1 w1.drew) ?_
  rintro e w2 ⟨rfl, b1⟩
  have c0_1 := c0_0.trans (b1.mono c0_0.size)
  refine ⟨_, rfl, c0_1, ?_⟩
  simp only [Act.put, List.setIfInBounds_toArray, List.set_cons_zero, List.set_cons_succ]
  refine Held.take (v := .string ⟨n1.toArray⟩) 3 (some 6) rfl rfl (by kernel_rfl) (by kernel_rfl) (by kernel_rfl) (fun _ _ _ h => h) rfl (y_cat rfl rfl rfl E1.out M1.out) c0_1 ?_
  simp only [Act.put, List.setIfInBounds_toArray, List.set_cons_zero, List.set_cons_succ]
  refine Held.take (v := .string ⟨n2.toArray⟩) 4 (some 7) rfl rfl (by kernel_rfl) (by kernel_rfl) (by kernel_rfl) (fun _ _ _ h => h) rfl (y_cat rfl rfl rfl E2.out M2.out) c0_1 ?_
  simp only [Act.put, List.setIfInBounds_toArray, List.set_cons_zero, List.set_cons_succ]
  refine Held.one 7 (by kernel_rfl) ?_
  refine Held.op_call 7 (some 10) 32 #[.int .i64 r] rfl rfl rfl rfl (enters_of Tryd.func32 (by kernel_rfl) rfl) (by simp [Act.eval]) (number_any r h2 w2) ?_
  rintro e w3 ⟨rfl, b2⟩
  have c0_2 := c0_1.trans (b2.mono c0_1.size)
  refine ⟨_, rfl, c0_2, ?_⟩
  simp only [Act.put, List.setIfInBounds_toArray, List.set_cons_zero, List.set_cons_succ]
  refine Held.take (v := .string ⟨n3.toArray⟩) 8 (some 11) rfl rfl (by kernel_rfl) (by kernel_rfl) (by kernel_rfl) (fun _ _ _ h => h) rfl (y_cat rfl rfl rfl E3.out M3.out) c0_2 ?_
  simp only [Act.put, List.setIfInBounds_toArray, List.set_cons_zero, List.set_cons_succ]
  refine Held.take (v := .string ⟨n4.toArray⟩) 9 (some 12) rfl rfl (by kernel_rfl) (by kernel_rfl) (by kernel_rfl) (fun _ _ _ h => h) rfl (y_cat rfl rfl rfl E4.out M4.out) c0_2 ?_
  simp only [Act.put, List.setIfInBounds_toArray, List.set_cons_zero, List.set_cons_succ]
  refine Held.one 12 (by kernel_rfl) ?_
  refine Held.op_call 12 (some 15) 32 #[.int .i64 a] rfl rfl rfl rfl (enters_of Tryd.func32 (by kernel_rfl) rfl) (by simp [Act.eval]) (number_any a h3 w3) ?_
  rintro e w4 ⟨rfl, b3⟩
  have c0_3 := c0_2.trans (b3.mono c0_2.size)
  refine ⟨_, rfl, c0_3, ?_⟩
  simp only [Act.put, List.setIfInBounds_toArray, List.set_cons_zero, List.set_cons_succ]
  refine Held.take (v := .string ⟨n5.toArray⟩) 13 (some 16) rfl rfl (by kernel_rfl) (by kernel_rfl) (by kernel_rfl) (fun _ _ _ h => h) rfl (y_cat rfl rfl rfl E5.out M5.out) c0_3 ?_
  simp only [Act.put, List.setIfInBounds_toArray, List.set_cons_zero, List.set_cons_succ]
  refine Held.take (v := .string ⟨n6.toArray⟩) 14 (some 17) rfl rfl (by kernel_rfl) (by kernel_rfl) (by kernel_rfl) (fun _ _ _ h => h) rfl (y_cat rfl rfl rfl E6.out M6.out) c0_3 ?_
  simp only [Act.put, List.setIfInBounds_toArray, List.set_cons_zero, List.set_cons_succ]
  refine Held.one 17 (by kernel_rfl) ?_
  refine Held.op_call 17 (some 20) 33 #[.int .u64 (t : Int)] rfl rfl rfl rfl (enters_of Tryd.func33 (by kernel_rfl) rfl) (by simp [Act.eval]) (digits_at t h4 w4) ?_
  rintro e w5 ⟨rfl, b4⟩
  have c0_4 := c0_3.trans (b4.mono c0_3.size)
  refine ⟨_, rfl, c0_4, ?_⟩
  simp only [Act.put, List.setIfInBounds_toArray, List.set_cons_zero, List.set_cons_succ]
  refine Held.take (v := .string ⟨n7.toArray⟩) 18 (some 21) rfl rfl (by kernel_rfl) (by kernel_rfl) (by kernel_rfl) (fun _ _ _ h => h) rfl (y_cat rfl rfl rfl E7.out M7.out) c0_4 ?_
  simp only [Act.put, List.setIfInBounds_toArray, List.set_cons_zero, List.set_cons_succ]
  refine Held.take (v := .string ⟨n8.toArray⟩) 19 (some 22) rfl rfl (by kernel_rfl) (by kernel_rfl) (by kernel_rfl) (fun _ _ _ h => h) rfl (y_cat rfl rfl rfl E8.out M8.out) c0_4 ?_
  simp only [Act.put, List.setIfInBounds_toArray, List.set_cons_zero, List.set_cons_succ]
  refine Held.one 22 (by kernel_rfl) ?_
  refine Held.op_call 22 (some 25) 32 #[.int .i64 i] rfl rfl rfl rfl (enters_of Tryd.func32 (by kernel_rfl) rfl) (by simp [Act.eval]) (number_any i h5 w5) ?_
  rintro e w6 ⟨rfl, b5⟩
  have c0_5 := c0_4.trans (b5.mono c0_4.size)
  refine ⟨_, rfl, c0_5, ?_⟩
  simp only [Act.put, List.setIfInBounds_toArray, List.set_cons_zero, List.set_cons_succ]
  refine Held.take (v := .string ⟨n9.toArray⟩) 23 (some 26) rfl rfl (by kernel_rfl) (by kernel_rfl) (by kernel_rfl) (fun _ _ _ h => h) rfl (y_cat rfl rfl rfl E9.out M9.out) c0_5 ?_
  simp only [Act.put, List.setIfInBounds_toArray, List.set_cons_zero, List.set_cons_succ]
  refine Held.take (v := .string ⟨n9.toArray⟩) 24 (some 2) rfl rfl (by kernel_rfl) (by kernel_rfl) (by kernel_rfl) (fun _ _ _ h => h) rfl (Held.y_assign rfl rfl) c0_5 ?_
  simp only [Act.put, List.setIfInBounds_toArray, List.set_cons_zero, List.set_cons_succ]
  refine wpAnyH_done (by kernel_rfl) ?_ _
  have dz := bw.trans (c0_5.mono bw.size)
  go_wp2_with fail
  go_ret
  exact ⟨by rw [HN.out]; rfl, dz⟩

end Go.Proofs.YtoelgcdjhekafaaDoor.Ky
namespace Go.Proofs.YtoelgcdjhekafaaDoor.Ky
open Go.RowKit Go.Shelf Go.Proofs.YtoelgcdjhekafaaDoor.Mem Go.Proofs.YtoelgcdjhekafaaDoor.Help Go.Proofs.YtoelgcdjhekafaaDoor.Sum Go.Proofs.YtoelgcdjhekafaaDoor.Sha Go.Proofs.YtoelgcdjhekafaaDoor.Mac Go.Proofs.YtoelgcdjhekafaaDoor.Po Go.Proofs.YtoelgcdjhekafaaDoor.Range Go.Proofs.YtoelgcdjhekafaaDoor.Hkdf Go.Proofs.YtoelgcdjhekafaaDoor
set_option linter.unusedVariables false
attribute [local irreducible] wpList wpListIn Calls

/-- what goes beside a block -/
def kAad (ph r a t i n : Int) : List Int := eights [u64 ph, u64 r, u64 a] ++ eights [t, u64 i, u64 n]
theorem kAad_length (ph r a t i n : Int) : (kAad ph r a t i n).length = 48 := by rw [kAad, List.length_append, eights_length, eights_length]; rfl

set_option maxRecDepth 100000 in
set_option maxHeartbeats 8000000 in
theorem aad_any (ph r a t i n : Int) (ht : (Lit.int .u64 t).wf = true) (w : World) :
    Calls Tryd.prog 19 #[.agg #[.int .i64 ph, .int .i64 r, .int .i64 a, .int .u64 t, .int .i64 i], .int .i64 n] w fun e w' => ∃ A n' c, e = .returned (.slice A n' c) ∧ OwnM w' w.heap.size 5 .u8 (.slice A n' c) (kAad ph r a t i n) ∧ Below w.heap.size w w' := by
  have hwz : ∀ z ∈ [t, u64 i, u64 n], (Lit.int .u64 z).wf = true := fun z hz => by
    rcases List.mem_cons.1 hz with rfl | hz
    · exact ht
    rcases List.mem_cons.1 hz with rfl | hz
    · exact u64_wf _
    · rw [List.mem_singleton.1 hz]; exact u64_wf _
  go_enter Tryd.func19, Tryd.ntmps19
  go_wp2_with (refine wpList_box_place (w := w) rfl _ rfl #[.int .i64 ph, .int .i64 r, .int .i64 a, .int .u64 t, .int .i64 i] rfl rfl ?_; intro w1 q1 g1)
  have bw : Below w.heap.size w w1 := (Below.refl _ w).grown g1 (Nat.le_refl _) (by simp)
  obtain ⟨bp, hbe⟩ : ∃ b, w.heap.size = b := ⟨_, rfl⟩
  rw [hbe] at q1 ⊢
  have hbp : bp < w1.heap.size := (Array.getElem?_eq_some_iff.1 q1).1
  have q3 : w1.cell? ⟨bp, 3, none⟩ = some (.int .u64 t) := by rw [cell_of_row w1 bp 3 _ _ _ q1]; rfl
  have q4 : w1.cell? ⟨bp, 4, none⟩ = some (.int .i64 i) := by rw [cell_of_row w1 bp 4 _ _ _ q1]; rfl
  have HBE := Lib.hid hbe
  clear hbe g1
  refine wp_region_held (S := fun W => Below w1.heap.size w1 W) (by kernel_rfl) ?_
  change wpAnyH _ _ _ _ _ _ _ _ w1.drew
  have c0_0 := (Below.refl w1.heap.size w1).drew
  refine Held.take (v := .agg #[.int .i64 ph, .int .i64 r, .int .i64 a, .int .u64 t, .int .i64 i]) 0 (some 5) rfl rfl (by kernel_rfl) (by kernel_rfl) (by kernel_rfl) (fun _ _ _ h => h) rfl (y_load_place rfl rfl rfl (fun W hW => (hW.block bp hbp).trans q1)) c0_0 ?_
  simp only [Act.put, List.setIfInBounds_toArray, List.set_cons_zero, List.set_cons_succ]
  refine Held.take (v := .pointer (some ⟨bp, 3, none⟩)) 3 (some 8) rfl rfl (by kernel_rfl) (by kernel_rfl) (by kernel_rfl) (fun _ _ _ h => h) rfl (y_place (by omega) rfl rfl) c0_0 ?_
  simp only [Act.put, List.setIfInBounds_toArray, List.set_cons_zero, List.set_cons_succ]
  refine Held.take (v := .int .u64 t) 4 (some 9) rfl rfl (by kernel_rfl) (by kernel_rfl) (by kernel_rfl) (fun _ _ _ h => h) rfl (Held.y_load rfl rfl (by kernel_rfl) (fun W hW => (hW.cell (p := ⟨bp, 3, none⟩) hbp).trans q3)) c0_0 ?_
  simp only [Act.put, List.setIfInBounds_toArray, List.set_cons_zero, List.set_cons_succ]
  refine Held.take (v := .pointer (some ⟨bp, 4, none⟩)) 5 (some 10) rfl rfl (by kernel_rfl) (by kernel_rfl) (by kernel_rfl) (fun _ _ _ h => h) rfl (y_place (by omega) rfl rfl) c0_0 ?_
  simp only [Act.put, List.setIfInBounds_toArray, List.set_cons_zero, List.set_cons_succ]
  refine Held.take (v := .int .i64 i) 6 (some 11) rfl rfl (by kernel_rfl) (by kernel_rfl) (by kernel_rfl) (fun _ _ _ h => h) rfl (Held.y_load rfl rfl (by kernel_rfl) (fun W hW => (hW.cell (p := ⟨bp, 4, none⟩) hbp).trans q4)) c0_0 ?_
  simp only [Act.put, List.setIfInBounds_toArray, List.set_cons_zero, List.set_cons_succ]
  refine Held.take (v := .int .u64 (u64 i)) 7 (some 12) rfl rfl (by kernel_rfl) (by kernel_rfl) (by kernel_rfl) (fun _ _ _ h => h) rfl (Held.y_convert rfl rfl (by kernel_rfl) Tryd.underlying23 (u64_eq _)) c0_0 ?_
  simp only [Act.put, List.setIfInBounds_toArray, List.set_cons_zero, List.set_cons_succ]
  refine Held.take (v := .int .i64 n) 8 (some 13) rfl rfl (by kernel_rfl) (by kernel_rfl) (by kernel_rfl) (fun _ _ _ h => h) rfl (Held.y_move rfl rfl) c0_0 ?_
  simp only [Act.put, List.setIfInBounds_toArray, List.set_cons_zero, List.set_cons_succ]
  refine Held.take (v := .int .u64 (u64 n)) 9 (some 14) rfl rfl (by kernel_rfl) (by kernel_rfl) (by kernel_rfl) (fun _ _ _ h => h) rfl (Held.y_convert rfl rfl (by kernel_rfl) Tryd.underlying23 (u64_eq _)) c0_0 ?_
  simp only [Act.put, List.setIfInBounds_toArray, List.set_cons_zero, List.set_cons_succ]
  refine Held.two 1 10 (by kernel_rfl) ?_ ?_
  · refine Held.op_call 1 (some 6) 27 #[.agg #[.int .i64 ph, .int .i64 r, .int .i64 a, .int .u64 t, .int .i64 i]] rfl rfl rfl rfl (enters_of Tryd.func27 (by kernel_rfl) rfl) (by simp [Act.eval]) (spot_any ph r a t i w1.drew) ?_
    rintro e x1 ⟨bs, gs, rfl, cS, rS, hs1, hs2, b1⟩
    have c0_1 := c0_0.trans (b1.mono c0_0.size)
    clear hs1 hs2
    refine ⟨_, rfl, c0_1, ?_⟩
    simp only [Act.put, List.setIfInBounds_toArray, List.set_cons_zero, List.set_cons_succ]
    refine Held.two 2 10 (by kernel_rfl) ?_ ?_
    · refine Held.op_call 2 (some 7) 29 #[.slice none 0 0, .func (.func 37) #[] #[.pointer (some ⟨bs, 0, none⟩)]] rfl rfl rfl rfl (enters_of Tryd.func29 (by kernel_rfl) rfl) (by simp [Act.eval]) (laid_any x1.heap.size none 0 0 [] bs (some ⟨gs, 0, none⟩) 3 3 [u64 ph, u64 r, u64 a] x1 (OwnM.nil _ _ _ _) (Nat.le_refl _) (by simp) cS (by simp [Value.ownBlock]) (IntsN.row rS (fun e => by cases e)) (by omega)) ?_
      rintro e x2 ⟨A2, n2, c2, rfl, o2, b2⟩
      rw [List.nil_append] at o2
      have hL := o2.lt
      have c0_2 := c0_1.trans (b2.mono c0_1.size)
      clear hL cS rS
      refine ⟨_, rfl, c0_2, ?_⟩
      simp only [Act.put, List.setIfInBounds_toArray, List.set_cons_zero, List.set_cons_succ]
      refine Held.one 10 (by kernel_rfl) ?_
      refine Held.op_build_Row 10 (some 15) 60 23 3 .u64 8 [t, u64 i, u64 n] rfl rfl rfl rfl Tryd.underlying60 info_w64 (by simp [Act.eval]) rfl (by omega) (by omega) hwz ?_
      intro p x3 rR bb hp
      have b3 : Below x2.heap.size x2 x3 := ⟨bb.os, bb.tape, bb.output, bb.size, bb.block⟩
      have hap : ∀ b, (Value.slice A2 n2 c2).ownBlock = some b → b ≠ p := fun b e q => by have h1 := (o2.lt b e).2; have h2 : x2.heap.size ≤ p := hp.out; omega
      have c0_3 := c0_2.trans (b3.mono c0_2.size)
      have o2 := o2.below b3
      clear bb
      refine ⟨c0_3, ?_⟩
      simp only [Act.put, List.setIfInBounds_toArray, List.set_cons_zero, List.set_cons_succ]
      refine Held.one 11 (by kernel_rfl) ?_
      refine Held.op_call 11 (some 16) 26 #[.slice (some ⟨p, 0, none⟩) 3 3] rfl rfl rfl rfl (enters_of Tryd.func26 (by kernel_rfl) rfl) (by simp [Act.eval]) (order_cell _ 3 3 x3) ?_
      rintro e x4 ⟨bq, rfl, cQ, hbq, b4⟩
      have hne : (Value.slice A2 n2 c2).ownBlock ≠ some bq := fun e => by have := (o2.lt bq e).2; omega
      have c0_4 := c0_3.trans (b4.mono c0_3.size)
      have rR := rR.below b4 rR.lt
      have o2 := o2.below b4
      clear hbq
      refine ⟨_, rfl, c0_4, ?_⟩
      simp only [Act.put, List.setIfInBounds_toArray, List.set_cons_zero, List.set_cons_succ]
      refine Held.one 12 (by kernel_rfl) ?_
      have s1 := c0_4.size
      refine Held.op_call 12 (some 17) 29 #[.slice A2 n2 c2, .func (.func 37) #[] #[.pointer (some ⟨bq, 0, none⟩)]] rfl rfl rfl rfl (enters_of Tryd.func29 (by kernel_rfl) rfl) (by simp [Act.eval]) (laid_any w1.heap.size A2 n2 c2 (eights [u64 ph, u64 r, u64 a]) bq (some ⟨p, 0, none⟩) 3 3 [t, u64 i, u64 n] x4 (o2.less (by first | exact Nat.le_refl _ | exact c0_1.size | exact c0_2.size)) s1 (by rw [eights_length]; simp) cQ hne (IntsN.row rR (fun e => hap _ e rfl)) (by omega)) ?_
      rintro e x5 ⟨A3, n3, c3, rfl, o3, b5⟩
      have c0_5 := c0_4.trans b5
      clear o2 rR cQ hap hne s1
      refine ⟨_, rfl, c0_5, ?_⟩
      simp only [Act.put, List.setIfInBounds_toArray, List.set_cons_zero, List.set_cons_succ]
      refine Held.take (v := .slice A3 n3 c3) 13 (some 4) rfl rfl (by kernel_rfl) (by kernel_rfl) (by kernel_rfl) (fun _ _ _ h => h) rfl (Held.y_assign rfl rfl) c0_5 ?_
      simp only [Act.put, List.setIfInBounds_toArray, List.set_cons_zero, List.set_cons_succ]
      refine wpAnyH_done (by kernel_rfl) ?_ _
      have dz := bw.trans (c0_5.mono bw.size)
      go_wp2_with fail
      go_ret
      exact ⟨_, _, _, rfl, o3.less bw.size, dz⟩
    · refine Held.op_build_Row 10 (some 15) 60 23 3 .u64 8 [t, u64 i, u64 n] rfl rfl rfl rfl Tryd.underlying60 info_w64 (by simp [Act.eval]) rfl (by omega) (by omega) hwz ?_
      intro p x2 rR bb hp
      have b2 : Below x1.heap.size x1 x2 := ⟨bb.os, bb.tape, bb.output, bb.size, bb.block⟩
      have c0_2 := c0_1.trans (b2.mono c0_1.size)
      have cS := (b2.cell (p := ⟨bs, 0, none⟩) (World.block_lt_of_cell? x1 _ cS)).trans cS
      have rS := rS.below b2 rS.lt
      clear bb
      refine ⟨c0_2, ?_⟩
      simp only [Act.put, List.setIfInBounds_toArray, List.set_cons_zero, List.set_cons_succ]
      refine Held.one 2 (by kernel_rfl) ?_
      refine Held.op_call 2 (some 7) 29 #[.slice none 0 0, .func (.func 37) #[] #[.pointer (some ⟨bs, 0, none⟩)]] rfl rfl rfl rfl (enters_of Tryd.func29 (by kernel_rfl) rfl) (by simp [Act.eval]) (laid_any x2.heap.size none 0 0 [] bs (some ⟨gs, 0, none⟩) 3 3 [u64 ph, u64 r, u64 a] x2 (OwnM.nil _ _ _ _) (Nat.le_refl _) (by simp) cS (by simp [Value.ownBlock]) (IntsN.row rS (fun e => by cases e)) (by omega)) ?_
      rintro e x3 ⟨A2, n2, c2, rfl, o2, b3⟩
      rw [List.nil_append] at o2
      have hL := o2.lt
      have hap : ∀ b, (Value.slice A2 n2 c2).ownBlock = some b → b ≠ p := fun b e q => by have h1 := (hL b e).1; have h2 := rR.lt; subst q; omega
      have c0_3 := c0_2.trans (b3.mono c0_2.size)
      have rR := rR.below b3 rR.lt
      clear hL cS rS
      refine ⟨_, rfl, c0_3, ?_⟩
      simp only [Act.put, List.setIfInBounds_toArray, List.set_cons_zero, List.set_cons_succ]
      refine Held.one 11 (by kernel_rfl) ?_
      refine Held.op_call 11 (some 16) 26 #[.slice (some ⟨p, 0, none⟩) 3 3] rfl rfl rfl rfl (enters_of Tryd.func26 (by kernel_rfl) rfl) (by simp [Act.eval]) (order_cell _ 3 3 x3) ?_
      rintro e x4 ⟨bq, rfl, cQ, hbq, b4⟩
      have hne : (Value.slice A2 n2 c2).ownBlock ≠ some bq := fun e => by have := (o2.lt bq e).2; omega
      have c0_4 := c0_3.trans (b4.mono c0_3.size)
      have rR := rR.below b4 rR.lt
      have o2 := o2.below b4
      clear hbq
      refine ⟨_, rfl, c0_4, ?_⟩
      simp only [Act.put, List.setIfInBounds_toArray, List.set_cons_zero, List.set_cons_succ]
      refine Held.one 12 (by kernel_rfl) ?_
      have s1 := c0_4.size
      refine Held.op_call 12 (some 17) 29 #[.slice A2 n2 c2, .func (.func 37) #[] #[.pointer (some ⟨bq, 0, none⟩)]] rfl rfl rfl rfl (enters_of Tryd.func29 (by kernel_rfl) rfl) (by simp [Act.eval]) (laid_any w1.heap.size A2 n2 c2 (eights [u64 ph, u64 r, u64 a]) bq (some ⟨p, 0, none⟩) 3 3 [t, u64 i, u64 n] x4 (o2.less (by first | exact Nat.le_refl _ | exact c0_1.size | exact c0_2.size)) s1 (by rw [eights_length]; simp) cQ hne (IntsN.row rR (fun e => hap _ e rfl)) (by omega)) ?_
      rintro e x5 ⟨A3, n3, c3, rfl, o3, b5⟩
      have c0_5 := c0_4.trans b5
      clear o2 rR cQ hap hne s1
      refine ⟨_, rfl, c0_5, ?_⟩
      simp only [Act.put, List.setIfInBounds_toArray, List.set_cons_zero, List.set_cons_succ]
      refine Held.take (v := .slice A3 n3 c3) 13 (some 4) rfl rfl (by kernel_rfl) (by kernel_rfl) (by kernel_rfl) (fun _ _ _ h => h) rfl (Held.y_assign rfl rfl) c0_5 ?_
      simp only [Act.put, List.setIfInBounds_toArray, List.set_cons_zero, List.set_cons_succ]
      refine wpAnyH_done (by kernel_rfl) ?_ _
      have dz := bw.trans (c0_5.mono bw.size)
      go_wp2_with fail
      go_ret
      exact ⟨_, _, _, rfl, o3.less bw.size, dz⟩
  · refine Held.op_build_Row 10 (some 15) 60 23 3 .u64 8 [t, u64 i, u64 n] rfl rfl rfl rfl Tryd.underlying60 info_w64 (by simp [Act.eval]) rfl (by omega) (by omega) hwz ?_
    intro p x1 rR bb hp
    have b1 : Below w1.drew.heap.size w1.drew x1 := ⟨bb.os, bb.tape, bb.output, bb.size, bb.block⟩
    have c0_1 := c0_0.trans (b1.mono c0_0.size)
    clear bb
    refine ⟨c0_1, ?_⟩
    simp only [Act.put, List.setIfInBounds_toArray, List.set_cons_zero, List.set_cons_succ]
    refine Held.one 1 (by kernel_rfl) ?_
    refine Held.op_call 1 (some 6) 27 #[.agg #[.int .i64 ph, .int .i64 r, .int .i64 a, .int .u64 t, .int .i64 i]] rfl rfl rfl rfl (enters_of Tryd.func27 (by kernel_rfl) rfl) (by simp [Act.eval]) (spot_any ph r a t i x1) ?_
    rintro e x2 ⟨bs, gs, rfl, cS, rS, hs1, hs2, b2⟩
    have c0_2 := c0_1.trans (b2.mono c0_1.size)
    have rR := rR.below b2 rR.lt
    clear hs1 hs2
    refine ⟨_, rfl, c0_2, ?_⟩
    simp only [Act.put, List.setIfInBounds_toArray, List.set_cons_zero, List.set_cons_succ]
    refine Held.one 2 (by kernel_rfl) ?_
    refine Held.op_call 2 (some 7) 29 #[.slice none 0 0, .func (.func 37) #[] #[.pointer (some ⟨bs, 0, none⟩)]] rfl rfl rfl rfl (enters_of Tryd.func29 (by kernel_rfl) rfl) (by simp [Act.eval]) (laid_any x2.heap.size none 0 0 [] bs (some ⟨gs, 0, none⟩) 3 3 [u64 ph, u64 r, u64 a] x2 (OwnM.nil _ _ _ _) (Nat.le_refl _) (by simp) cS (by simp [Value.ownBlock]) (IntsN.row rS (fun e => by cases e)) (by omega)) ?_
    rintro e x3 ⟨A2, n2, c2, rfl, o2, b3⟩
    rw [List.nil_append] at o2
    have hL := o2.lt
    have hap : ∀ b, (Value.slice A2 n2 c2).ownBlock = some b → b ≠ p := fun b e q => by have h1 := (hL b e).1; have h2 := rR.lt; subst q; omega
    have c0_3 := c0_2.trans (b3.mono c0_2.size)
    have rR := rR.below b3 rR.lt
    clear hL cS rS
    refine ⟨_, rfl, c0_3, ?_⟩
    simp only [Act.put, List.setIfInBounds_toArray, List.set_cons_zero, List.set_cons_succ]
    refine Held.one 11 (by kernel_rfl) ?_
    refine Held.op_call 11 (some 16) 26 #[.slice (some ⟨p, 0, none⟩) 3 3] rfl rfl rfl rfl (enters_of Tryd.func26 (by kernel_rfl) rfl) (by simp [Act.eval]) (order_cell _ 3 3 x3) ?_
    rintro e x4 ⟨bq, rfl, cQ, hbq, b4⟩
    have hne : (Value.slice A2 n2 c2).ownBlock ≠ some bq := fun e => by have := (o2.lt bq e).2; omega
    have c0_4 := c0_3.trans (b4.mono c0_3.size)
    have rR := rR.below b4 rR.lt
    have o2 := o2.below b4
    clear hbq
    refine ⟨_, rfl, c0_4, ?_⟩
    simp only [Act.put, List.setIfInBounds_toArray, List.set_cons_zero, List.set_cons_succ]
    refine Held.one 12 (by kernel_rfl) ?_
    have s1 := c0_4.size
    refine Held.op_call 12 (some 17) 29 #[.slice A2 n2 c2, .func (.func 37) #[] #[.pointer (some ⟨bq, 0, none⟩)]] rfl rfl rfl rfl (enters_of Tryd.func29 (by kernel_rfl) rfl) (by simp [Act.eval]) (laid_any w1.heap.size A2 n2 c2 (eights [u64 ph, u64 r, u64 a]) bq (some ⟨p, 0, none⟩) 3 3 [t, u64 i, u64 n] x4 (o2.less (by first | exact Nat.le_refl _ | exact c0_1.size | exact c0_2.size)) s1 (by rw [eights_length]; simp) cQ hne (IntsN.row rR (fun e => hap _ e rfl)) (by omega)) ?_
    rintro e x5 ⟨A3, n3, c3, rfl, o3, b5⟩
    have c0_5 := c0_4.trans b5
    clear o2 rR cQ hap hne s1
    refine ⟨_, rfl, c0_5, ?_⟩
    simp only [Act.put, List.setIfInBounds_toArray, List.set_cons_zero, List.set_cons_succ]
    refine Held.take (v := .slice A3 n3 c3) 13 (some 4) rfl rfl (by kernel_rfl) (by kernel_rfl) (by kernel_rfl) (fun _ _ _ h => h) rfl (Held.y_assign rfl rfl) c0_5 ?_
    simp only [Act.put, List.setIfInBounds_toArray, List.set_cons_zero, List.set_cons_succ]
    refine wpAnyH_done (by kernel_rfl) ?_ _
    have dz := bw.trans (c0_5.mono bw.size)
    go_wp2_with fail
    go_ret
    exact ⟨_, _, _, rfl, o3.less bw.size, dz⟩
end Go.Proofs.YtoelgcdjhekafaaDoor.Ky
namespace Go.Proofs.YtoelgcdjhekafaaDoor.Sha
open Go.RowKit Go.Proofs.YtoelgcdjhekafaaDoor.Mem Go.Proofs.YtoelgcdjhekafaaDoor.Help Go.Proofs.YtoelgcdjhekafaaDoor.Sum
set_option linter.unusedVariables false

theorem pad_front (n : Nat) : (padI n).take (1 + (119 - n % 64) % 64) = 128 :: List.replicate ((119 - n % 64) % 64) 0 := by
  unfold padI
  rw [Nat.add_comm, List.take_succ_cons, List.take_left' (by simp)]
theorem pad_back (n k : Nat) (hk : k < 8) : (padI n).take (1 + (119 - n % 64) % 64 + (k + 1)) = (padI n).take (1 + (119 - n % 64) % 64 + k) ++ [((8 * n : Nat) : Int) / 2 ^ (56 - 8 * k) % 256] := by
  rw [show 1 + (119 - n % 64) % 64 + (k + 1) = 1 + (119 - n % 64) % 64 + k + 1 by omega, List.take_succ_eq_append_getElem (by rw [pad_length]; omega)]
  congr 2
  simp only [padI]
  rw [List.getElem_cons, dif_neg (by omega), List.getElem_append_right (by simp; omega)]
  simp only [List.length_replicate, List.getElem_map, List.getElem_range]
  have e : 1 + (119 - n % 64) % 64 + k - 1 - (119 - n % 64) % 64 = k := by omega
  rw [e]

theorem rpad_any (N : Int) (n : Nat) (w : World) (hN : (n : Int) = max N 0) (hn : n ≤ 17592186044416) :
    Calls Tryd.prog 57 #[.int .i64 N] w fun e w' => ∃ v, e = .returned v ∧ Mem.Own w' w.heap.size 5 .u8 v (padI n) ∧ Below w.heap.size w w' := by
  obtain ⟨z, hz⟩ : ∃ z, (119 - n % 64) % 64 = z := ⟨_, rfl⟩
  have hz64 : z < 64 := by omega
  have PF := Lib.hid (pad_front n)
  have PB := Lib.hid (pad_back n)
  have PL := Lib.hid (pad_length n)
  rw [hz] at PF PB PL
  have r1 : Row (w.alloc (.cells (arr .u8 [128]) 5)) w.heap.size 5 .u8 [128] := Row.new w _ (by simp; decide)
  have hown0 : Mem.Own (w.alloc (.cells (arr .u8 [128]) 5)) w.heap.size 5 .u8 (.slice (some ⟨w.heap.size, 0, none⟩) 1 1) [128] := r1.own (Nat.le_refl _) (n := 1) (by simp) (by simp [maxLen])
  have hbel0 : Below w.heap.size w (w.alloc (.cells (arr .u8 [128]) 5)) := (Below.refl _ w).alloc (Nat.le_refl _) _
  clear r1
  by_cases hneg : N ≤ 0
  · have e : n = 0 := by omega
    subst e
    have hz55 : z = 55 := by omega
    subst hz55
    clear hN hz
    go_enter Tryd.func57, Tryd.ntmps57
    go_wp2_with fail
    go_loopw [3] (fun v wr => ∃ k : Nat, k ≤ 55 ∧ Mem.Own wr w.heap.size 5 .u8 v (128 :: List.replicate k 0) ∧ Below w.heap.size w wr) (fun v _ => 55 + 1 - lenV v)
    case atStart => exact ⟨0, by omega, hown0, hbel0⟩
    case round =>
      clear hown0 hbel0
      obtain ⟨k, hk, hown, hbl⟩ := hrel
      obtain ⟨A, c, hv, hc1, hc2, hi⟩ := hown.form
      rw [List.length_cons, List.length_replicate] at hv hc1
      subst hv
      have hk64 : (k : Int) ≤ 64 := by omega
      by_cases hlt : k < 55
      · have hne : ¬ ((k : Int) + 1) % 64 = 56 := by omega
        have hneb : (((k : Int) + 1) % 64 != 56) = true := by simpa using hne
        have r0 : Row (wr.alloc (.cells (arr .u8 [0]) 5)) wr.heap.size 5 .u8 [0] := Row.new wr _ (by simp; decide)
        have i0 := r0.ints (n := 1) (by simp)
        have hsz := hbl.size
        go_wp2_with (at_builtin; refine wpList_append_ints _ rfl _ _ 34 rfl w.heap.size 5 .u8 1 Tryd.underlying34 info_u8 _ (128 :: List.replicate k 0) rfl (hown.alloc _) _ _ 1 1 [0] rfl i0 (by simp; omega) (by omega) (by simp; omega) ?_; intro v1 w1 hown1 hg1 hat1)
        go_roundw
        case rel =>
          refine ⟨k + 1, by omega, ?_, (hbl.alloc hsz _).grown hg1 (by simp; omega) (fun r e => ownBlock_ge hown.2.2 e)⟩
          have e : (128 :: List.replicate (k + 1) 0 : List Int) = (128 :: List.replicate k 0) ++ [0] := by rw [List.cons_append, ← List.replicate_succ']
          rw [e]; exact hown1
        case measure =>
          obtain ⟨A1, c1, hv1, _⟩ := hown1.form
          rw [hv1]
          simp [lenV]; omega
      · have hkz : k = 55 := by omega
        subst hkz
        have PF0 := PF.out
        rw [← PF0] at hown
        have hown : Mem.Own wr w.heap.size 5 .u8 (.slice A (55 + 1) c) ((padI 0).take (56 + 0)) := hown
        go_wp2_with fail
        go_loopw [3, 5] (fun v i wr => ∃ j : Nat, j ≤ 8 ∧ i = .int .i64 (7 - (j : Int)) ∧ Mem.Own wr w.heap.size 5 .u8 v ((padI 0).take (56 + j)) ∧ Below w.heap.size w wr) (fun _ i _ => (intOf i + 1).toNat)
        case atStart => exact ⟨0, by omega, rfl, hown, hbl⟩
        case round =>
          clear hown hbl
          obtain ⟨j, hj, rfl, hown, hbl⟩ := hrel
          have hlen : ((padI 0).take (56 + j)).length = 56 + j := by rw [List.length_take, PL.out]; omega
          obtain ⟨A, c, hv, hc1, hc2, hi⟩ := hown.form
          rw [hlen] at hv hc1
          subst hv
          have HLN := Lib.hid hlen
          clear hlen
          by_cases hlt8 : j < 8
          · have ei : (7 : Int) - (j : Int) = ((7 - j : Nat) : Int) := by omega
            rw [ei]
            obtain ⟨q, hq⟩ : ∃ q, 7 - j = q := ⟨_, rfl⟩
            rw [hq]
            have hq7 : q ≤ 7 := by omega
            have hq7i : (q : Int) ≤ 7 := by omega
            have hq0 : (0 : Int) ≤ (q : Int) := by omega
            have E := Lib.hid (show (0 : Int) = ((8 * 0 : Nat) : Int) / 2 ^ (56 - 8 * j) % 256 by rw [show 56 - 8 * j = 8 * q by omega]; simp)
            have hsz := hbl.size
            have rz : ∀ x : Int, 0 ≤ x → x ≤ 255 → Row (wr.alloc (.cells (arr .u8 [x]) 5)) wr.heap.size 5 .u8 [x] := fun x h1 h2 => Row.new wr _ (by simp [Lit.wf, IntKind.min, IntKind.max, IntKind.signed, IntKind.bits]; omega)
            have hx0 : (0 : Int) ≤ (0 : Int) := by omega
            have hx1 : (0 : Int) ≤ 255 := by omega
            have rx := rz _ hx0 hx1
            have ix := rx.ints (n := 1) (by simp)
            have HPB := Lib.hid (show (padI 0).take (56 + (j + 1)) = (padI 0).take (56 + j) ++ [((8 * 0 : Nat) : Int) / 2 ^ (56 - 8 * j) % 256] from PB.out j hlt8)
            clear rz hx0 hx1 ei
            go_wp2_with (at_builtin; refine wpList_append_ints _ rfl _ _ 34 rfl w.heap.size 5 .u8 1 Tryd.underlying34 info_u8 _ ((padI 0).take (56 + j)) rfl (hown.alloc _) _ _ 1 1 [(0 : Int)] rfl ix (by rw [HLN.out]; omega) (by omega) (by simp; omega) ?_; intro v1 w1 hown1 hg1 hat1)
            have own2 : Mem.Own w1 w.heap.size 5 .u8 v1 ((padI 0).take (56 + (j + 1))) := by rw [HPB.out, ← E.out]; exact hown1
            have bel2 : Below w.heap.size w w1 := (hbl.alloc hsz _).grown hg1 (by simp; omega) (fun r e => ownBlock_ge hown.2.2 e)
            have ej : Value.int .i64 ((q : Int) - 1) = .int .i64 (7 - ((j + 1 : Nat) : Int)) := by congr 1; omega
            go_roundw
            case rel => first | exact ⟨j + 1, by omega, ej, own2, bel2⟩ | ((repeat apply Exists.intro); exact ⟨⟨j + 1, by omega, ej, own2, bel2⟩, rfl⟩)
            case measure => simp [intOf]
          · have hj8 : j = 8 := by omega
            subst hj8
            have hall : (padI 0).take (56 + 8) = padI 0 := List.take_of_length_le (by rw [PL.out]; omega)
            rw [hall] at hown
            go_wp2_with fail
            go_ret
            exact ⟨_, rfl, hown, hbl⟩
  · have e : N = (n : Int) := by omega
    subst e
    have hnn : (n : Int) ≤ 17592186044416 := by omega
    have hn0 : (0 : Int) < (n : Int) := by omega
    clear hN hneg
    go_enter Tryd.func57, Tryd.ntmps57
    go_wp2_with fail
    go_loopw [3] (fun v wr => ∃ k : Nat, k ≤ z ∧ Mem.Own wr w.heap.size 5 .u8 v (128 :: List.replicate k 0) ∧ Below w.heap.size w wr) (fun v _ => z + 1 - lenV v)
    case atStart => exact ⟨0, by omega, hown0, hbel0⟩
    case round =>
      clear hown0 hbel0
      obtain ⟨k, hk, hown, hbl⟩ := hrel
      obtain ⟨A, c, hv, hc1, hc2, hi⟩ := hown.form
      rw [List.length_cons, List.length_replicate] at hv hc1
      subst hv
      have hk64 : (k : Int) ≤ 64 := by omega
      by_cases hlt : k < z
      · have hne : ¬ ((n : Int) + ((k : Int) + 1)) % 64 = 56 := by omega
        have hneb : (((n : Int) + ((k : Int) + 1)) % 64 != 56) = true := by simpa using hne
        have r0 : Row (wr.alloc (.cells (arr .u8 [0]) 5)) wr.heap.size 5 .u8 [0] := Row.new wr _ (by simp; decide)
        have i0 := r0.ints (n := 1) (by simp)
        have hsz := hbl.size
        go_wp2_with (at_builtin; refine wpList_append_ints _ rfl _ _ 34 rfl w.heap.size 5 .u8 1 Tryd.underlying34 info_u8 _ (128 :: List.replicate k 0) rfl (hown.alloc _) _ _ 1 1 [0] rfl i0 (by simp; omega) (by omega) (by simp; omega) ?_; intro v1 w1 hown1 hg1 hat1)
        go_roundw
        case rel =>
          refine ⟨k + 1, by omega, ?_, (hbl.alloc hsz _).grown hg1 (by simp; omega) (fun r e => ownBlock_ge hown.2.2 e)⟩
          have e : (128 :: List.replicate (k + 1) 0 : List Int) = (128 :: List.replicate k 0) ++ [0] := by rw [List.cons_append, ← List.replicate_succ']
          rw [e]; exact hown1
        case measure =>
          obtain ⟨A1, c1, hv1, _⟩ := hown1.form
          rw [hv1]
          simp [lenV]; omega
      · have hkz : k = z := by omega
        subst hkz
        rw [← PF.out] at hown
        have hnb : (((n : Int) + ((k : Int) + 1)) % 64 != 56) = false := by
          have : ((n : Int) + ((k : Int) + 1)) % 64 = 56 := by omega
          simpa using this
        go_wp2_with fail
        go_loopw [3, 5] (fun v i wr => ∃ j : Nat, j ≤ 8 ∧ i = .int .i64 (7 - (j : Int)) ∧ Mem.Own wr w.heap.size 5 .u8 v ((padI n).take (1 + k + j)) ∧ Below w.heap.size w wr) (fun _ i _ => (intOf i + 1).toNat)
        case atStart => exact ⟨0, by omega, rfl, hown, hbl⟩
        case round =>
          clear hown hbl
          obtain ⟨j, hj, rfl, hown, hbl⟩ := hrel
          have hlen : ((padI n).take (1 + k + j)).length = 1 + k + j := by rw [List.length_take, PL.out]; omega
          obtain ⟨A, c, hv, hc1, hc2, hi⟩ := hown.form
          rw [hlen] at hv hc1
          subst hv
          have HLN := Lib.hid hlen
          clear hlen
          by_cases hlt8 : j < 8
          · have ei : (7 : Int) - (j : Int) = ((7 - j : Nat) : Int) := by omega
            rw [ei]
            obtain ⟨q, hq⟩ : ∃ q, 7 - j = q := ⟨_, rfl⟩
            rw [hq]
            have hq7 : q ≤ 7 := by omega
            have hq7i : (q : Int) ≤ 7 := by omega
            have hq0 : (0 : Int) ≤ (q : Int) := by omega
            have E := Lib.hid (show ((n : Int) * 8) / 2 ^ (8 * q) % 256 = ((8 * n : Nat) : Int) / 2 ^ (56 - 8 * j) % 256 by rw [show 56 - 8 * j = 8 * q by omega]; congr 2; omega)
            have hsz := hbl.size
            have rz : ∀ x : Int, 0 ≤ x → x ≤ 255 → Row (wr.alloc (.cells (arr .u8 [x]) 5)) wr.heap.size 5 .u8 [x] := fun x h1 h2 => Row.new wr _ (by simp [Lit.wf, IntKind.min, IntKind.max, IntKind.signed, IntKind.bits]; omega)
            have hx0 : (0 : Int) ≤ ((n : Int) * 8) / 2 ^ (8 * q) % 256 := by omega
            have hx1 : ((n : Int) * 8) / 2 ^ (8 * q) % 256 ≤ 255 := by omega
            have rx := rz _ hx0 hx1
            have ix := rx.ints (n := 1) (by simp)
            have HPB := Lib.hid (PB.out j hlt8)
            clear rz hx0 hx1 ei
            go_wp2_with (at_builtin; refine wpList_append_ints _ rfl _ _ 34 rfl w.heap.size 5 .u8 1 Tryd.underlying34 info_u8 _ ((padI n).take (1 + k + j)) rfl (hown.alloc _) _ _ 1 1 [(n : Int) * 8 / 2 ^ (8 * q) % 256] rfl ix (by rw [HLN.out]; omega) (by omega) (by simp; omega) ?_; intro v1 w1 hown1 hg1 hat1)
            have own2 : Mem.Own w1 w.heap.size 5 .u8 v1 ((padI n).take (1 + k + (j + 1))) := by rw [HPB.out, ← E.out]; exact hown1
            have bel2 : Below w.heap.size w w1 := (hbl.alloc hsz _).grown hg1 (by simp; omega) (fun r e => ownBlock_ge hown.2.2 e)
            have ej : Value.int .i64 ((q : Int) - 1) = .int .i64 (7 - ((j + 1 : Nat) : Int)) := by congr 1; omega
            go_roundw
            case rel => first | exact ⟨j + 1, by omega, ej, own2, bel2⟩ | ((repeat apply Exists.intro); exact ⟨⟨j + 1, by omega, ej, own2, bel2⟩, rfl⟩)
            case measure => simp [intOf]
          · have hj8 : j = 8 := by omega
            subst hj8
            have hall : (padI n).take (1 + k + 8) = padI n := List.take_of_length_le (by rw [PL.out]; omega)
            rw [hall] at hown
            go_wp2_with fail
            go_ret
            exact ⟨_, rfl, hown, hbl⟩
end Go.Proofs.YtoelgcdjhekafaaDoor.Sha
namespace Go.Proofs.YtoelgcdjhekafaaDoor.Sha
open Go.RowKit Go.Proofs.YtoelgcdjhekafaaDoor.Mem Go.Proofs.YtoelgcdjhekafaaDoor.Help Go.Proofs.YtoelgcdjhekafaaDoor.Sum
set_option linter.unusedVariables false

theorem or4 {a b c d : Int} (ha : 0 ≤ a ∧ a ≤ 255) (hb : 0 ≤ b ∧ b ≤ 255) (hc : 0 ≤ c ∧ c ≤ 255) (hd : 0 ≤ d ∧ d ≤ 255) :
    bits .or .u32 (bits .or .u32 (bits .or .u32 (a * 16777216) (b * 65536)) (c * 256)) d = ((a * 256 + b) * 256 + c) * 256 + d := by
  have hw : ∀ n : Int, 0 ≤ n → n < 2 ^ 32 → IntKind.u32.wrap n = n := fun n h1 h2 => by rw [IntKind.wrap_u32]; omega
  rw [bits_join .u32 32 (by decide) hw 24 (a * 16777216) (b * 65536) (by omega) (by omega) (by omega) (by omega) (by omega) (by omega)]
  rw [bits_join .u32 32 (by decide) hw 16 (a * 16777216 + b * 65536) (c * 256) (by omega) (by omega) (by omega) (by omega) (by omega) (by omega)]
  rw [bits_join .u32 32 (by decide) hw 8 (a * 16777216 + b * 65536 + c * 256) d (by omega) (by omega) (by omega) (by omega) (by omega) (by omega)]
  omega

theorem round_ref {x0 x1 x2 x3 x4 x5 x6 x7 kk ww : Int} (y4 : R32 x4) (y5 : R32 x5) (y6 : R32 x6) :
    [(x7 + bits .xor .u32 (bits .xor .u32 (rotI x4 6) (rotI x4 11)) (rotI x4 25) + bits .xor .u32 (bits .and .u32 x4 x5) (bits .and .u32 (bits .xor .u32 4294967295 x4) x6) + kk + ww +
        bits .xor .u32 (bits .xor .u32 (rotI x0 2) (rotI x0 13)) (rotI x0 22) + bits .xor .u32 (bits .xor .u32 (bits .and .u32 x0 x1) (bits .and .u32 x0 x2)) (bits .and .u32 x1 x2)) % 4294967296, x0, x1, x2,
      (x3 + (x7 + bits .xor .u32 (bits .xor .u32 (rotI x4 6) (rotI x4 11)) (rotI x4 25) + bits .xor .u32 (bits .and .u32 x4 x5) (bits .and .u32 (bits .xor .u32 4294967295 x4) x6) + kk + ww)) % 4294967296, x4, x5, x6] =
    Sum.round kk ww [x0, x1, x2, x3, x4, x5, x6, x7] := by
  rw [ch_eq' y4 y5 y6]
  simp only [Sum.round, sum_e, sum_a, List.cons.injEq, and_true, true_and]
  unfold bigI majI xorI andI
  refine ⟨?_, ?_⟩ <;> first | rfl | (congr 1; omega)

/-- the first i bytes of a sum -/
def outK (h : List Int) (i : Nat) : List Int := (List.range 32).map fun j => if j < i then (outB h).getD j 0 else 0
theorem outK_length (h : List Int) (i : Nat) : (outK h i).length = 32 := by simp [outK]
theorem outK_start (h : List Int) : outK h 0 = List.replicate 32 0 := by
  unfold outK
  rw [List.map_congr_left (g := fun _ => (0 : Int)) (fun j _ => by rw [if_neg (by omega)])]
  rfl
theorem outK_end (h : List Int) : outK h 32 = outB h := by
  apply List.ext_getElem (by rw [outK_length, out_length])
  intro i h1 h2
  rw [outK_length] at h1
  simp [outK, List.getD_eq_getElem?_getD, h2, h1]
theorem outK_step (h : List Int) {i : Nat} (hi : i < 32) : outK h (i + 1) = (outK h i).set i (h.getD (i / 4) 0 / 2 ^ (24 - 8 * (i % 4)) % 256) := by
  apply List.ext_getElem (by rw [List.length_set, outK_length, outK_length])
  intro j h1 h2
  rw [outK_length] at h1
  rw [List.getElem_set]
  by_cases e : i = j
  · subst e
    simp [outK, outB, List.getD_eq_getElem?_getD, h1]
  · rw [if_neg e]
    simp only [outK, List.getElem_map, List.getElem_range]
    by_cases q : j < i
    · rw [if_pos (by omega), if_pos q]
    · rw [if_neg (by omega), if_neg q]

theorem word_at (m : List Int) (at_ t : Nat) (h : at_ + 64 ≤ m.length) (ht : t < 16) :
    word ((m.drop at_).take 64) t = ((m.getD (at_ + 4 * t) 0 * 256 + m.getD (at_ + 4 * t + 1) 0) * 256 + m.getD (at_ + 4 * t + 2) 0) * 256 + m.getD (at_ + 4 * t + 3) 0 := by
  have e : ∀ j, j < 64 → ((m.drop at_).take 64).getD j 0 = m.getD (at_ + j) 0 := fun j hj => by simp [List.getD_eq_getElem?_getD, hj]
  unfold word
  rw [e _ (by omega), e _ (by omega), e _ (by omega), e _ (by omega)]
  simp only [Nat.add_assoc]

/-- the first t words of a schedule, and zeros -/
def wPart (bs : List Int) (t : Nat) : List Int := (List.range 64).map fun j => if j < t then (Sum.W bs).getD j 0 else 0
theorem wPart_length (bs : List Int) (t : Nat) : (wPart bs t).length = 64 := by simp [wPart]
theorem wPart_start (bs : List Int) : wPart bs 0 = List.replicate 64 0 := by
  unfold wPart
  rw [List.map_congr_left (g := fun _ => (0 : Int)) (fun j _ => by rw [if_neg (by omega)])]
  rfl
theorem wPart_get (bs : List Int) {t j : Nat} (h : j < t) (hj : j < 64) : (wPart bs t).getD j 0 = (Sum.W bs).getD j 0 := by simp [wPart, List.getD_eq_getElem?_getD, hj, h]
theorem wPart_end (bs : List Int) : wPart bs 64 = Sum.W bs := by
  apply List.ext_getElem (by rw [wPart_length, W_length])
  intro i h1 h2
  rw [wPart_length] at h1
  simp [wPart, h1, List.getD_eq_getElem?_getD, h2]
theorem wPart_step (bs : List Int) {t : Nat} (ht : t < 64) : wPart bs (t + 1) = (wPart bs t).set t ((Sum.W bs).getD t 0) := by
  apply List.ext_getElem (by rw [List.length_set, wPart_length, wPart_length])
  intro i h1 h2
  rw [List.getElem_set]
  by_cases e : t = i
  · subst e; simp [wPart]
  · rw [if_neg e]
    simp only [wPart, List.getElem_map, List.getElem_range]
    by_cases q : i < t
    · rw [if_pos (by omega), if_pos q]
    · rw [if_neg (by omega), if_neg q]

set_option maxRecDepth 100000 in
set_option maxHeartbeats 20000000 in
theorem rsum_any (B : Nat) (A : Option Addr) (n c : Nat) (zs : List Int) (w : World) (h : Ints w .u8 B A n zs) (hB : B ≤ w.heap.size) (hn : n ≤ 1099511627776) :
    Calls Tryd.prog 48 #[.slice A n c] w fun e w' => e = .returned (.agg (arr .u8 (Sum.sha zs))) ∧ Below w.heap.size w w' := by
  have HL := Lib.hid h.1
  have hni : (n : Int) ≤ 1099511627776 := by omega
  have r0 := Row.new (zs := List.replicate 32 0) (k := .u8) w 22 (fun z hz => by rw [List.eq_of_mem_replicate hz]; rfl)
  go_enter Tryd.func48, Tryd.ntmps48
  go_wp2_with fail
  refine (rwords_any _).mono ?_
  rintro e w1 ⟨rfl, hb1⟩
  have s1 := hb1.size
  rw [World.size_alloc] at s1
  have r01 := r0.below hb1 (by simp)
  have b1 : Below w.heap.size w w1 := ((Below.refl _ w).alloc (Nat.le_refl _) _).trans (hb1.mono (by simp))
  clear r0 hb1
  -- the words, in a box
  have k1 := Row.new (zs := List.replicate 64 0) (k := .u32) w1 79 (fun z hz => by rw [List.eq_of_mem_replicate hz]; rfl)
  have k2 := k1.setRow wf_K
  have r02 := (r01.alloc (.cells (arr .u32 (List.replicate 64 0)) 79)).setRow_other (g' := w1.heap.size) (by omega) (arr .u32 Sum.K)
  have b2 := (b1.alloc (by omega) (.cells (arr .u32 (List.replicate 64 0)) 79)).grown (grown_setRow _ w1.heap.size (arr .u32 Sum.K)) (by simp; omega) (fun r e => by cases e; omega)
  have z2 : ((w1.alloc (.cells (arr .u32 (List.replicate 64 0)) 79)).setRow w1.heap.size (arr .u32 Sum.K)).heap.size = w1.heap.size + 1 := by simp
  obtain ⟨w2, hw2⟩ : ∃ w2, (w1.alloc (.cells (arr .u32 (List.replicate 64 0)) 79)).setRow w1.heap.size (arr .u32 Sum.K) = w2 := ⟨_, rfl⟩
  have K2 : Row w2 w1.heap.size 79 .u32 Sum.K := by rw [← hw2]; exact k2
  have R2 : Row w2 w.heap.size 22 .u8 (List.replicate 32 0) := by rw [← hw2]; exact r02
  have B2 : Below w.heap.size w w2 := by rw [← hw2]; exact b2
  have Z2 : w2.heap.size = w1.heap.size + 1 := by rw [← hw2]; exact z2
  have H3 := Row.new w2 81 (eight_wf eight_H0)
  have K3 := K2.alloc (.cells (arr .u32 Sum.H0) 81)
  have R3 := R2.alloc (.cells (arr .u32 Sum.H0) 81)
  have B3 := B2.alloc (by omega) (.cells (arr .u32 Sum.H0) 81)
  have i3 := h.below (B3.mono hB)
  obtain ⟨w3, hw3⟩ : ∃ w3, w2.alloc (.cells (arr .u32 Sum.H0) 81) = w3 := ⟨_, rfl⟩
  have Z3 : w3.heap.size = w1.heap.size + 2 := by rw [← hw3, World.size_alloc, Z2]
  rw [hw3] at H3 K3 R3 B3 i3
  clear K2 R2 B2 r02 b2 z2 k2 r01 b1
  go_wp2_with (first
    | (refine wpList_store_Row rfl 79 _ _ rfl w1.heap.size rfl 79 .u32 _ Sum.K rfl k1 64 info_k rfl rfl ?_; change wpList _ _ _ _ _ ((w1.alloc (.cells (arr .u32 (List.replicate 64 0)) 79)).setRow w1.heap.size (arr .u32 Sum.K)); rw [hw2])
    | (at_builtin; change wpList _ _ _ _ _ (w2.alloc (.cells (arr .u32 Sum.H0) 81)); rw [hw3]; refine wpList_append_ints _ rfl _ _ 34 rfl w.heap.size 5 .u8 1 Tryd.underlying34 info_u8 (.slice none 0 0) [] rfl (Own.nil _ _ _ _) B A n c zs rfl i3 (by simp; omega) (by omega) (by omega) ?_; intro v4 w4 hown4 hg4 hat4; rw [List.nil_append] at hown4)
    | (go_at_call 57; refine (rpad_any (n : Int) n _ (by omega) (by omega)).mono ?_; rintro e w5 ⟨v5, rfl, hown5, hb5⟩; obtain ⟨A5, c5, rfl, _, _, i5⟩ := hown5.form)
    | (at_builtin; refine wpList_append_ints _ rfl _ _ 34 rfl w.heap.size 5 .u8 1 Tryd.underlying34 info_u8 v4 zs rfl (hown4.below hb5) _ _ _ _ _ rfl i5 (by rw [HL.out, pad_length]; omega) (by omega) (by have := hg4.size; have := hb5.size; omega) ?_; intro v6 w6 hown6 hg6 hat6))
  -- the message, where it lies
  obtain ⟨msg, hmsg⟩ : ∃ msg, zs ++ padI n = msg := ⟨_, rfl⟩
  rw [hmsg] at hown6
  have hml : msg.length % 64 = 0 := by rw [← hmsg, List.length_append, HL.out]; exact pad_whole n
  have hm9 : 9 ≤ msg.length := by rw [← hmsg, List.length_append, pad_length]; omega
  have hmx : msg.length ≤ 1099511627776 + 128 := by rw [← hmsg, List.length_append, HL.out, pad_length]; omega
  have hmb : Bs msg := fun z hz => by have := wf_u8 (hown6.1 z hz); exact this
  have HS := Lib.hid (show Sum.sha zs = outB (blocksI msg (msg.length / 64)) by
    unfold Sum.sha
    rw [HL.out, hmsg, ← hmsg, List.length_append, HL.out])
  have g4 := hg4.size
  have g5 := hb5.size
  have g6 := hg6.size
  have d4 : Below w3.heap.size w3 w4 := (Below.refl _ w3).grown hg4 (Nat.le_refl _) (by simp [Value.ownBlock])
  have d5 : Below w3.heap.size w3 w5 := d4.trans (hb5.mono g4)
  have o6 : ∀ q, v4.ownBlock = some q → w3.heap.size ≤ q := fun q hq => by
    rcases hat4 with e | e
    · rw [e] at hq; simp [Value.ownBlock] at hq
    · rw [e] at hq; have := Option.some.inj hq; omega
  have d6 : Below w3.heap.size w3 w6 := d5.grown hg6 (by omega) o6
  have b6 : Below w.heap.size w w6 := B3.trans (d6.mono (by omega))
  have K6 := K3.below d6 K3.lt
  have R6 := R3.below d6 R3.lt
  have H6 := H3.below d6 (by rw [Z2, Z3]; omega)
  obtain ⟨gm, cm, hv6, hgm, hgl, hc61, hc62, hcell, _⟩ := hown6.at_ (by omega)
  have hgm3 : gm ≠ w1.heap.size + 1 := fun e => by
    rcases hown6.2.2 with ⟨hv, h0⟩ | ⟨q, cap, cur, hv, _, hq, _⟩
    · omega
    · rw [hv6] at hv
      injection hv with e1 e2 e3
      injection e1 with e1
      injection e1 with e1
      subst e1
      rw [Z2] at H6
      have h9 := H6.2
      rw [← e, hq] at h9
      cases h9
  subst hv6
  rw [Z2] at H6
  have ML := Lib.hid hml
  have HMS := Lib.hid hmsg
  have s6 : w1.heap.size + 2 ≤ w6.heap.size := by omega
  have hnp : w.heap.size < w1.heap.size + 1 := by omega
  have hp34 : w1.heap.size ≠ w1.heap.size + 1 := by omega
  have hp36 : w1.heap.size < w6.heap.size := by omega
  have hgl6 := hgl
  generalize w1.heap.size + 1 = p4 at H6 hgm3 s6 hnp hp34 ⊢
  obtain ⟨L, hL⟩ : ∃ L, msg.length = L := ⟨_, rfl⟩
  have HLM := Lib.hid hL
  rw [hL] at hml hm9 hmx hc61 hcell ⊢
  have hLi : (L : Int) ≤ 1099511627904 := by omega
  -- all that is stored from here on lies in the state's box, or is new
  have hSg : ¬ (gm = p4 ∨ w6.heap.size ≤ gm) := by omega
  have hS3 : ¬ (w1.heap.size = p4 ∨ w6.heap.size ≤ w1.heap.size) := by omega
  have hS0 : ¬ (w.heap.size = p4 ∨ w6.heap.size ≤ w.heap.size) := by omega
  clear hL hown6 hown4 hown5 i5 i3 H3 K3 R3 B3 hg4 hg6 hb5 hat4 hat6 d4 d5 d6 o6 g4 g5 g6 k1 hmsg
  go_loopw [6] (fun i wr => ∃ j : Nat, 64 * j ≤ L ∧ i = .int .i64 ((64 * j : Nat) : Int) ∧ Only (fun b => b = p4 ∨ w6.heap.size ≤ b) w6 wr ∧ Row wr p4 81 .u32 (blocksI msg j) ∧ Below w.heap.size w wr) (fun i _ => L - (intOf i).toNat)
  case atStart => exact ⟨0, by omega, rfl, Only.refl _ _, H6, b6⟩
  case round =>
    clear H6 b6
    obtain ⟨j, hj, rfl, hon, hH, hbl⟩ := hrel
    by_cases hlt : 64 * j < L
    · obtain ⟨a, ha⟩ : ∃ a, 64 * j = a := ⟨_, rfl⟩
      have HA := Lib.hid ha
      have haL : a + 64 ≤ L := by omega
      rw [ha] at hlt ⊢
      have hai : (a : Int) < (L : Int) := by omega
      have ha0 : (0 : Int) ≤ (a : Int) := by omega
      have hai2 : (a : Int) + 64 ≤ (L : Int) := by omega
      clear ha hj
      have n7 : Row (wr.alloc (.cells (arr .u32 (List.replicate 64 0)) 79)) wr.heap.size 79 .u32 (wPart ((msg.drop a).take 64) 0) := by
        rw [wPart_start]; exact Row.new wr _ (fun z hz => by rw [List.eq_of_mem_replicate hz]; rfl)
      have o7 : Only (fun b => b = p4 ∨ w6.heap.size ≤ b) w6 (wr.alloc (.cells (arr .u32 (List.replicate 64 0)) 79)) := hon.trans (Only.of_below ((Below.refl _ wr).alloc (Nat.le_refl _) _))
      have H7 := hH.alloc (.cells (arr .u32 (List.replicate 64 0)) 79)
      have b7 := hbl.alloc hbl.size (.cells (arr .u32 (List.replicate 64 0)) 79)
      have hs7 := hon.size
      have hp47 : p4 ≠ wr.heap.size := by have := hH.lt; omega
      have hw7 := hbl.size
      go_wp2_with fail
      generalize wr.heap.size = p7 at n7 hs7 hp47 hw7 ⊢
      go_loopw [8] (fun i ws => ∃ t : Nat, t ≤ 64 ∧ i = .int .i64 (t : Int) ∧ Only (fun b => b = p4 ∨ w6.heap.size ≤ b) w6 ws ∧ Row ws p4 81 .u32 (blocksI msg j) ∧ Row ws p7 79 .u32 (wPart ((msg.drop a).take 64) t) ∧ Below w.heap.size w ws) (fun i _ => 64 - (intOf i).toNat)
      case atStart => exact ⟨0, by omega, rfl, o7, H7, n7, b7⟩
      case round =>
        clear n7 o7 H7 b7 hon hH hbl
        obtain ⟨t, ht, rfl, hon, hH, hW, hbl⟩ := hrel
        by_cases hlt64 : t < 64
        · have hti : (t : Int) < 64 := by omega
          have ht0 : (0 : Int) ≤ (t : Int) := by omega

          by_cases h16 : t < 16
          · have h16i : (t : Int) < 16 := by omega
            obtain ⟨p, hp⟩ : ∃ p, a + 4 * t = p := ⟨_, rfl⟩
            have HP := Lib.hid (show (a : Int) + 4 * (t : Int) = (p : Int) by omega)
            have HWD := Lib.hid (word_at msg a t (by rw [HLM.out]; omega) h16)
            have hpL : p + 3 < L := by omega
            have cc : ∀ q, q < L → wr.cell? ⟨gm, q, none⟩ = some (.int .u8 (msg.getD q 0)) := fun q hq => hon.cell (p := ⟨gm, q, none⟩) hSg (hcell q hq)
            rw [hp] at HWD
            have c0 := cc p (by omega)
            have c1 := cc (p + 1) (by omega)
            have c2 := cc (p + 2) (by omega)
            have c3 := cc (p + 3) (by omega)
            have y0 := hmb.at_ p
            have y1 := hmb.at_ (p + 1)
            have y2 := hmb.at_ (p + 2)
            have y3 := hmb.at_ (p + 3)
            have HST := Lib.hid (wPart_step ((msg.drop a).take 64) hlt64)
            obtain ⟨old, hco⟩ : ∃ old, wr.cell? ⟨p7, t, none⟩ = some old := ⟨_, hW.cell (by rw [wPart_length]; exact hlt64)⟩
            have hfo := hW.frozen t
            generalize msg.getD p 0 = x0 at c0 y0 HWD
            generalize msg.getD (p + 1) 0 = x1 at c1 y1 HWD
            generalize msg.getD (p + 2) 0 = x2 at c2 y2 HWD
            generalize msg.getD (p + 3) 0 = x3 at c3 y3 HWD
            have w1' : IntKind.i64.wrap ((p : Int) + 1) = ((p + 1 : Nat) : Int) := by rw [IntWalk.i64_in _ (by omega)]; omega
            have w2' : IntKind.i64.wrap ((p : Int) + 2) = ((p + 2 : Nat) : Int) := by rw [IntWalk.i64_in _ (by omega)]; omega
            have w3' : IntKind.i64.wrap ((p : Int) + 3) = ((p + 3 : Nat) : Int) := by rw [IntWalk.i64_in _ (by omega)]; omega
            have hp0 : p < L := by omega
            have hp1 : p + 1 < L := by omega
            have hp2 : p + 2 < L := by omega
            clear hp cc
            generalize p + 1 = p1 at c1 w1' hp1
            generalize p + 2 = p2 at c2 w2' hp2
            generalize p + 3 = p3 at c3 w3' hpL
            have i0 : (p : Int) < (L : Int) := by omega
            have i1 : (p1 : Int) < (L : Int) := by omega
            have i2 : (p2 : Int) < (L : Int) := by omega
            have i3 : (p3 : Int) < (L : Int) := by omega
            go_wp2_with fail
            rw [HP.out]
            have HO := Lib.hid (or4 y0 y1 y2 y3)
            have HV := Lib.hid (show (bits .or .u32 (bits .or .u32 (bits .or .u32 (x0 * 16777216) (x1 * 65536)) (x2 * 256)) x3) = (Sum.W ((msg.drop a).take 64)).getD t 0 by rw [or4 y0 y1 y2 y3, W_word _ h16, HWD.out])
            have v0 : IntKind.u32.wrap x0 = x0 := IntWalk.u32_in _ (by omega)
            have v1 : IntKind.u32.wrap x1 = x1 := IntWalk.u32_in _ (by omega)
            have v2 : IntKind.u32.wrap x2 = x2 := IntWalk.u32_in _ (by omega)
            have v3 : IntKind.u32.wrap x3 = x3 := IntWalk.u32_in _ (by omega)
            have v4 : IntKind.u32.wrap (x0 * 16777216) = x0 * 16777216 := IntWalk.u32_in _ (by omega)
            have v5 : IntKind.u32.wrap (x1 * 65536) = x1 * 65536 := IntWalk.u32_in _ (by omega)
            have v6 : IntKind.u32.wrap (x2 * 256) = x2 * 256 := IntWalk.u32_in _ (by omega)
            clear y0 y1 y2 y3 HO HWD
            go_still_tail 31, (by kernel_rfl)
            change wpList _ _ _ _ _ wr.drew
            clear v0 v1 v2 v3 v4 v5 v6 w1' w2' w3'
            go_wp2_with fail
            rw [HV.out]
            have o9 : Only (fun b => b = p4 ∨ w6.heap.size ≤ b) w6 (wr.setCell ⟨p7, t, none⟩ (.int .u32 ((Sum.W ((msg.drop a).take 64)).getD t 0))) := hon.trans (Only.of_grown (grown_setCell _ _ _ _) (fun r e => by cases e; exact .inr hs7))
            have q9 := hH.other (p := ⟨p7, t, none⟩) (by simp; omega) (.int .u32 ((Sum.W ((msg.drop a).take 64)).getD t 0))
            have r9 := hW.set t (wf_u32 (r32_W (bs := (msg.drop a).take 64) (fun z hz => hmb z (List.mem_of_mem_drop (List.mem_of_mem_take hz))) t))
            rw [← HST.out] at r9
            have b9 := hbl.setCell (p := ⟨p7, t, none⟩) (by simp; omega) (.int .u32 ((Sum.W ((msg.drop a).take 64)).getD t 0))
            go_roundw
            case rel => exact ⟨t + 1, by omega, by go_num, ⟨o9.1, o9.2⟩, q9, r9, b9.drew⟩
            case measure => simp [intOf]; omega
          · have h16i : ¬ (t : Int) < 16 := by omega
            have HV := Lib.hid (W_next ((msg.drop a).take 64) (t := t) (by omega) hlt64)
            have HST := Lib.hid (wPart_step ((msg.drop a).take 64) hlt64)
            have hbb : Bs ((msg.drop a).take 64) := fun z hz => hmb z (List.mem_of_mem_drop (List.mem_of_mem_take hz))
            have cc : ∀ q, q < t → wr.cell? ⟨p7, q, none⟩ = some (.int .u32 ((Sum.W ((msg.drop a).take 64)).getD q 0)) := fun q hq => by
              rw [hW.cell (by rw [wPart_length]; omega), wPart_get _ hq (by omega)]
            have c2 := cc (t - 2) (by omega)
            have c7 := cc (t - 7) (by omega)
            have c15 := cc (t - 15) (by omega)
            have c16 := cc (t - 16) (by omega)
            have y2 := r32_W hbb (t - 2)
            have y15 := r32_W hbb (t - 15)
            obtain ⟨old, hco⟩ : ∃ old, wr.cell? ⟨p7, t, none⟩ = some old := ⟨_, hW.cell (by rw [wPart_length]; exact hlt64)⟩
            have hfo := hW.frozen t
            have w2' : IntKind.i64.wrap ((t : Int) - 2) = ((t - 2 : Nat) : Int) := by rw [IntWalk.i64_in _ (by omega)]; omega
            have w7' : IntKind.i64.wrap ((t : Int) - 7) = ((t - 7 : Nat) : Int) := by rw [IntWalk.i64_in _ (by omega)]; omega
            have w15' : IntKind.i64.wrap ((t : Int) - 15) = ((t - 15 : Nat) : Int) := by rw [IntWalk.i64_in _ (by omega)]; omega
            have w16' : IntKind.i64.wrap ((t : Int) - 16) = ((t - 16 : Nat) : Int) := by rw [IntWalk.i64_in _ (by omega)]; omega
            have l2 : t - 2 < 64 := by omega
            have l7 : t - 7 < 64 := by omega
            have l15 : t - 15 < 64 := by omega
            have l16 : t - 16 < 64 := by omega
            generalize (Sum.W ((msg.drop a).take 64)).getD (t - 2) 0 = e2 at c2 y2 HV
            generalize (Sum.W ((msg.drop a).take 64)).getD (t - 7) 0 = e7 at c7 HV
            generalize (Sum.W ((msg.drop a).take 64)).getD (t - 15) 0 = e15 at c15 y15 HV
            generalize (Sum.W ((msg.drop a).take 64)).getD (t - 16) 0 = e16 at c16 HV
            clear cc
            generalize t - 2 = t2 at c2 w2' l2
            generalize t - 7 = t7 at c7 w7' l7
            generalize t - 15 = t15 at c15 w15' l15
            generalize t - 16 = t16 at c16 w16' l16
            have i2 : (t2 : Int) < 64 := by omega
            have i7 : (t7 : Int) < 64 := by omega
            have i15 : (t15 : Int) < 64 := by omega
            have i16 : (t16 : Int) < 64 := by omega
            have j2 := y2.1
            have j2' := y2.2
            have j15 := y15.1
            have j15' := y15.2
            have W7 := Lib.hid w7'
            have W16 := Lib.hid w16'
            have W2 := Lib.hid w2'
            have W15 := Lib.hid w15'
            clear w7' w16' w2' w15'
            go_wp2_with fail
            have w2' := W2.out
            have w15' := W15.out
            go_quiet (fail)
            clear w2' w15'
            go_wp2_with fail
            refine (rturn_any e15 7 _ y15 (by omega) (by omega)).mono ?_
            rintro e w' ⟨rfl, rfl⟩
            go_wp2_with fail
            refine (rturn_any e15 18 _ y15 (by omega) (by omega)).mono ?_
            rintro e w' ⟨rfl, rfl⟩
            go_wp2_with fail
            refine (rturn_any e2 17 _ y2 (by omega) (by omega)).mono ?_
            rintro e w' ⟨rfl, rfl⟩
            go_wp2_with fail
            refine (rturn_any e2 19 _ y2 (by omega) (by omega)).mono ?_
            rintro e w' ⟨rfl, rfl⟩
            go_wp2_with fail
            generalize hw8 : wr.drewN _ = w8
            have hst : Still wr w8 := by rw [← hw8]; exact (Still.refl _).drewN _
            have g7 := (hst.cell _).trans c7
            have g16 := (hst.cell _).trans c16
            have go := (hst.cell _).trans hco
            have gf : w8.frozen? ⟨p7, t, none⟩ = false := by rw [← hw8]; exact hfo
            have hW8 := row_still hst hW
            have hH8 := row_still hst hH
            have hb8 := hbl.trans (hst.below w.heap.size)
            have ho8 := hon.trans (Only.of_below (hst.below wr.heap.size))
            have w7' := W7.out
            have w16' := W16.out
            have u1 : ∀ x y : Int, IntKind.u32.wrap (x + y) = addI x y := fun x y => by rw [IntKind.wrap_u32]; rfl
            clear hw8
            go_still_tail 15, (by kernel_rfl)
            change wpList _ _ _ _ _ w8.drew
            clear u1 w7' w16'
            have HV2 : Hid (addI (addI (addI (bits .xor .u32 (bits .xor .u32 (rotI e2 17) (rotI e2 19)) (e2 / 1024)) e7) (bits .xor .u32 (bits .xor .u32 (rotI e15 7) (rotI e15 18)) (e15 / 8))) e16 = (Sum.W ((msg.drop a).take 64)).getD t 0) := Lib.hid (by rw [HV.out]; rfl)
            go_wp2_with fail
            rw [HV2.out]
            have o9 : Only (fun b => b = p4 ∨ w6.heap.size ≤ b) w6 (w8.setCell ⟨p7, t, none⟩ (.int .u32 ((Sum.W ((msg.drop a).take 64)).getD t 0))) := ho8.trans (Only.of_grown (grown_setCell _ _ _ _) (fun r e => by cases e; exact .inr hs7))
            have q9 := hH8.other (p := ⟨p7, t, none⟩) (by simp; omega) (.int .u32 ((Sum.W ((msg.drop a).take 64)).getD t 0))
            have r9 := hW8.set t (wf_u32 (r32_W hbb t))
            rw [← HST.out] at r9
            have b9 := hb8.setCell (p := ⟨p7, t, none⟩) (by simp; omega) (.int .u32 ((Sum.W ((msg.drop a).take 64)).getD t 0))
            go_roundw
            case rel => exact ⟨t + 1, by omega, by go_num, ⟨o9.1, o9.2⟩, q9, r9, b9.drew⟩
            case measure => simp [intOf]; omega

        · have ht64 : t = 64 := by omega
          subst ht64
          rw [wPart_end] at hW
          have e8 := eight_blocks msg j
          have HE := Lib.hid e8.1
          have hbb : Bs ((msg.drop a).take 64) := fun z hz => hmb z (List.mem_of_mem_drop (List.mem_of_mem_take hz))
          have n14 := Row.new (zs := List.replicate 8 0) (k := .u32) wr 81 (fun z hz => by rw [List.eq_of_mem_replicate hz]; rfl)
          have m14 := n14.setRow (eight_wf e8)
          have hz := hW.lt
          have hzp := hH.lt
          have mW := (hW.alloc (.cells (arr .u32 (List.replicate 8 0)) 81)).setRow_other (g' := wr.heap.size) (by omega) (arr .u32 (blocksI msg j))
          have mH := (hH.alloc (.cells (arr .u32 (List.replicate 8 0)) 81)).setRow_other (g' := wr.heap.size) (by omega) (arr .u32 (blocksI msg j))
          have bz : Below wr.heap.size wr ((wr.alloc (.cells (arr .u32 (List.replicate 8 0)) 81)).setRow wr.heap.size (arr .u32 (blocksI msg j))) := ((Below.refl _ wr).alloc (Nat.le_refl _) _).grown (grown_setRow _ _ _) (by simp) (fun r e => by cases e; exact Nat.le_refl _)
          have mo := hon.trans (Only.of_below bz)
          have mb := hbl.trans (bz.mono hbl.size)
          obtain ⟨w9, hw9⟩ : ∃ w9, (wr.alloc (.cells (arr .u32 (List.replicate 8 0)) 81)).setRow wr.heap.size (arr .u32 (blocksI msg j)) = w9 := ⟨_, rfl⟩
          rw [hw9] at m14 mW mH mo mb
          go_wp2_with (first
            | (refine wpList_load_Row rfl 81 _ rfl p4 rfl 81 .u32 _ hH 8 38 Tryd.underlying81 info_8 HE.out ?_)
            | (refine wpList_store_Row rfl 81 _ _ rfl wr.heap.size rfl 81 .u32 _ _ rfl n14 8 info_8 HE.out rfl ?_; change wpList _ _ _ _ _ ((wr.alloc (.cells (arr .u32 (List.replicate 8 0)) 81)).setRow wr.heap.size (arr .u32 (blocksI msg j))); rw [hw9]))
          clear hH hW hon hbl n14 hw9 bz
          have hp14 : wr.heap.size ≠ p4 := by omega
          have hp14' : wr.heap.size ≠ p7 := by omega
          have hp146 : w6.heap.size ≤ wr.heap.size := by omega
          generalize wr.heap.size = p14 at m14 hp14 hp14' hp146 ⊢
          generalize hh0 : blocksI msg j = h0 at m14 mH e8 HE ⊢
          have HH0 := Lib.hid hh0
          clear hh0
          have eW : (Sum.W ((msg.drop a).take 64)).length = 64 := W_length _
          generalize hbk : (msg.drop a).take 64 = bk at mW hbb eW ⊢
          have HBK := Lib.hid hbk
          clear hbk
          go_loopw [15] (fun i wr => ∃ t : Nat, t ≤ 64 ∧ i = .int .i64 (t : Int) ∧ Only (fun b => b = p4 ∨ w6.heap.size ≤ b) w6 wr ∧ Row wr p4 81 .u32 h0 ∧ Row wr p7 79 .u32 (Sum.W bk) ∧ Row wr p14 81 .u32 (Sum.rounds (Sum.W bk) t h0) ∧ Below w.heap.size w wr) (fun i _ => 64 - (intOf i).toNat)
          case atStart => exact ⟨0, by omega, rfl, mo, mH, mW, m14, mb⟩
          case round =>
            clear mo mH mW m14 mb
            obtain ⟨t, ht, rfl, hon, hH, hW, hV, hbl⟩ := hrel
            by_cases hlt64 : t < 64
            · have hti : (t : Int) < 64 := by omega
              have ht0 : (0 : Int) ≤ (t : Int) := by omega
              have eR := Lib.hid (show Sum.rounds (Sum.W bk) (t + 1) h0 = Sum.round (Sum.K.getD t 0) ((Sum.W bk).getD t 0) (Sum.rounds (Sum.W bk) t h0) from rfl)
              have eV := e8.rounds (Sum.W bk) t
              obtain ⟨x0, x1, x2, x3, x4, x5, x6, x7, hx, y0, y1, y2, y3, y4, y5, y6, y7⟩ := eV.out
              rw [hx] at hV eR
              clear hx eV
              have c0 := hV.cell (i := 0) (by simp)
              have c1 := hV.cell (i := 1) (by simp)
              have c2 := hV.cell (i := 2) (by simp)
              have c3 := hV.cell (i := 3) (by simp)
              have c4 := hV.cell (i := 4) (by simp)
              have c5 := hV.cell (i := 5) (by simp)
              have c6 := hV.cell (i := 6) (by simp)
              have c7 := hV.cell (i := 7) (by simp)
              simp only [List.getD_eq_getElem?_getD, List.getElem?_cons_zero, List.getElem?_cons_succ, Option.getD_some] at c0 c1 c2 c3 c4 c5 c6 c7
              have cK := (hon.row hS3 K6).cell (i := t) (by rw [K_length]; exact hlt64)
              have cW := hW.cell (i := t) (by rw [eW]; exact hlt64)
              generalize Sum.K.getD t 0 = kk at cK eR
              generalize (Sum.W bk).getD t 0 = ww at cW eR
              go_wp2_with fail
              go_quiet ((go_at_call 58; exact quiet_same (rturn_i x4 _ _ y4 (by omega) (by omega))))
              have hnot : (if IntKind.u32.signed = true then (-1 : Int) else IntKind.u32.max) = 4294967295 := rfl
              go_upto_region 24 with fail
              clear hnot
              go_quiet (fail)
              generalize hw8 : (wr.drewN _).drewN _ = w8
              have hst : Still wr w8 := by rw [← hw8]; exact ((Still.refl _).drewN _).drewN _
              clear hw8
              have d0 := (hst.cell _).trans c0
              have d1 := (hst.cell _).trans c1
              have d2 := (hst.cell _).trans c2
              have d3 := (hst.cell _).trans c3
              have d4 := (hst.cell _).trans c4
              have d5 := (hst.cell _).trans c5
              have d6 := (hst.cell _).trans c6
              have HV := row_still hst hV
              clear c0 c1 c2 c3 c4 c5 c6 c7 cK cW
              go_upto_region 25 with fail
              go_quiet ((go_at_call 58; exact quiet_same (rturn_i x0 _ _ y0 (by omega) (by omega))))
              generalize hw9 : w8.drewN _ = w9'
              have hst2 : Still w8 w9' := by rw [← hw9]; exact (Still.refl _).drewN _
              clear hw9 d0 d1 d2 d3 d4 d5 d6
              have HV9 := row_still hst2 HV
              have f0 := HV9.cell (i := 0) (by simp)
              have f1 := HV9.cell (i := 1) (by simp)
              have f2 := HV9.cell (i := 2) (by simp)
              have f3 := HV9.cell (i := 3) (by simp)
              have f4 := HV9.cell (i := 4) (by simp)
              have f5 := HV9.cell (i := 5) (by simp)
              have f6 := HV9.cell (i := 6) (by simp)
              simp only [List.getD_eq_getElem?_getD, List.getElem?_cons_zero, List.getElem?_cons_succ, Option.getD_some] at f0 f1 f2 f3 f4 f5 f6
              have st9 := hst.trans hst2
              go_wp2_with (refine wpList_store_Row rfl 81 _ _ rfl p14 rfl 81 .u32 _ [_, _, _, _, _, _, _, _] rfl HV9 8 info_8 rfl rfl ?_)
              rw [round_ref y4 y5 y6, ← eR.out]
              have e10 := e8.rounds (Sum.W bk) (t + 1)
              have r10 := HV9.setRow (eight_wf e10)
              have q10 := (row_still st9 hH).setRow_other (g' := p14) hp14 (arr .u32 (Sum.rounds (Sum.W bk) (t + 1) h0))
              have p10 := (row_still st9 hW).setRow_other (g' := p14) hp14' (arr .u32 (Sum.rounds (Sum.W bk) (t + 1) h0))
              have o10 := (hon.trans (Only.of_below (st9.below wr.heap.size))).trans (Only.of_grown (grown_setRow w9' p14 (arr .u32 (Sum.rounds (Sum.W bk) (t + 1) h0))) (fun r e => by cases e; exact .inr hp146))
              have b10 := (hbl.trans (st9.below w.heap.size)).grown (grown_setRow w9' p14 (arr .u32 (Sum.rounds (Sum.W bk) (t + 1) h0))) (by rw [st9.size]; exact hbl.size) (fun r e => by cases e; omega)
              go_roundw
              case rel => exact ⟨t + 1, by omega, by go_num, o10, q10, p10, r10, b10⟩
              case measure => simp [intOf]; omega

            · have ht64 : t = 64 := by omega
              rw [ht64] at hV
              have hti : ¬ (t : Int) < 64 := by omega
              have e64 := e8.rounds (Sum.W bk) 64
              have HB9 := Lib.hid (show sumUp h0 (Sum.rounds (Sum.W bk) 64 h0) = Sum.block h0 bk from rfl)
              generalize Sum.rounds (Sum.W bk) 64 h0 = vv at hV e64 HB9
              rw [← sumPart_start vv HE.out] at hH
              go_upto_region 29 with fail
              go_loopw [21] (fun i wr => ∃ q : Nat, q ≤ 8 ∧ i = .int .i64 (q : Int) ∧ Only (fun b => b = p4 ∨ w6.heap.size ≤ b) w6 wr ∧ Row wr p4 81 .u32 (sumPart h0 vv q) ∧ Row wr p14 81 .u32 vv ∧ Below w.heap.size w wr) (fun i _ => 8 - (intOf i).toNat)
              case atStart => exact ⟨0, by omega, rfl, hon, hH, hV, hbl⟩
              case round =>
                clear hon hH hV hbl hW
                obtain ⟨q, hq, rfl, hon, hH, hV, hbl⟩ := hrel
                by_cases hlt8 : q < 8
                · have hqi : (q : Int) < 8 := by omega
                  have hq0 : (0 : Int) ≤ (q : Int) := by omega
                  have c1 := hH.cell (i := q) (by rw [sumPart_length]; exact hlt8)
                  rw [sumPart_get _ _ hlt8, if_neg (by omega)] at c1
                  have c2 := hV.cell (i := q) (by rw [e64.1]; exact hlt8)
                  have f1 := hH.frozen q
                  have HST := Lib.hid (sumPart_step h0 vv hlt8)
                  have u1 : ∀ x y : Int, IntKind.u32.wrap (x + y) = addI x y := fun x y => by rw [IntKind.wrap_u32]; rfl
                  generalize h0.getD q 0 = z1 at c1 HST
                  generalize vv.getD q 0 = z2 at c2 HST
                  go_upto_region 31 with fail
                  go_still_tail 9, (by kernel_rfl)
                  change wpList _ _ _ _ _ wr.drew
                  clear u1
                  have o9 := hon.trans (Only.of_grown (grown_setCell wr p4 q (.int .u32 (addI z1 z2))) (fun r e => by cases e; exact .inl rfl))
                  have r9 := hH.set q (wf_u32 (r32_add z1 z2))
                  rw [← HST.out] at r9
                  have q9 := hV.other (p := ⟨p4, q, none⟩) (by simp; omega) (.int .u32 (addI z1 z2))
                  have b9 := hbl.setCell (p := ⟨p4, q, none⟩) (by simp; omega) (.int .u32 (addI z1 z2))
                  go_wp2_with fail
                  go_roundw
                  case rel => exact ⟨q + 1, by omega, by go_num, ⟨o9.1, o9.2⟩, r9, q9, b9.drew⟩
                  case measure => simp [intOf]; omega
                · have hq8 : q = 8 := by omega
                  subst hq8
                  rw [sumPart_end, HB9.out, ← HH0.out, ← HBK.out] at hH
                  have e9 : Sum.block (blocksI msg j) ((msg.drop a).take 64) = blocksI msg (j + 1) := by rw [blocksI, HA.out]
                  rw [e9] at hH
                  have ea : (a : Int) + 64 = ((64 * (j + 1) : Nat) : Int) := by have := HA.out; omega
                  have EA := Lib.hid ea
                  clear ea e9
                  go_wp2_with fail
                  rw [EA.out]
                  go_roundw
                  case rel => exact ⟨j + 1, by have := HA.out; omega, rfl, hon, hH, hbl⟩
                  case measure => have := HA.out; simp [intOf]; omega
    · have hjL : 64 * j = L := by omega
      have hjn : j = L / 64 := by omega
      rw [hjn] at hH
      rw [HLM.out] at HS
      have e8 := eight_blocks msg (L / 64)
      generalize blocksI msg (L / 64) = hh at hH HS e8
      have H8 := Lib.hid e8.1
      have R9 := hon.row hS0 R6
      clear hjn
      have hji : ¬ ((64 * j : Nat) : Int) < (L : Int) := by omega
      go_upto_region 34 with fail
      have n22 := Row.new (zs := List.replicate 32 0) (k := .u8) wr 22 (fun z hz => by rw [List.eq_of_mem_replicate hz]; rfl)
      rw [← outK_start hh] at n22
      have H22 := hH.alloc (.cells (arr .u8 (List.replicate 32 0)) 22)
      have R22 := R9.alloc (.cells (arr .u8 (List.replicate 32 0)) 22)
      have b22 := hbl.alloc hbl.size (.cells (arr .u8 (List.replicate 32 0)) 22)
      have hz22 := hH.lt
      have hz23 := hbl.size
      have hz24 := R9.lt
      clear hH R9 hbl hon
      generalize wr.heap.size = p22 at n22 hz22 hz23 hz24 ⊢
      go_loopw [23] (fun i wr => ∃ k : Nat, k ≤ 32 ∧ i = .int .i64 (k : Int) ∧ Row wr p22 22 .u8 (outK hh k) ∧ Row wr p4 81 .u32 hh ∧ Row wr w.heap.size 22 .u8 (List.replicate 32 0) ∧ Below w.heap.size w wr) (fun i _ => 32 - (intOf i).toNat)
      case atStart => exact ⟨0, by omega, rfl, n22, H22, R22, b22⟩
      case round =>
        clear n22 H22 R22 b22
        obtain ⟨k, hk, rfl, hO, hH, hR, hbl⟩ := hrel
        by_cases hlt32 : k < 32
        · have hki : (k : Int) < 32 := by omega
          have hk0 : (0 : Int) ≤ (k : Int) := by omega
          have c1 := hH.cell (i := k / 4) (by rw [H8.out]; omega)
          have y1 : R32 (hh.getD (k / 4) 0) := by
            rw [List.getD_eq_getElem?_getD, List.getElem?_eq_getElem (by rw [H8.out]; omega)]
            exact e8.2 _ (List.getElem_mem _)
          obtain ⟨old, hco⟩ : ∃ old, wr.cell? ⟨p22, k, none⟩ = some old := ⟨_, hO.cell (by rw [outK_length]; exact hlt32)⟩
          have hfo := hO.frozen k
          have HST := Lib.hid (outK_step hh hlt32)
          generalize hh.getD (k / 4) 0 = x at c1 y1 HST
          have j1 := y1.1
          have j2 := y1.2
          obtain ⟨sh, hsh⟩ : ∃ sh, 24 - 8 * (k % 4) = sh := ⟨_, rfl⟩
          rw [hsh] at HST
          have he : (24 : Int) - 8 * ((k : Int) % 4) = (sh : Int) := by omega
          have hs24 : (sh : Int) ≤ 24 := by omega
          have hs0 : (0 : Int) ≤ (sh : Int) := by omega
          clear hsh
          have r9 := hO.set k (z := x / 2 ^ sh % 256) (by simp [Lit.wf, IntKind.min, IntKind.max, IntKind.signed, IntKind.bits]; omega)
          rw [← HST.out] at r9
          have q9 := hH.other (p := ⟨p22, k, none⟩) (by simp; omega) (.int .u8 (x / 2 ^ sh % 256))
          have s9 := hR.other (p := ⟨p22, k, none⟩) (by simp; omega) (.int .u8 (x / 2 ^ sh % 256))
          have b9 := hbl.setCell (p := ⟨p22, k, none⟩) (by simp; omega) (.int .u8 (x / 2 ^ sh % 256))
          go_wp2_with fail
          go_roundw
          case rel => exact ⟨k + 1, by omega, by go_num, r9, q9, s9, b9⟩
          case measure => simp [intOf]; omega
        · have hk32 : k = 32 := by omega
          subst hk32
          rw [outK_end] at hO
          have HO := Lib.hid (out_length hh)
          go_wp2_with (first
            | (refine wpList_load_Row rfl 22 _ rfl p22 rfl 22 .u8 _ hO 32 5 Tryd.underlying22 info_32 HO.out ?_)
            | (refine wpList_store_Row rfl 22 _ _ rfl w.heap.size rfl 22 .u8 _ _ rfl hR 32 info_32 HO.out rfl ?_))
          have r9 := hR.setRow hO.1
          refine bodyPost_ret (v := .agg (arr .u8 (outB hh))) (results_Row rfl _ _ w.heap.size _ _ _ rfl r9 32 5 Tryd.underlying22 info_32 HO.out) rfl ?_
          exact ⟨by rw [HS.out], hbl.grown (grown_setRow _ _ _) hbl.size (fun r e => by cases e; exact Nat.le_refl _)⟩
end Go.Proofs.YtoelgcdjhekafaaDoor.Sha
namespace Go.Proofs.YtoelgcdjhekafaaDoor.Mac
open Go.RowKit Go.Proofs.YtoelgcdjhekafaaDoor.Mem Go.Proofs.YtoelgcdjhekafaaDoor.Help Go.Proofs.YtoelgcdjhekafaaDoor.Sum Go.Proofs.YtoelgcdjhekafaaDoor.Sha
set_option linter.unusedVariables false
attribute [local irreducible] wpList wpListIn

/-- the first k of 64, turned; zeros behind -/
def upto (t : Int) (bs : List Int) (k : Nat) : List Int := turned t (bs.take k) ++ List.replicate (64 - k) 0
theorem upto_start (t : Int) (bs : List Int) (h : bs.length = 64) : upto t bs 0 = List.replicate 64 0 := by simp only [upto, List.take_zero, turned, List.map_nil, List.nil_append]
theorem upto_length (t : Int) (bs : List Int) (k : Nat) (h : bs.length = 64) (hk : k ≤ 64) : (upto t bs k).length = 64 := by
  rw [upto, List.length_append, turned_length, List.length_take, List.length_replicate]; omega
theorem upto_end (t : Int) (bs : List Int) (h : bs.length = 64) : upto t bs 64 = turned t bs := by
  rw [upto, List.take_of_length_le (by omega), Nat.sub_self, List.replicate_zero, List.append_nil]
theorem upto_set (t : Int) (bs : List Int) {k : Nat} (h : bs.length = 64) (hk : k < 64) : (upto t bs k).set k (flip t (bs.getD k 0)) = upto t bs (k + 1) := by
  have hl : (turned t (bs.take k)).length = k := by rw [turned_length, List.length_take]; omega
  obtain ⟨m, hm⟩ : ∃ m, 64 - k = m + 1 := ⟨63 - k, by omega⟩
  have hm2 : 64 - (k + 1) = m := by omega
  have hkb : k < bs.length := by omega
  unfold upto
  rw [hm2, hm, List.set_append_right _ _ (by omega), hl, Nat.sub_self, List.replicate_succ, List.set_cons_zero, List.take_succ_eq_append_getElem hkb,
    show turned t (bs.take k ++ [bs[k]]) = turned t (bs.take k) ++ [flip t bs[k]] by rw [turned, List.map_append]; rfl, List.append_assoc, List.getD_eq_getElem?_getD, List.getElem?_eq_getElem hkb]
  rfl
theorem blk_get_lt (key : List Int) {k : Nat} (h : k < (fit key).length) : (blk key).getD k 0 = (fit key).getD k 0 := by
  rw [blk, List.getD_eq_getElem?_getD, List.getElem?_append_left h, ← List.getD_eq_getElem?_getD]
theorem blk_get_ge (key : List Int) {k : Nat} (h : (fit key).length ≤ k) : (blk key).getD k 0 = 0 := by
  rw [blk, List.getD_eq_getElem?_getD, List.getElem?_append_right h, List.getElem?_replicate]
  split <;> rfl

set_option maxRecDepth 100000 in
set_option maxHeartbeats 8000000 in
theorem rtag_any (B B' : Nat) (A A2 : Option Addr) (n c n2 c2 : Nat) (zs ys : List Int) (w : World) (h : Ints w .u8 B A n zs) (hB : B ≤ w.heap.size) (hn : n ≤ 1099511627776) (h2' : Ints w .u8 B' A2 n2 ys) (hB' : B' ≤ w.heap.size) (hn2 : n2 ≤ 549755813888) :
    Calls Tryd.prog 40 #[.slice A n c, .slice A2 n2 c2] w fun e w' => e = .returned (.agg (arr .u8 (tag zs ys))) ∧ Below w.heap.size w w' := by
  have hL := h.1
  have h2 := h2'.more hB'
  have HB := Lib.hid (blk_length zs)
  clear h2'
  by_cases hbig : 64 < n
  · have hbig' : (64 : Int) < (n : Int) := by omega
    have HF := Lib.hid (show fit zs = Sum.sha zs by unfold fit; rw [if_pos (by omega)])
    clear hL
    have hsl32 := fun W g => run_slice_arr_all (P := Tryd.prog) 22 5 32 g W Tryd.underlying22 (by kernel_rfl) (by omega)
    go_enter Tryd.func40, Tryd.ntmps40
    go_wp2_with (refine wpList_alloc_Row rfl 22 rfl .u8 32 zero_32 ?_; intro w0 r0 g0 z0)
    have b0 : Below w.heap.size w w0 := (Below.refl _ w).grown g0 (Nat.le_refl _) (by simp)
    have l0 := r0.lt
    refine (rsum_any B A n c zs _ (h.below (b0.mono hB)) (by omega) hn).mono ?_
    rintro e w1 ⟨rfl, hb1⟩
    have b1 := b0.trans (hb1.mono b0.size)
    have r1 := r0.below hb1 l0
    have l1 := r1.lt
    clear hb1 r0 b0 g0 z0 h
    go_wp2_with (first
      | (refine wpList_alloc_Row (w := w1) rfl 22 rfl .u8 32 zero_32 ?_; intro w2 r2 g2 z2)
      | (refine wpList_store_RowTo (w := w2) rfl 22 _ _ rfl w1.heap.size rfl 22 .u8 _ (Sum.sha zs) rfl r2 32 info_32 (sha_length _) (by simp) (fun z hz => wf_of_byte (sha_bytes _ z hz)) ?_; intro w3 r3 g3 z3; have iX := r3.ints (n := 32) (by rw [sha_length]; omega); rw [List.take_of_length_le (by rw [sha_length]; omega), ← HF.out] at iX; have rX := (r1.grown g2 (by simp)).grown g3 (by intro e; injection e with e; omega); have bX : Below w.heap.size w w3 := (b1.grown g2 b1.size (by simp)).grown g3 (by have := g2.size; have := b1.size; omega) (fun r e => by have := b1.size; cases e; omega))
      | (refine wpList_make_Row (w := w3) rfl _ _ 34 rfl 5 .u8 1 Tryd.underlying34 info_u8 .i64 .i64 _ _ 64 rfl rfl (by omega) (by omega) (by omega) (by omega) ?_; intro w6 r6 g6 z6; replace z6 := Lib.hid z6)
      | (refine wpList_make_Row (w := w6) rfl _ _ 34 rfl 5 .u8 1 Tryd.underlying34 info_u8 .i64 .i64 _ _ 64 rfl rfl (by omega) (by omega) (by omega) (by omega) ?_; intro w7 r7 g7 z7; replace z7 := Lib.hid z7))
    have lX := rX.lt
    have HNX := Lib.hid iX.1
    have b7 : Below w.heap.size w w7 := (bX.grown g6 bX.size (by simp)).grown g7 (by have := g6.size; have := bX.size; omega) (by simp)
    have r67 := r6.grown g7 (by simp)
    have rX7 := (rX.grown g6 (by simp)).grown g7 (by simp)
    have iX7 : Ints w7 .u8 w3.heap.size (some ⟨w1.heap.size, 0, none⟩) 32 (fit zs) := (iX.keep fun p hp => World.cell?_of_block (g6.block _ hp (by simp))).keep fun p hp => World.cell?_of_block (g7.block _ (by have := g6.size; omega) (by simp))
    have sX := bX.size
    have l67 := r6.lt
    obtain ⟨ga, hga⟩ : ∃ ga, w3.heap.size = ga := ⟨_, rfl⟩
    obtain ⟨gb, hgb⟩ : ∃ gb, w6.heap.size = gb := ⟨_, rfl⟩
    rw [hga] at r67 iX7 l67 lX sX
    rw [hgb] at l67 r7
    rw [hga, hgb]
    clear r6 g6 g7 z6 z7 iX rX bX hga hgb
    go_loopw [8] (fun i wr => ∃ k : Nat, k ≤ 64 ∧ i = .int .i64 k ∧ Row wr ga 5 .u8 (upto 54 (blk zs) k) ∧ Row wr gb 5 .u8 (upto 92 (blk zs) k) ∧ Row wr w.heap.size 22 .u8 (List.replicate 32 0) ∧ Ints wr .u8 ga (some ⟨w1.heap.size, 0, none⟩) 32 (fit zs) ∧ Below w.heap.size w wr) (fun i _ => 64 - (intOf i).toNat)
    case atStart => exact ⟨0, by omega, rfl, by rw [upto_start _ _ HB.out]; exact r67, by rw [upto_start _ _ HB.out]; exact r7, rX7, iX7, b7⟩
    case round =>
      clear r67 r7 rX7 iX7 b7
      obtain ⟨k, hk, rfl, ra, rb, ro, ix, bk⟩ := hrel
      by_cases hlt : k < 64
      · obtain ⟨oo, hka⟩ : ∃ oo, wr.cell? ⟨ga, k, none⟩ = some oo := ⟨_, ra.cell (i := k) (by rw [upto_length _ _ _ HB.out (by omega)]; omega)⟩
        have hfa := ra.frozen k
        have hfb := rb.frozen k
        have hlt' : (k : Int) < 64 := by omega
        have hk0 : (0 : Int) ≤ (k : Int) := by omega
        obtain ⟨x, hx⟩ : ∃ x, (blk zs).getD k 0 = x := ⟨_, rfl⟩
        have HSA := Lib.hid (upto_set 54 (blk zs) (k := k) HB.out hlt)
        have HSB := Lib.hid (upto_set 92 (blk zs) (k := k) HB.out hlt)
        rw [hx] at HSA HSB
        have sa : Hid (Row (wr.setCell ⟨ga, k, none⟩ (.int .u8 (flip 54 x))) ga 5 .u8 (upto 54 (blk zs) (k + 1))) := Lib.hid (by rw [← HSA.out]; exact ra.set k (flip_wf _ _))
        have sb : Hid (Row ((wr.setCell ⟨ga, k, none⟩ (.int .u8 (flip 54 x))).setCell ⟨gb, k, none⟩ (.int .u8 (flip 92 x))) gb 5 .u8 (upto 92 (blk zs) (k + 1))) := Lib.hid (by rw [← HSB.out]; exact (rb.other (by simpa using (by omega : ga ≠ gb)) _).set k (flip_wf _ _))
        have hfb2 : (wr.setCell ⟨ga, k, none⟩ (.int .u8 (flip 54 x))).frozen? ⟨gb, k, none⟩ = false := (rb.other (by simpa using (by omega : ga ≠ gb)) _).frozen k
        obtain ⟨ob, hkb2⟩ : ∃ ob, (wr.setCell ⟨ga, k, none⟩ (.int .u8 (flip 54 x))).cell? ⟨gb, k, none⟩ = some ob := ⟨_, (rb.other (by simpa using (by omega : ga ≠ gb)) (.int .u8 (flip 54 x))).cell (i := k) (by rw [upto_length _ _ _ HB.out (by omega)]; omega)⟩
        unfold flip at sa sb hfb2 hkb2
        by_cases hkn : k < 32
        · obtain ⟨b, off, eA, hbl, hcc⟩ := ix.at_ hkn
          have hxv : (fit zs).getD k 0 = x := by rw [← hx]; exact (blk_get_lt zs (by rw [HNX.out]; exact hkn)).symm
          rw [hxv] at hcc
          have hkn' : (k : Int) < (32 : Int) := by omega
          injection eA with eA; injection eA with eA1 eA2; subst eA1; subst eA2; rw [Nat.zero_add] at hcc
          clear hx hxv
          go_wp2_with fail
          go_roundw
          case rel => exact ⟨k + 1, by omega, by go_num, sa.out.other (by simpa using (by omega : gb ≠ ga)) _, sb.out, (ro.other (by simpa using (by omega : ga ≠ w.heap.size)) _).other (by simpa using (by omega : gb ≠ w.heap.size)) _, (ix.setCell (by simp) _).setCell (by simp; omega) _, (bk.setCell (by simp; omega) _).setCell (by simp; omega) _⟩
          case measure => simp [intOf]; omega
        · have hx0 : x = 0 := by rw [← hx]; exact blk_get_ge zs (by rw [HNX.out]; omega)
          have hkn' : ¬ (k : Int) < (32 : Int) := by omega
          subst hx0
          clear hx
          go_wp2_with fail
          go_roundw
          case rel => exact ⟨k + 1, by omega, by go_num, sa.out.other (by simpa using (by omega : gb ≠ ga)) _, sb.out, (ro.other (by simpa using (by omega : ga ≠ w.heap.size)) _).other (by simpa using (by omega : gb ≠ w.heap.size)) _, (ix.setCell (by simp) _).setCell (by simp; omega) _, (bk.setCell (by simp; omega) _).setCell (by simp; omega) _⟩
          case measure => simp [intOf]; omega
      · have hk64 : k = 64 := by omega
        subst hk64
        rw [upto_end _ _ HB.out] at ra rb
        clear ix
        have oa := ra.own (base := ga) (Nat.le_refl _) (n := 64) (by rw [turned_length, HB.out]; omega) (by rw [turned_length, HB.out]; simp [maxLen])
        have ob := rb.own (base := gb) (Nat.le_refl _) (n := 64) (by rw [turned_length, HB.out]; omega) (by rw [turned_length, HB.out]; simp [maxLen])
        rw [turned_length, HB.out, List.take_of_length_le (by rw [turned_length, HB.out]; omega)] at oa ob
        have HTA := Lib.hid (turned_length 54 (blk zs))
        have HTB := Lib.hid (turned_length 92 (blk zs))
        have lgb := rb.lt
        have ti := h2.below bk
        clear ra rb
        go_wp2_with (at_builtin; refine wpList_append_ints _ rfl _ _ 34 rfl ga 5 .u8 1 Tryd.underlying34 info_u8 _ _ rfl oa w.heap.size A2 n2 c2 ys rfl ti (by rw [HTA.out, HB.out]; omega) (by omega) (by omega) ?_; intro v3 w3 o3 g3 at3)
        have b3 : Below w.heap.size w w3 := bk.grown g3 bk.size (fun r e => by have : some ga = some r := e; cases this; omega)
        have ob3 := ob.kept g3 (.inr (fun e => by have e : some gb = some ga := e; injection e with e; omega))
        have ro3 := ro.grown g3 (fun e => by have e : some w.heap.size = some ga := e; injection e with e; omega)
        obtain ⟨A3, c3, rfl, _, _, i3⟩ := o3.form
        have HL3 := Lib.hid (show (turned 54 (blk zs) ++ ys).length = 64 + n2 by rw [List.length_append, HTA.out, HB.out, h2.1])
        rw [HL3.out] at i3 ⊢
        have lg3 := g3.size
        clear oa o3 g3 at3 ob ro ti bk
        go_wp2_with fail
        refine (rsum_any _ A3 (64 + n2) c3 (turned 54 (blk zs) ++ ys) _ i3 (Nat.le_refl _) (by omega)).mono ?_
        rintro e w4 ⟨rfl, hb4⟩
        have b4 := b3.trans (hb4.mono b3.size)
        have ob4 := ob3.below hb4
        have ro4 := ro3.below hb4 ro3.lt
        have lg4 := hb4.size
        obtain ⟨msg, hmsg⟩ : ∃ msg, Sum.sha (turned 54 (blk zs) ++ ys) = msg := ⟨_, rfl⟩
        have hml : msg.length = 32 := by rw [← hmsg]; exact sha_length _
        have hmb : Bs msg := by rw [← hmsg]; exact sha_bytes _
        rw [hmsg]
        have HTG := Lib.hid (show tag zs ys = Sum.sha (turned 92 (blk zs) ++ msg) by unfold tag; rw [hmsg])
        have HML := Lib.hid hml
        clear b3 ob3 ro3 hb4 i3 hmsg hml
        have hslM := fun W g => run_slice_arr_all (P := Tryd.prog) 22 5 32 g W Tryd.underlying22 (by kernel_rfl) (by omega)
        go_wp2_with (first
          | (refine wpList_alloc_Row (w := w4) rfl 22 rfl .u8 32 zero_32 ?_; intro w5 r5 g5 z5)
          | (refine wpList_store_RowTo (w := w5) rfl 22 _ _ rfl w4.heap.size rfl 22 .u8 _ msg rfl r5 32 info_32 HML.out (by simp) (fun z hz => wf_of_byte (hmb z hz)) ?_; intro w6 r6 g6 z6; have i6 := r6.ints (n := 32) (by rw [HML.out]; omega); rw [List.take_of_length_le (by rw [HML.out]; omega)] at i6; have ob6 := (ob4.kept g5 (.inr (fun e => by cases e))).kept g6 (.inr (fun e => by have e : some gb = some w4.heap.size := e; injection e with e; omega)); have ro6 := (ro4.grown g5 (by simp)).grown g6 (fun e => by have e : some w.heap.size = some w4.heap.size := e; injection e with e; omega))
          | (at_builtin; refine wpList_append_ints (w := w6) rfl _ _ 34 rfl gb 5 .u8 1 Tryd.underlying34 info_u8 _ _ rfl ob6 w6.heap.size (some ⟨w4.heap.size, 0, none⟩) 32 32 msg rfl i6 (by rw [HTB.out, HB.out]; omega) (by omega) (by have := g5.size; have := g6.size; omega) ?_; intro v8 w8 o8 g8 at8))
        have b6 : Below w.heap.size w w6 := (b4.grown g5 b4.size (by simp)).grown g6 (by have := g5.size; have := b4.size; omega) (fun r e => by have := b4.size; cases e; omega)
        have b8 : Below w.heap.size w w8 := b6.grown g8 b6.size (fun r e => by have : some gb = some r := e; cases this; omega)
        have ro8 := ro6.grown g8 (fun e => by have e : some w.heap.size = some gb := e; injection e with e; omega)
        obtain ⟨A8, c8, rfl, _, _, i8⟩ := o8.form
        have HL8 := Lib.hid (show (turned 92 (blk zs) ++ msg).length = 96 by rw [List.length_append, HTB.out, HB.out, HML.out])
        rw [HL8.out] at i8 ⊢
        clear o8 g8 at8 ro6 ob6 b6 ro4 ob4 b4
        go_wp2_with fail
        refine (rsum_any _ A8 96 c8 (turned 92 (blk zs) ++ msg) _ i8 (Nat.le_refl _) (by omega)).mono ?_
        rintro e w9 ⟨rfl, hb9⟩
        have b9 := b8.trans (hb9.mono b8.size)
        have r9 := ro8.below hb9 ro8.lt
        rw [← HTG.out]
        have HTL := Lib.hid (tag_length zs ys)
        go_wp2_with (refine wpList_store_RowTo (w := w9) rfl 22 _ _ rfl w.heap.size rfl 22 .u8 _ (tag zs ys) rfl r9 32 info_32 HTL.out (by simp) (fun z hz => wf_of_byte (tag_bytes _ _ z hz)) ?_; intro w10 r10 g10 z10)
        exact bodyPost_ret (results_Row rfl _ _ w.heap.size _ _ _ rfl r10 32 5 Tryd.underlying22 info_32 HTL.out) rfl ⟨rfl, b9.grown g10 b9.size (fun r e => by cases e; exact Nat.le_refl _)⟩
  · have hbig' : ¬ (64 : Int) < (n : Int) := by omega
    have HF := Lib.hid (show fit zs = zs by unfold fit; rw [if_neg (by omega)])
    clear hL
    go_enter Tryd.func40, Tryd.ntmps40
    go_wp2_with (first
      | (refine wpList_alloc_Row (w := w) rfl 22 rfl .u8 32 zero_32 ?_; intro w3 rX g3 z3; have bX : Below w.heap.size w w3 := (Below.refl _ w).grown g3 (Nat.le_refl _) (by simp); have iX := (h.below (bX.mono hB)).more (show B ≤ w3.heap.size by have := g3.size; omega); rw [← HF.out] at iX)
      | (refine wpList_make_Row (w := w3) rfl _ _ 34 rfl 5 .u8 1 Tryd.underlying34 info_u8 .i64 .i64 _ _ 64 rfl rfl (by omega) (by omega) (by omega) (by omega) ?_; intro w6 r6 g6 z6; replace z6 := Lib.hid z6)
      | (refine wpList_make_Row (w := w6) rfl _ _ 34 rfl 5 .u8 1 Tryd.underlying34 info_u8 .i64 .i64 _ _ 64 rfl rfl (by omega) (by omega) (by omega) (by omega) ?_; intro w7 r7 g7 z7; replace z7 := Lib.hid z7))
    have lX := rX.lt
    have HNX := Lib.hid iX.1
    have b7 : Below w.heap.size w w7 := (bX.grown g6 bX.size (by simp)).grown g7 (by have := g6.size; have := bX.size; omega) (by simp)
    have r67 := r6.grown g7 (by simp)
    have rX7 := (rX.grown g6 (by simp)).grown g7 (by simp)
    have iX7 : Ints w7 .u8 w3.heap.size A n (fit zs) := (iX.keep fun p hp => World.cell?_of_block (g6.block _ hp (by simp))).keep fun p hp => World.cell?_of_block (g7.block _ (by have := g6.size; omega) (by simp))
    have sX := bX.size
    have l67 := r6.lt
    obtain ⟨ga, hga⟩ : ∃ ga, w3.heap.size = ga := ⟨_, rfl⟩
    obtain ⟨gb, hgb⟩ : ∃ gb, w6.heap.size = gb := ⟨_, rfl⟩
    rw [hga] at r67 iX7 l67 lX sX
    rw [hgb] at l67 r7
    rw [hga, hgb]
    clear r6 g6 g7 z6 z7 iX rX bX hga hgb
    go_loopw [8] (fun i wr => ∃ k : Nat, k ≤ 64 ∧ i = .int .i64 k ∧ Row wr ga 5 .u8 (upto 54 (blk zs) k) ∧ Row wr gb 5 .u8 (upto 92 (blk zs) k) ∧ Row wr w.heap.size 22 .u8 (List.replicate 32 0) ∧ Ints wr .u8 ga A n (fit zs) ∧ Below w.heap.size w wr) (fun i _ => 64 - (intOf i).toNat)
    case atStart => exact ⟨0, by omega, rfl, by rw [upto_start _ _ HB.out]; exact r67, by rw [upto_start _ _ HB.out]; exact r7, rX7, iX7, b7⟩
    case round =>
      clear r67 r7 rX7 iX7 b7
      obtain ⟨k, hk, rfl, ra, rb, ro, ix, bk⟩ := hrel
      by_cases hlt : k < 64
      · obtain ⟨oo, hka⟩ : ∃ oo, wr.cell? ⟨ga, k, none⟩ = some oo := ⟨_, ra.cell (i := k) (by rw [upto_length _ _ _ HB.out (by omega)]; omega)⟩
        have hfa := ra.frozen k
        have hfb := rb.frozen k
        have hlt' : (k : Int) < 64 := by omega
        have hk0 : (0 : Int) ≤ (k : Int) := by omega
        obtain ⟨x, hx⟩ : ∃ x, (blk zs).getD k 0 = x := ⟨_, rfl⟩
        have HSA := Lib.hid (upto_set 54 (blk zs) (k := k) HB.out hlt)
        have HSB := Lib.hid (upto_set 92 (blk zs) (k := k) HB.out hlt)
        rw [hx] at HSA HSB
        have sa : Hid (Row (wr.setCell ⟨ga, k, none⟩ (.int .u8 (flip 54 x))) ga 5 .u8 (upto 54 (blk zs) (k + 1))) := Lib.hid (by rw [← HSA.out]; exact ra.set k (flip_wf _ _))
        have sb : Hid (Row ((wr.setCell ⟨ga, k, none⟩ (.int .u8 (flip 54 x))).setCell ⟨gb, k, none⟩ (.int .u8 (flip 92 x))) gb 5 .u8 (upto 92 (blk zs) (k + 1))) := Lib.hid (by rw [← HSB.out]; exact (rb.other (by simpa using (by omega : ga ≠ gb)) _).set k (flip_wf _ _))
        have hfb2 : (wr.setCell ⟨ga, k, none⟩ (.int .u8 (flip 54 x))).frozen? ⟨gb, k, none⟩ = false := (rb.other (by simpa using (by omega : ga ≠ gb)) _).frozen k
        obtain ⟨ob, hkb2⟩ : ∃ ob, (wr.setCell ⟨ga, k, none⟩ (.int .u8 (flip 54 x))).cell? ⟨gb, k, none⟩ = some ob := ⟨_, (rb.other (by simpa using (by omega : ga ≠ gb)) (.int .u8 (flip 54 x))).cell (i := k) (by rw [upto_length _ _ _ HB.out (by omega)]; omega)⟩
        unfold flip at sa sb hfb2 hkb2
        by_cases hkn : k < n
        · obtain ⟨b, off, eA, hbl, hcc⟩ := ix.at_ hkn
          have hxv : (fit zs).getD k 0 = x := by rw [← hx]; exact (blk_get_lt zs (by rw [HNX.out]; exact hkn)).symm
          rw [hxv] at hcc
          have hkn' : (k : Int) < (n : Int) := by omega
          subst eA
          clear hx hxv
          go_wp2_with fail
          go_roundw
          case rel => exact ⟨k + 1, by omega, by go_num, sa.out.other (by simpa using (by omega : gb ≠ ga)) _, sb.out, (ro.other (by simpa using (by omega : ga ≠ w.heap.size)) _).other (by simpa using (by omega : gb ≠ w.heap.size)) _, (ix.setCell (by simp) _).setCell (by simp; omega) _, (bk.setCell (by simp; omega) _).setCell (by simp; omega) _⟩
          case measure => simp [intOf]; omega
        · have hx0 : x = 0 := by rw [← hx]; exact blk_get_ge zs (by rw [HNX.out]; omega)
          have hkn' : ¬ (k : Int) < (n : Int) := by omega
          subst hx0
          clear hx
          go_wp2_with fail
          go_roundw
          case rel => exact ⟨k + 1, by omega, by go_num, sa.out.other (by simpa using (by omega : gb ≠ ga)) _, sb.out, (ro.other (by simpa using (by omega : ga ≠ w.heap.size)) _).other (by simpa using (by omega : gb ≠ w.heap.size)) _, (ix.setCell (by simp) _).setCell (by simp; omega) _, (bk.setCell (by simp; omega) _).setCell (by simp; omega) _⟩
          case measure => simp [intOf]; omega
      · have hk64 : k = 64 := by omega
        subst hk64
        rw [upto_end _ _ HB.out] at ra rb
        clear ix
        have oa := ra.own (base := ga) (Nat.le_refl _) (n := 64) (by rw [turned_length, HB.out]; omega) (by rw [turned_length, HB.out]; simp [maxLen])
        have ob := rb.own (base := gb) (Nat.le_refl _) (n := 64) (by rw [turned_length, HB.out]; omega) (by rw [turned_length, HB.out]; simp [maxLen])
        rw [turned_length, HB.out, List.take_of_length_le (by rw [turned_length, HB.out]; omega)] at oa ob
        have HTA := Lib.hid (turned_length 54 (blk zs))
        have HTB := Lib.hid (turned_length 92 (blk zs))
        have lgb := rb.lt
        have ti := h2.below bk
        clear ra rb
        go_wp2_with (at_builtin; refine wpList_append_ints _ rfl _ _ 34 rfl ga 5 .u8 1 Tryd.underlying34 info_u8 _ _ rfl oa w.heap.size A2 n2 c2 ys rfl ti (by rw [HTA.out, HB.out]; omega) (by omega) (by omega) ?_; intro v3 w3 o3 g3 at3)
        have b3 : Below w.heap.size w w3 := bk.grown g3 bk.size (fun r e => by have : some ga = some r := e; cases this; omega)
        have ob3 := ob.kept g3 (.inr (fun e => by have e : some gb = some ga := e; injection e with e; omega))
        have ro3 := ro.grown g3 (fun e => by have e : some w.heap.size = some ga := e; injection e with e; omega)
        obtain ⟨A3, c3, rfl, _, _, i3⟩ := o3.form
        have HL3 := Lib.hid (show (turned 54 (blk zs) ++ ys).length = 64 + n2 by rw [List.length_append, HTA.out, HB.out, h2.1])
        rw [HL3.out] at i3 ⊢
        have lg3 := g3.size
        clear oa o3 g3 at3 ob ro ti bk
        go_wp2_with fail
        refine (rsum_any _ A3 (64 + n2) c3 (turned 54 (blk zs) ++ ys) _ i3 (Nat.le_refl _) (by omega)).mono ?_
        rintro e w4 ⟨rfl, hb4⟩
        have b4 := b3.trans (hb4.mono b3.size)
        have ob4 := ob3.below hb4
        have ro4 := ro3.below hb4 ro3.lt
        have lg4 := hb4.size
        obtain ⟨msg, hmsg⟩ : ∃ msg, Sum.sha (turned 54 (blk zs) ++ ys) = msg := ⟨_, rfl⟩
        have hml : msg.length = 32 := by rw [← hmsg]; exact sha_length _
        have hmb : Bs msg := by rw [← hmsg]; exact sha_bytes _
        rw [hmsg]
        have HTG := Lib.hid (show tag zs ys = Sum.sha (turned 92 (blk zs) ++ msg) by unfold tag; rw [hmsg])
        have HML := Lib.hid hml
        clear b3 ob3 ro3 hb4 i3 hmsg hml
        have hslM := fun W g => run_slice_arr_all (P := Tryd.prog) 22 5 32 g W Tryd.underlying22 (by kernel_rfl) (by omega)
        go_wp2_with (first
          | (refine wpList_alloc_Row (w := w4) rfl 22 rfl .u8 32 zero_32 ?_; intro w5 r5 g5 z5)
          | (refine wpList_store_RowTo (w := w5) rfl 22 _ _ rfl w4.heap.size rfl 22 .u8 _ msg rfl r5 32 info_32 HML.out (by simp) (fun z hz => wf_of_byte (hmb z hz)) ?_; intro w6 r6 g6 z6; have i6 := r6.ints (n := 32) (by rw [HML.out]; omega); rw [List.take_of_length_le (by rw [HML.out]; omega)] at i6; have ob6 := (ob4.kept g5 (.inr (fun e => by cases e))).kept g6 (.inr (fun e => by have e : some gb = some w4.heap.size := e; injection e with e; omega)); have ro6 := (ro4.grown g5 (by simp)).grown g6 (fun e => by have e : some w.heap.size = some w4.heap.size := e; injection e with e; omega))
          | (at_builtin; refine wpList_append_ints (w := w6) rfl _ _ 34 rfl gb 5 .u8 1 Tryd.underlying34 info_u8 _ _ rfl ob6 w6.heap.size (some ⟨w4.heap.size, 0, none⟩) 32 32 msg rfl i6 (by rw [HTB.out, HB.out]; omega) (by omega) (by have := g5.size; have := g6.size; omega) ?_; intro v8 w8 o8 g8 at8))
        have b6 : Below w.heap.size w w6 := (b4.grown g5 b4.size (by simp)).grown g6 (by have := g5.size; have := b4.size; omega) (fun r e => by have := b4.size; cases e; omega)
        have b8 : Below w.heap.size w w8 := b6.grown g8 b6.size (fun r e => by have : some gb = some r := e; cases this; omega)
        have ro8 := ro6.grown g8 (fun e => by have e : some w.heap.size = some gb := e; injection e with e; omega)
        obtain ⟨A8, c8, rfl, _, _, i8⟩ := o8.form
        have HL8 := Lib.hid (show (turned 92 (blk zs) ++ msg).length = 96 by rw [List.length_append, HTB.out, HB.out, HML.out])
        rw [HL8.out] at i8 ⊢
        clear o8 g8 at8 ro6 ob6 b6 ro4 ob4 b4
        go_wp2_with fail
        refine (rsum_any _ A8 96 c8 (turned 92 (blk zs) ++ msg) _ i8 (Nat.le_refl _) (by omega)).mono ?_
        rintro e w9 ⟨rfl, hb9⟩
        have b9 := b8.trans (hb9.mono b8.size)
        have r9 := ro8.below hb9 ro8.lt
        rw [← HTG.out]
        have HTL := Lib.hid (tag_length zs ys)
        go_wp2_with (refine wpList_store_RowTo (w := w9) rfl 22 _ _ rfl w.heap.size rfl 22 .u8 _ (tag zs ys) rfl r9 32 info_32 HTL.out (by simp) (fun z hz => wf_of_byte (tag_bytes _ _ z hz)) ?_; intro w10 r10 g10 z10)
        exact bodyPost_ret (results_Row rfl _ _ w.heap.size _ _ _ rfl r10 32 5 Tryd.underlying22 info_32 HTL.out) rfl ⟨rfl, b9.grown g10 b9.size (fun r e => by cases e; exact Nat.le_refl _)⟩
end Go.Proofs.YtoelgcdjhekafaaDoor.Mac
namespace Go.Proofs.YtoelgcdjhekafaaDoor.Hkdf
open Go.RowKit Go.Shelf Go.Proofs.YtoelgcdjhekafaaDoor.Mem Go.Proofs.YtoelgcdjhekafaaDoor.Help Go.Proofs.YtoelgcdjhekafaaDoor.Sum Go.Proofs.YtoelgcdjhekafaaDoor.Sha Go.Proofs.YtoelgcdjhekafaaDoor.Mac Go.Proofs.YtoelgcdjhekafaaDoor
set_option linter.unusedVariables false
attribute [local irreducible] wpList Calls

set_option maxRecDepth 100000 in
set_option maxHeartbeats 1000000 in
theorem rextract_any (B B' : Nat) (A A' : Option Addr) (n c n' c' : Nat) (salt key : List Int) (w : World) (h : Ints w .u8 B A n salt) (hB : B ≤ w.heap.size) (hn : n ≤ 274877906944)
    (h' : Ints w .u8 B' A' n' key) (hB' : B' ≤ w.heap.size) (hn' : n' ≤ 274877906944) :
    Calls Tryd.prog 35 #[.slice A n c, .slice A' n' c'] w fun e w' => e = .returned (.agg (arr .u8 (tag salt key))) ∧ Below w.heap.size w w' := by
  go_enter Tryd.func35, Tryd.ntmps35
  go_wp2_with (refine wpList_alloc_Row rfl 22 rfl .u8 32 zero_32 ?_; intro w1 r1 g1 z1)
  have b1 : Below w.heap.size w w1 := (Below.refl _ w).grown g1 (Nat.le_refl _) (by simp)
  have l1 := r1.lt
  refine (rtag_any B B' A A' n c n' c' salt key w1 (h.below (b1.mono hB)) (by omega) (by omega) (h'.below (b1.mono hB')) (by omega) (by omega)).mono ?_
  rintro e w2 ⟨rfl, hb2⟩
  have b2 := b1.trans (hb2.mono b1.size)
  have r2 := r1.below hb2 l1
  clear hb2 b1 r1 g1 z1
  go_wp2_with (refine wpList_store_RowTo rfl 22 _ _ rfl w.heap.size rfl 22 .u8 _ (tag salt key) rfl r2 32 info_32 (tag_length _ _) (by simp) (tag_wf _ _) ?_; intro w3 r3 g3 z3)
  exact bodyPost_ret (results_Row rfl _ _ w.heap.size _ _ _ rfl r3 32 5 Tryd.underlying22 info_32 (tag_length _ _)) rfl ⟨rfl, b2.grown g3 b2.size (fun r e => by cases e; exact Nat.le_refl _)⟩

set_option maxRecDepth 100000 in
set_option maxHeartbeats 4000000 in
theorem rexpand_bad (key : List Int) (hkb : ∀ z ∈ key, (Lit.int .u8 z).wf = true) (A : Option Addr) (m c : Nat) (x : Int) (w : World) (hx : x < 1 ∨ 8160 < x) :
    Calls Tryd.prog 34 #[.agg (arr .u8 key), .slice A m c, .int .i64 x] w fun e w' => e = .returned (.tuple #[.slice none 0 0, .int .i64 1]) ∧ Below w.heap.size w w' := by
  by_cases h1 : x < 1
  · go_enter Tryd.func34, Tryd.ntmps34
    go_wp2_with (refine wpList_box_Row rfl 22 _ rfl .u8 key rfl hkb ?_; intro w1 r1 g1 z1)
    have b1 : Below w.heap.size w w1 := (Below.refl _ w).grown g1 (Nat.le_refl _) (by simp)
    go_ret2
    exact ⟨rfl, b1⟩
  · have h2 : 8160 < x := by omega
    go_enter Tryd.func34, Tryd.ntmps34
    go_wp2_with (refine wpList_box_Row rfl 22 _ rfl .u8 key rfl hkb ?_; intro w1 r1 g1 z1)
    have b1 : Below w.heap.size w w1 := (Below.refl _ w).grown g1 (Nat.le_refl _) (by simp)
    go_ret2
    exact ⟨rfl, b1⟩

set_option maxRecDepth 100000 in
set_option maxHeartbeats 8000000 in
theorem rexpand_any (key info : List Int) (hk : key.length = 32) (hkb : ∀ z ∈ key, (Lit.int .u8 z).wf = true) (B : Nat) (A : Option Addr) (m c n : Nat) (w : World) (hi : Ints w .u8 B A m info) (hB : B ≤ w.heap.size) (hm : m ≤ 274877906944) (hn1 : 1 ≤ n) (hn2 : n ≤ 8160) :
    Calls Tryd.prog 34 #[.agg (arr .u8 key), .slice A m c, .int .i64 (n : Int)] w fun e w' => ∃ A' c', e = .returned (.tuple #[.slice A' n c', .int .i64 0]) ∧ n ≤ c' ∧ c' ≤ maxLen ∧ Ints w' .u8 w'.heap.size A' n (out key info n) ∧ Below w.heap.size w w' := by
  have HK := Lib.hid hk
  have HM := Lib.hid hi.1
  clear hk
  have q1 : ¬ (n : Int) < 1 := by omega
  have q2 : ¬ (8160 : Int) < (n : Int) := by omega
  go_enter Tryd.func34, Tryd.ntmps34
  go_wp2_with (refine wpList_box_Row rfl 22 _ rfl .u8 key rfl hkb ?_; intro w1 r1 g1 z1)
  have b1 : Below w.heap.size w w1 := (Below.refl _ w).grown g1 (Nat.le_refl _) (by simp)
  clear g1 z1
  go_loopw [8, 9, 10] (fun u v i wr => ∃ (k q : Nat) (A8 A9 : Option Addr) (c8 n9 c9 : Nat), k ≤ 255 ∧ Hid (q = 32 * k) ∧ q < n + 32 ∧ i = .int .i64 ((k : Int) + 1) ∧ u = .slice A8 q c8 ∧ Mem.Own wr (w.heap.size + 1) 5 .u8 (.slice A8 q c8) (stream key info k) ∧
    v = .slice A9 n9 c9 ∧ n9 ≤ 32 ∧ Ints wr .u8 wr.heap.size A9 n9 (piece key info k) ∧ Row wr w.heap.size 22 .u8 key ∧ Below w.heap.size w wr) (fun _ _ i _ => 256 - (intOf i).toNat)
  case atStart => exact ⟨0, 0, none, none, 0, 0, 0, by omega, Lib.hid rfl, by omega, rfl, rfl, by rw [show stream key info 0 = [] from List.eq_nil_of_length_eq_zero (stream_length key info 0)]; exact Mem.Own.nil _ _ _ _, rfl, by omega, Ints.nil _ _ _ _, r1, b1⟩
  case round =>
    clear r1 b1
    obtain ⟨k, q, A8, A9, c8, n9, c9, hk, hq, hqn, rfl, rfl, o8, rfl, hn9, i9, rk, bk⟩ := hrel
    by_cases hlt : q < n
    · have hlt' : (q : Int) < (n : Int) := by omega
      have hk255 : k < 255 := by have := hq.out; omega
      have hk0 : (0 : Int) ≤ (k : Int) := by omega
      have HI9 := Lib.hid i9.1
      have ii := (hi.below (bk.mono hB)).more (Nat.le_trans hB bk.size)
      have kq := rk.ints (n := 32) (by rw [HK.out]; omega)
      rw [List.take_of_length_le (by rw [HK.out]; omega)] at kq
      have HX := Lib.hid (show tag key ((([] ++ piece key info k) ++ info) ++ [(k : Int) + 1]) = piece key info (k + 1) by simp [piece])
      have hw5 : IntKind.u8.wrap ((k : Int) + 1) = (k : Int) + 1 := by simp [IntKind.wrap, IntKind.bits, IntKind.signed]; omega
      have hw6 : ∀ z ∈ [(k : Int) + 1], (Lit.int .u8 z).wf = true := fun z hz => by rw [List.mem_singleton.1 hz]; exact wf_of_byte (by omega)
      have hsl := fun W g => run_slice_arr_all (P := Tryd.prog) 22 5 32 g W Tryd.underlying22 (by kernel_rfl) (by omega)
      go_wp2_with (first
        | (at_builtin; refine wpList_append_ints wr rfl _ _ 34 rfl wr.heap.size 5 .u8 1 Tryd.underlying34 info_u8 (.slice none 0 0) [] rfl (Mem.Own.nil _ _ _ _) wr.heap.size A9 n9 c9 (piece key info k) rfl i9 (by simp; omega) (by omega) (Nat.le_refl _) ?_; intro v2 w2 o2 g2 t2; obtain ⟨A2, c2, rfl, h2a, h2b, j2⟩ := o2.form; obtain ⟨n2, hn2⟩ : ∃ n2, ([] ++ piece key info k).length = n2 := ⟨_, rfl⟩; rw [hn2] at o2 j2 h2a ⊢; have HN2 := Lib.hid hn2; clear hn2)
        | (at_builtin; refine wpList_append_ints w2 rfl _ _ 34 rfl wr.heap.size 5 .u8 1 Tryd.underlying34 info_u8 (.slice A2 n2 c2) ([] ++ piece key info k) rfl o2 wr.heap.size A m c info rfl (ii.keep fun p hp => World.cell?_of_block (g2.block _ hp (by simp [Value.ownBlock]))) (by rw [HN2.out]; have := HN2.out; rw [List.nil_append, HI9.out] at this; omega) (by omega) g2.size ?_; intro v3 w3 o3 g3 t3; obtain ⟨A3, c3, rfl, h3a, h3b, j3⟩ := o3.form; obtain ⟨n3, hn3⟩ : ∃ n3, (([] ++ piece key info k) ++ info).length = n3 := ⟨_, rfl⟩; rw [hn3] at o3 j3 h3a ⊢; have HN3 := Lib.hid hn3; clear hn3)
        | (refine Held.wpList_build_row (w := w3) rfl 34 5 1 _ rfl .u8 1 [(k : Int) + 1] Tryd.underlying34 info_u8 (by simp [Act.eval]) rfl (by omega) (by omega) hw6 ?_; intro w4 r4 g4 z4; have o34 := o3.kept g4 (by cases (Value.slice A3 n3 c3).ownBlock <;> simp))
        | (at_builtin; refine wpList_append_ints w4 rfl _ _ 34 rfl wr.heap.size 5 .u8 1 Tryd.underlying34 info_u8 (.slice A3 n3 c3) (([] ++ piece key info k) ++ info) rfl o34 w4.heap.size (some ⟨w3.heap.size, 0, none⟩) 1 1 [(k : Int) + 1] rfl (by have := r4.ints (n := 1) (by simp); simpa using this) (by rw [HN3.out]; have := HN3.out; rw [List.length_append, List.nil_append, HI9.out, HM.out] at this; omega) (by omega) (by have := g2.size; have := g3.size; have := g4.size; omega) ?_; intro v5 w5 o5 g5 t5; obtain ⟨A5, c5, rfl, h5a, h5b, j5⟩ := o5.form; obtain ⟨n5, hn5⟩ : ∃ n5, ((([] ++ piece key info k) ++ info) ++ [(k : Int) + 1]).length = n5 := ⟨_, rfl⟩; rw [hn5] at o5 j5 h5a ⊢; have HN5 := Lib.hid hn5; clear hn5))
      have s2 := g2.size
      have s3 := g3.size
      have s4 := g4.size
      have s5 := g5.size
      have d5 : Below wr.heap.size wr w5 := ((((Below.refl _ wr).grown g2 (Nat.le_refl _) (by simp [Value.ownBlock])).grown g3 s2 (fun r e => (o2.2.lt r e).1)).grown g4 (by omega) (by simp)).grown g5 (by omega) (fun r e => (o34.2.lt r e).1)
      have hn5 : n5 ≤ 549755813888 := by have h1 := HN5.out; have h2 := HN3.out; have h3 := HN2.out; rw [List.length_append, h2] at h1; rw [List.length_append, h3, HM.out] at h2; rw [List.nil_append, HI9.out] at h3; simp at h1; omega
      clear g2 g3 g4 g5 t2 t3 t5 o2 o3 o34 o5 r4 z4 j2 j3 h2a h2b h3a h3b h5a h5b s2 s3 s4
      refine (rtag_any _ _ _ A5 32 32 n5 c5 key _ w5 (kq.below d5) d5.size (by omega) j5 (Nat.le_refl _) hn5).mono ?_
      rw [HX.out]
      rintro e w6 ⟨rfl, b6⟩
      have c6 := d5.trans (b6.mono d5.size)
      have HPL := Lib.hid (piece_length key info k)
      have HPW := Lib.hid (piece_wf key info (k + 1))
      have s6 := c6.size
      have lk := rk.lt
      clear d5 b6 j5 HX HN2 HN3 HN5 hn5 s5 ii kq
      go_wp2_with (first
        | (refine wpList_alloc_Row (w := w6) rfl 22 rfl .u8 32 zero_32 ?_; intro w7 r7 g7 z7)
        | (refine wpList_store_RowTo (w := w7) rfl 22 _ _ rfl w6.heap.size rfl 22 .u8 _ (piece key info (k + 1)) rfl r7 32 info_32 HPL.out (by simp) HPW.out ?_; intro w8 r8 g8 z8; have i8 := r8.ints (n := 32) (by rw [HPL.out]; omega); rw [List.take_of_length_le (by rw [HPL.out]; omega)] at i8)
        | (at_builtin; refine wpList_append_ints w8 rfl _ _ 34 rfl w8.heap.size 5 .u8 1 Tryd.underlying34 info_u8 (.slice none 0 0) [] rfl (Mem.Own.nil _ _ _ _) w8.heap.size (some ⟨w6.heap.size, 0, none⟩) 32 32 (piece key info (k + 1)) rfl i8 (by simp) (by omega) (Nat.le_refl _) ?_; intro v9 w9 o9 g9 t9; obtain ⟨A9', c9', rfl, h9a, h9b, j9⟩ := o9.form; obtain ⟨n9', hn9'⟩ : ∃ n9', ([] ++ piece key info (k + 1)).length = n9' := ⟨_, rfl⟩; rw [hn9'] at o9 j9 h9a ⊢; have HN9 := Lib.hid hn9'; clear hn9'; have d9 : Below wr.heap.size wr w9 := ((c6.grown g7 s6 (by simp)).grown g8 (by have := g7.size; omega) (fun r e => by cases e; exact s6)).grown g9 (by have := g7.size; have := g8.size; omega) (by simp [Value.ownBlock]))
        | (at_builtin; refine wpList_append_ints w9 rfl _ _ 34 rfl (w.heap.size + 1) 5 .u8 1 Tryd.underlying34 info_u8 (.slice A8 q c8) (stream key info k) rfl (o8.below d9) w9.heap.size A9' n9' c9' ([] ++ piece key info (k + 1)) rfl j9 (by rw [stream_length]; have := HN9.out; rw [List.nil_append, HPL.out] at this; omega) (by omega) (by have := d9.size; omega) ?_; intro v10 w10 o10 g10 t10; obtain ⟨A10, c10, rfl, h10a, h10b, j10⟩ := o10.form; obtain ⟨n10, hn10⟩ : ∃ n10, (stream key info k ++ ([] ++ piece key info (k + 1))).length = n10 := ⟨_, rfl⟩; rw [hn10] at o10 j10 h10a ⊢; have HN10 := Lib.hid hn10; clear hn10))
      have hn10 : n10 = 32 * (k + 1) := by have := HN10.out; rw [List.length_append, stream_length, List.nil_append, HPL.out] at this; omega
      have hn9' : n9' = 32 := by have := HN9.out; rw [List.nil_append, HPL.out] at this; omega
      have s78 : wr.heap.size ≤ w8.heap.size := by have := g7.size; have := g8.size; omega
      have o9k := o9.kept g10 (by
        cases hb : (Value.slice A9' n9' c9').ownBlock with
        | none => exact .inl rfl
        | some r => exact .inr (fun e => by
            have h1 := (o9.2.lt r hb).1
            have h2 := (o8.2.lt r e.symm).2
            omega))
      have iL := o9k.ints HN9.out
      rw [List.nil_append] at iL
      rw [List.nil_append, ← stream_succ] at o10
      have rE := (rk.below d9 rk.lt).grown g10 (fun e => by have := (o8.2.lt _ e.symm).1; omega)
      have bE := (bk.trans (d9.mono bk.size)).grown g10 (by have := bk.size; have := d9.size; omega) (fun r e => by have := (o8.2.lt r e).1; omega)
      clear g7 g8 g9 g10 z7 z8 t9 t10 o9 o9k j9 j10 o8 d9 c6 r7 r8 i8 rk bk i9
      go_roundw
      case rel => exact ⟨k + 1, n10, A10, A9', c10, n9', c9', by omega, Lib.hid hn10, by have := hq.out; omega, by go_num, rfl, o10, rfl, by omega, iL, rE, bE⟩
      case measure => simp [intOf]; omega
    · have hlt' : ¬ (q : Int) < (n : Int) := by omega
      have hqc : q ≤ c8 ∧ c8 ≤ maxLen := by
        obtain ⟨A', c', e, h1, h2, _⟩ := o8.form
        injection e with e1 e2 e3
        omega
      have hfr := fun W => run_front (P := Tryd.prog) (t := 34) (e := 5) (n := q) Tryd.underlying34 (by kernel_rfl) o8.flat (h := n) (by omega) W
      have i8 := (o8.ints (by rw [stream_length, hq.out])).front (h := n) (by omega)
      rw [← out_whole key info k hk, out_take _ _ _ _ (by have := hq.out; omega)] at i8
      go_wp2_with fail
      go_ret2
      exact ⟨A8, c8, rfl, by omega, hqc.2, i8, bk⟩
/-- the document's Expand to 32 bytes -/
theorem rexpand_32 (key info : List Int) (hk : key.length = 32) (hkb : ∀ z ∈ key, (Lit.int .u8 z).wf = true) (B : Nat) (A : Option Addr) (m c : Nat) (w : World) (hi : Ints w .u8 B A m info) (hB : B ≤ w.heap.size) (hm : m ≤ 274877906944) :
    Calls Tryd.prog 34 #[.agg (arr .u8 key), .slice A m c, .int .i64 32] w fun e w' => ∃ A' c', e = .returned (.tuple #[.slice A' 32 c', .int .i64 0]) ∧ 32 ≤ c' ∧ c' ≤ maxLen ∧ Ints w' .u8 w'.heap.size A' 32 (out key info 32) ∧ Below w.heap.size w w' :=
  rexpand_any key info hk hkb B A m c 32 w hi hB hm (by omega) (by omega)
theorem fill_of_row {w : World} {g : Nat} {t : TypeId} {k : IntKind} {zs : List Int} {L : List Value} (h : Row w g t k zs) : Fill w g t zs.length L 0 := ⟨_, h.2, by simp, by simp⟩

set_option maxRecDepth 100000 in
set_option maxHeartbeats 4000000 in
theorem rkey_any (B B' B2 : Nat) (A A' A2 : Option Addr) (n c n' c' m c2 : Nat) (salt key info : List Int) (w : World) (h : Ints w .u8 B A n salt) (hB : B ≤ w.heap.size) (hn : n ≤ 274877906944)
    (h' : Ints w .u8 B' A' n' key) (hB' : B' ≤ w.heap.size) (hn' : n' ≤ 274877906944) (h2 : Ints w .u8 B2 A2 m info) (hB2 : B2 ≤ w.heap.size) (hm : m ≤ 274877906944) :
    Calls Tryd.prog 23 #[.slice A n c, .slice A' n' c', .slice A2 m c2] w fun e w' => e = .returned (.agg (arr .u8 (hkey salt key info))) ∧ Below w.heap.size w w' := by
  go_enter Tryd.func23, Tryd.ntmps23
  go_wp2_with (refine wpList_alloc_Row (w := w) rfl 22 rfl .u8 32 zero_32 ?_; intro w1 r1 g1 z1)
  have b1 : Below w.heap.size w w1 := (Below.refl _ w).grown g1 (Nat.le_refl _) (by simp)
  have s1 := b1.size
  refine (rextract_any B B' A A' n c n' c' salt key w1 (h.below (b1.mono hB)) (by omega) hn (h'.below (b1.mono hB')) (by omega) hn').mono ?_
  rintro e w2 ⟨rfl, hb⟩
  have b2 := b1.trans (hb.mono s1)
  have r2 := r1.below hb r1.lt
  have s2 := b2.size
  clear hb b1 r1 g1 z1 s1
  go_wp2_with fail
  refine (rexpand_32 (tag salt key) info (tag_length _ _) (tag_wf _ _) B2 A2 m c2 w2 (h2.below (b2.mono hB2)) (by omega) hm).mono ?_
  rintro e w3 ⟨A3, c3, rfl, h3a, h3b, i3, hb⟩
  have b3 := b2.trans (hb.mono s2)
  have r3 := r2.below hb r2.lt
  have s3 := b3.size
  rw [← hkey_def] at i3
  obtain ⟨ks, hks⟩ : ∃ ks, hkey salt key info = ks := ⟨_, rfl⟩
  have hkl : ks.length = 32 := by rw [← hks]; exact hkey_length _ _ _
  have hkw : ∀ z ∈ ks, (Lit.int .u8 z).wf = true := by rw [← hks]; exact hkey_wf _ _ _
  rw [hks] at i3
  have HKS := Lib.hid hks
  have HKL := Lib.hid hkl
  have HKW := Lib.hid hkw
  clear hks hkl hkw hb b2 r2 s2
  have l3 := r3.lt
  go_wp2_with (refine wpList_alloc_Row (w := w3) rfl 22 rfl .u8 32 zero_32 ?_; intro w4 r4 g4 z4)
  obtain ⟨g, hg⟩ : ∃ g, w3.heap.size = g := ⟨_, rfl⟩
  rw [hg] at r4 l3 i3 ⊢
  have b4 : Below w.heap.size w w4 := b3.grown g4 s3 (by simp)
  have i4 : Ints w4 .u8 g A3 32 ks := i3.keep fun p hp => World.cell?_of_block (g4.block _ (by omega) (by simp))
  have r34 := r3.grown g4 (by simp)
  have f4 : Fill w4 g 22 32 (ks.map (Value.int .u8)) 0 := by simpa using fill_of_row (L := ks.map (Value.int .u8)) r4
  clear g4 z4 hg b3 i3 r3 r4 s3
  go_loopw [10] (fun i wr => ∃ k : Nat, k ≤ 32 ∧ i = .int .i64 k ∧ Fill wr g 22 32 (ks.map (Value.int .u8)) k ∧ Ints wr .u8 g A3 32 ks ∧ Row wr w.heap.size 22 .u8 (List.replicate 32 0) ∧ Below w.heap.size w wr) (fun i _ => 32 - (intOf i).toNat)
  case atStart => exact ⟨0, by omega, rfl, f4, i4, r34, b4⟩
  case round =>
    clear f4 i4 r34 b4
    obtain ⟨k, hk, rfl, fk, ik, rk, bk⟩ := hrel
    by_cases hlt : k < 32
    · obtain ⟨b, off, rfl, hbl, hc⟩ := ik.at_ hlt
      obtain ⟨u, hu⟩ := fk.cell hlt
      have hfr := fk.frozen k
      have HS := Lib.hid (fk.step (u := .int .u8 (ks.getD k 0)) (by rw [List.getElem?_map, List.getElem?_eq_getElem (by rw [HKL.out]; exact hlt), List.getD_eq_getElem?_getD, List.getElem?_eq_getElem (by rw [HKL.out]; exact hlt)]; rfl) hlt)
      have hlt' : (k : Int) < 32 := by omega
      have hk0 : (0 : Int) ≤ (k : Int) := by omega
      generalize ks.getD k 0 = z at hc HS
      go_wp2_with fail
      go_roundw
      case rel => exact ⟨k + 1, by omega, by go_num, HS.out, ik.setCell (by simp) _, rk.other (by simpa using (by omega : g ≠ w.heap.size)) _, bk.setCell (by simpa using (by omega : w.heap.size ≤ g)) _⟩
      case measure => simp [intOf]; omega
    · have hk32 : k = 32 := by omega
      subst hk32
      have rg : Row wr g 22 .u8 ks := ⟨HKW.out, fk.done (Nat.le_refl _) (by rw [List.length_map, HKL.out])⟩
      clear fk ik
      go_wp2_with (first
        | (refine wpList_load_Row (w := wr) rfl 22 _ rfl g rfl 22 .u8 _ rg 32 5 Tryd.underlying22 info_32 HKL.out ?_)
        | (refine wpList_store_RowTo (w := wr) rfl 22 _ _ rfl w.heap.size rfl 22 .u8 _ ks rfl rk 32 info_32 HKL.out (by simp) HKW.out ?_; intro w6 r6 g6 z6))
      exact bodyPost_ret (results_Row rfl _ _ w.heap.size _ _ _ rfl r6 32 5 Tryd.underlying22 info_32 HKL.out) rfl ⟨by rw [HKS.out], bk.grown g6 bk.size (fun r e => by cases e; exact Nat.le_refl _)⟩
end Go.Proofs.YtoelgcdjhekafaaDoor.Hkdf
namespace Go.Proofs.YtoelgcdjhekafaaDoor.Ky
open Go.RowKit Go.Shelf Go.Proofs.YtoelgcdjhekafaaDoor.Mem Go.Proofs.YtoelgcdjhekafaaDoor.Help Go.Proofs.YtoelgcdjhekafaaDoor.Sum Go.Proofs.YtoelgcdjhekafaaDoor.Sha Go.Proofs.YtoelgcdjhekafaaDoor.Mac Go.Proofs.YtoelgcdjhekafaaDoor.Po Go.Proofs.YtoelgcdjhekafaaDoor.Hkdf Go.Proofs.YtoelgcdjhekafaaDoor
set_option linter.unusedVariables false
attribute [local irreducible] wpList wpListIn Calls

set_option maxRecDepth 100000 in
set_option maxHeartbeats 4000000 in
theorem eight_any (x : Int) (w : World) :
    Calls Tryd.prog 24 #[.int .u64 x] w fun e w' => ∃ A' c', e = .returned (.slice A' 8 c') ∧ Mem.Own w' w.heap.size 5 .u8 (.slice A' 8 c') (digits x 8) ∧ Below w.heap.size w w' := by
  go_enter Tryd.func24, Tryd.ntmps24
  go_wp2_with fail
  go_loopw [3, 4] (fun u i wr => ∃ (k : Nat) (A : Option Addr) (c : Nat), k ≤ 8 ∧ u = .slice A k c ∧ i = .int .i64 k ∧ Mem.Own wr w.heap.size 5 .u8 (.slice A k c) (digits x k) ∧ Below w.heap.size w wr) (fun _ i _ => 8 - (intOf i).toNat)
  case atStart => exact ⟨0, none, 0, by omega, rfl, rfl, Mem.Own.nil _ _ _ _, Below.refl _ _⟩
  case round =>
    obtain ⟨k, A, c, hk, rfl, rfl, ok, bk⟩ := hrel
    by_cases hlt : k < 8
    · have hlt' : (k : Int) < 8 := by omega
      have hk0 : (0 : Int) ≤ (k : Int) := by omega
      have W1 : IntKind.i64.wrap (8 * (k : Int)) = ((8 * k : Nat) : Int) := by rw [IntKind.wrap_i64]; omega
      have W2 : IntKind.u64.wrap ((8 * k : Nat) : Int) = ((8 * k : Nat) : Int) := by rw [IntKind.wrap_u64]; omega
      have W3 : IntKind.u8.wrap (x / 2 ^ (8 * k)) = x / 2 ^ (8 * k) % 256 := by rw [IntKind.wrap_u8]
      have W4 := fun W => Held.run_shr (P := Tryd.prog) 23 .u64 .u64 (a := x) (8 * k) (by show 8 * k ≤ 64; omega) rfl W
      have hwz : ∀ z ∈ [x / 2 ^ (8 * k) % 256], (Lit.int .u8 z).wf = true := fun z hz => by rw [List.mem_singleton.1 hz]; exact wf_byte (byte_range k)
      have HD := Lib.hid (digits_snoc k x)
      have HL := Lib.hid (digits_length k x)
      generalize x / 2 ^ (8 * k) % 256 = b at W3 hwz HD
      go_wp2_with (first
        | (refine Held.wpList_build_row (w := wr) rfl 34 5 1 _ rfl .u8 1 [b] Tryd.underlying34 info_u8 (by simp [Act.eval]) rfl (by omega) (by omega) hwz ?_; intro w2 r2 g2 z2; have o2 := ok.kept g2 (by cases (Value.slice A k c).ownBlock <;> simp))
        | (at_builtin; refine wpList_append_ints w2 rfl _ _ 34 rfl w.heap.size 5 .u8 1 Tryd.underlying34 info_u8 (.slice A k c) (digits x k) rfl o2 w2.heap.size (some ⟨wr.heap.size, 0, none⟩) 1 1 [b] rfl (by have := r2.ints (n := 1) (by simp); simpa using this) (by rw [HL.out]; omega) (by omega) (Nat.le_trans bk.size g2.size) ?_; intro v3 w3 o3 g3 t3; obtain ⟨A3, c3, rfl, h3a, h3b, j3⟩ := o3.form; obtain ⟨n3, hn3⟩ : ∃ n3, (digits x k ++ [b]).length = n3 := ⟨_, rfl⟩; rw [hn3] at o3 j3 h3a ⊢; have HN3 := Lib.hid hn3; clear hn3))
      have hn3 : n3 = k + 1 := by have := HN3.out; rw [List.length_append, HL.out] at this; simp at this; omega
      rw [← HD.out] at o3
      have b3 := (bk.grown g2 bk.size (by simp)).grown g3 (Nat.le_trans bk.size g2.size) (fun r e => (o2.2.lt r e).1)
      clear g2 g3 t3 r2 z2 j3 o2 ok bk HN3 HD
      subst hn3
      go_roundw
      case rel => exact ⟨k + 1, A3, c3, by omega, rfl, by go_num, o3, b3⟩
      case measure => simp [intOf]; omega
    · have hk8 : k = 8 := by omega
      subst hk8
      go_wp2_with fail
      go_ret
      exact ⟨A, c, rfl, ok, bk⟩

set_option maxRecDepth 100000 in
set_option maxHeartbeats 4000000 in
theorem eights_any (B : Nat) (A : Option Addr) (m c : Nat) (xs : List Int) (w : World) (h : Ints w .u64 B A m xs) (hB : B ≤ w.heap.size) (hm : m ≤ 1000) :
    Calls Tryd.prog 28 #[.slice A m c] w fun e w' => ∃ A' n' c', e = .returned (.slice A' n' c') ∧ Mem.Own w' w.heap.size 5 .u8 (.slice A' n' c') (eights xs) ∧ Below w.heap.size w w' := by
  have HM := Lib.hid h.1
  have hmi : (m : Int) ≤ 1000 := by omega
  go_enter Tryd.func28, Tryd.ntmps28
  go_wp2_with fail
  go_loopw [3, 4] (fun u i wr => ∃ (k n1 : Nat) (A1 : Option Addr) (c1 : Nat), k ≤ m ∧ u = .slice A1 n1 c1 ∧ i = .int .i64 k ∧ Mem.Own wr w.heap.size 5 .u8 (.slice A1 n1 c1) (eights (xs.take k)) ∧ Below w.heap.size w wr) (fun _ i _ => m - (intOf i).toNat)
  case atStart => exact ⟨0, 0, none, 0, by omega, rfl, rfl, by rw [List.take_zero]; exact Mem.Own.nil _ _ _ _, Below.refl _ _⟩
  case round =>
    obtain ⟨k, n1, A1, c1, hk, rfl, rfl, ok, bk⟩ := hrel
    by_cases hlt : k < m
    · obtain ⟨b, off, rfl, hb, hc⟩ := (h.below (bk.mono hB)).at_ hlt
      have hlt' : (k : Int) < (m : Int) := by omega
      have hk0 : (0 : Int) ≤ (k : Int) := by omega
      have hkl : k < xs.length := by rw [HM.out]; exact hlt
      have HE := Lib.hid (show eights (xs.take k) ++ digits (xs.getD k 0) 8 = eights (xs.take (k + 1)) by rw [← order_prefix xs hkl, eights_snoc])
      have HL := Lib.hid (show (eights (xs.take k)).length ≤ 8000 by rw [eights_length, List.length_take]; omega)
      generalize xs.getD k 0 = x at hc HE
      go_wp2_with fail
      refine (eight_any x wr).mono ?_
      rintro e w2 ⟨A2, c2, rfl, o2, b2⟩
      have j2 := o2.ints (digits_length 8 x)
      have oo := ok.below b2
      go_wp2_with (at_builtin; refine wpList_append_ints w2 rfl _ _ 34 rfl w.heap.size 5 .u8 1 Tryd.underlying34 info_u8 (.slice A1 n1 c1) (eights (xs.take k)) rfl oo w2.heap.size A2 8 c2 (digits x 8) rfl j2 (by have := HL.out; omega) (by omega) (Nat.le_trans bk.size b2.size) ?_; intro v3 w3 o3 g3 t3; obtain ⟨A3, c3, rfl, h3a, h3b, j3⟩ := o3.form; obtain ⟨n3, hn3⟩ : ∃ n3, (eights (xs.take k) ++ digits x 8).length = n3 := ⟨_, rfl⟩; rw [hn3] at o3 j3 h3a ⊢; have HN3 := Lib.hid hn3; clear hn3)
      rw [HE.out] at o3
      have b3 := (bk.trans (b2.mono bk.size)).grown g3 (Nat.le_trans bk.size b2.size) (fun r e => (oo.2.lt r e).1)
      clear g3 t3 j3 j2 oo o2 b2 ok bk HN3 HE HL hc h3a h3b
      go_roundw
      case rel => exact ⟨k + 1, n3, A3, c3, by omega, rfl, by go_num, o3, b3⟩
      case measure => simp [intOf]; omega
    · have hkm : k = m := by omega
      subst hkm
      rw [List.take_of_length_le (by rw [HM.out]; omega)] at ok
      go_wp2_with fail
      go_ret
      exact ⟨A1, n1, c1, rfl, ok, bk⟩

set_option maxHeartbeats 1000000 in
theorem raad_any (ph r a t i n : Int) (ht : (Lit.int .u64 t).wf = true) (w : World) :
    Calls Tryd.prog 20 #[.agg #[.int .i64 ph, .int .i64 r, .int .i64 a, .int .u64 t, .int .i64 i], .int .i64 n] w fun e w' => ∃ A n' c, e = .returned (.slice A n' c) ∧ OwnM w' w.heap.size 5 .u8 (.slice A n' c) (kAad ph r a t i n) ∧ Below w.heap.size w w' := by
  have h1 := u64_eq ph
  have h2 := u64_eq r
  have h3 := u64_eq a
  have h4 := u64_eq i
  have h5 := u64_eq n
  have hwz : ∀ z ∈ [u64 ph, u64 r, u64 a, t, u64 i, u64 n], (Lit.int .u64 z).wf = true := fun z hz => by
    simp only [List.mem_cons, List.not_mem_nil, or_false] at hz
    rcases hz with rfl | rfl | rfl | rfl | rfl | rfl <;> first | exact u64_wf _ | exact ht
  go_enter Tryd.func20, Tryd.ntmps20
  go_wp2_with (refine Held.wpList_build_row rfl 60 23 6 _ rfl .u64 8 [u64 ph, u64 r, u64 a, t, u64 i, u64 n] Tryd.underlying60 info_w64 (by simp [Act.eval, h1, h2, h3, h4, h5]) rfl (by omega) (by omega) hwz ?_; intro w2 r2 g2 z2)
  have b2 : Below w.heap.size w w2 := ((Below.refl _ w).alloc (Nat.le_refl _) _).grown g2 (by simp) (by simp)
  have i2 := r2.ints (n := 6) (by simp)
  refine (eights_any w2.heap.size _ 6 6 [u64 ph, u64 r, u64 a, t, u64 i, u64 n] w2 (by simpa using i2) (Nat.le_refl _) (by omega)).mono ?_
  rintro e w3 ⟨A3, n3, c3, rfl, o3, b3⟩
  have c3' := b2.trans (b3.mono b2.size)
  have o3' : OwnM w3 w.heap.size 5 .u8 (.slice A3 n3 c3) (kAad ph r a t i n) := by
    have q := (OwnM.of o3).less b2.size
    rwa [show eights [u64 ph, u64 r, u64 a, t, u64 i, u64 n] = kAad ph r a t i n by simp [kAad, eights]] at q
  clear o3 b3 i2 g2 r2 z2 b2
  go_wp2_with fail
  go_ret
  exact ⟨A3, n3, c3, rfl, o3', c3'⟩
end Go.Proofs.YtoelgcdjhekafaaDoor.Ky
namespace Go.Proofs.YtoelgcdjhekafaaDoor.Ky
open Go.RowKit Go.Shelf Go.Proofs.YtoelgcdjhekafaaDoor.Mem Go.Proofs.YtoelgcdjhekafaaDoor.Help Go.Proofs.YtoelgcdjhekafaaDoor.Sum Go.Proofs.YtoelgcdjhekafaaDoor.Sha Go.Proofs.YtoelgcdjhekafaaDoor.Mac Go.Proofs.YtoelgcdjhekafaaDoor.Po Go.Proofs.YtoelgcdjhekafaaDoor.Hkdf Go.Proofs.YtoelgcdjhekafaaDoor
set_option linter.unusedVariables false
attribute [local irreducible] wpList wpListIn Calls

theorem digits_get : ∀ (n k : Nat) (x : Int), k < n → (digits x n).getD k 0 = x / 2 ^ (8 * k) % 256
  | 0, k, x, h => absurd h (by omega)
  | n + 1, 0, x, _ => by simp [digits]
  | n + 1, k + 1, x, h => by
    rw [digits, List.getD_cons_succ, digits_get n k (x / 256) (by omega)]
    congr 1
    rw [show (2 : Int) ^ (8 * (k + 1)) = 256 * 2 ^ (8 * k) by rw [show 8 * (k + 1) = 8 * k + 8 by omega, Int.pow_add]; omega, Int.ediv_ediv_of_nonneg (by omega)]
/-- so far as it is filled -/
def part (xs : List Int) (k : Nat) : List Int := xs.take k ++ List.replicate (xs.length - k) 0
theorem part_length (xs : List Int) {k : Nat} (h : k ≤ xs.length) : (part xs k).length = xs.length := by simp [part]; omega
theorem part_zero (xs : List Int) : part xs 0 = List.replicate xs.length 0 := by simp [part]
theorem part_all (xs : List Int) : part xs xs.length = xs := by simp [part]
theorem part_set (xs : List Int) {k : Nat} (h : k < xs.length) : (part xs k).set k (xs.getD k 0) = part xs (k + 1) := by
  unfold part
  rw [List.set_append_right _ _ (by rw [List.length_take]; omega), List.length_take, Nat.min_eq_left (by omega), Nat.sub_self, show xs.length - k = (xs.length - (k + 1)) + 1 by omega, List.replicate_succ, List.set_cons_zero, ← order_prefix xs h]
  simp
theorem nonce_low (a i : Int) {k : Nat} (h : k < 8) : (nonce a i).getD k 0 = a / 2 ^ (8 * k) % 256 := by
  rw [nonce, List.getD_eq_getElem?_getD, List.getElem?_append_left (by rw [digits_length]; exact h), ← List.getD_eq_getElem?_getD, digits_get 8 k a h]
theorem nonce_high (a i : Int) {k : Nat} (h : k < 4) : (nonce a i).getD (8 + k) 0 = u64 i / 2 ^ (8 * k) % 256 := by
  rw [nonce, List.getD_eq_getElem?_getD, List.getElem?_append_right (by rw [digits_length]; omega), digits_length, Nat.add_sub_cancel_left, ← List.getD_eq_getElem?_getD, ← digits_congr 4 (show u64 i % 256 ^ 4 = i % 256 ^ 4 by unfold u64; omega), digits_get 4 k _ h]

set_option maxRecDepth 100000 in
set_option maxHeartbeats 4000000 in
theorem rnonce_any (a i : Int) (w : World) :
    Calls Tryd.prog 17 #[.int .u64 a, .int .i64 i] w fun e w' => e = .returned (.agg (arr .u8 (nonce a i))) ∧ Below w.heap.size w w' := by
  have hui := u64_eq i
  have HN := Lib.hid (nonce_length a i)
  have HB := Lib.hid (nonce_bytes a i)
  have HL := fun k (h : k < 8) => nonce_low a i h
  have HH := fun k (h : k < 4) => nonce_high a i h
  generalize hns : nonce a i = ns at HN HB HL HH
  have HNS := Lib.hid hns
  clear hns
  have HLL := Lib.hid HL
  have HHH := Lib.hid HH
  clear HL HH
  go_enter Tryd.func17, Tryd.ntmps17
  go_wp2_with (first
    | (refine wpList_alloc_Row (w := w) rfl 31 rfl .u8 12 zero_12 ?_; intro w1 r1 g1 z1)
    | (refine wpList_alloc_Row (w := w1) rfl 31 rfl .u8 12 zero_12 ?_; intro w2 r2 g2 z2))
  obtain ⟨g, hg⟩ : ∃ g, w1.heap.size = g := ⟨_, rfl⟩
  have b2 : Below w.heap.size w w2 := ((Below.refl _ w).grown g1 (Nat.le_refl _) (by simp)).grown g2 g1.size (by simp)
  have r12 := r1.grown g2 (by simp)
  have hgw : w.heap.size < g := by rw [← hg]; exact r1.lt
  rw [hg] at r2 ⊢
  have HP0 := Lib.hid (show List.replicate 12 (0 : Int) = part ns 0 by rw [part_zero, HN.out])
  clear hg r1 g1 g2 z1 z2
  go_loopw [6] (fun v wr => ∃ k : Nat, k ≤ 8 ∧ v = .int .i64 k ∧ Row wr g 31 .u8 (part ns k) ∧ Row wr w.heap.size 31 .u8 (List.replicate 12 0) ∧ Below w.heap.size w wr) (fun v _ => 8 - (intOf v).toNat)
  case atStart => exact ⟨0, by omega, rfl, by rw [← HP0.out]; exact r2, r12, b2⟩
  case round =>
    clear r2 r12 b2
    obtain ⟨k, hk, rfl, rk, ro, bk⟩ := hrel
    by_cases hlt : k < 8
    · have hkn : k < ns.length := by rw [HN.out]; omega
      have hc := rk.cell (i := k) (by rw [part_length ns (by omega)]; exact hkn)
      have hf := rk.frozen k
      have HS : Hid (Row (wr.setCell ⟨g, k, none⟩ (.int .u8 (a / 2 ^ (8 * k) % 256))) g 31 .u8 (part ns (k + 1))) := Lib.hid (by rw [← part_set ns hkn, HLL.out k hlt]; exact rk.set k (wf_byte (byte_range k)))
      have hlt' : (k : Int) < 8 := by omega
      have hk0 : (0 : Int) ≤ (k : Int) := by omega
      have W1 : IntKind.i64.wrap (8 * (k : Int)) = ((8 * k : Nat) : Int) := by rw [IntKind.wrap_i64]; omega
      have W2 : IntKind.u64.wrap ((8 * k : Nat) : Int) = ((8 * k : Nat) : Int) := by rw [IntKind.wrap_u64]; omega
      have W3 : IntKind.u8.wrap (a / 2 ^ (8 * k)) = a / 2 ^ (8 * k) % 256 := by rw [IntKind.wrap_u8]
      have W4 := fun W => Held.run_shr (P := Tryd.prog) 23 .u64 .u64 (a := a) (8 * k) (by show 8 * k ≤ 64; omega) rfl W
      generalize a / 2 ^ (8 * k) % 256 = b at W3 HS
      generalize (part ns k).getD k 0 = old at hc
      go_wp2_with fail
      go_roundw
      case rel => exact ⟨k + 1, by omega, by go_num, HS.out, ro.other (by simp; omega) _, bk.setCell (by simp; omega) _⟩
      case measure => simp [intOf]; omega
    · have hk8 : k = 8 := by omega
      subst hk8
      go_wp2_with fail
      go_loopw [7] (fun v wr => ∃ k : Nat, k ≤ 4 ∧ v = .int .i64 k ∧ Row wr g 31 .u8 (part ns (8 + k)) ∧ Row wr w.heap.size 31 .u8 (List.replicate 12 0) ∧ Below w.heap.size w wr) (fun v _ => 4 - (intOf v).toNat)
      case atStart => exact ⟨0, by omega, rfl, rk, ro, bk⟩
      case round =>
        clear rk ro bk
        obtain ⟨k, hk, rfl, rk, ro, bk⟩ := hrel
        by_cases hlt : k < 4
        · have hkn : 8 + k < ns.length := by rw [HN.out]; omega
          have hc := rk.cell (i := 8 + k) (by rw [part_length ns (by omega)]; exact hkn)
          have hf := rk.frozen (8 + k)
          have HS : ∀ W : World, W = wr → Hid (Row (W.setCell ⟨g, 8 + k, none⟩ (.int .u8 (u64 i / 2 ^ (8 * k) % 256))) g 31 .u8 (part ns (8 + k + 1))) := fun W hW => Lib.hid (by subst hW; rw [← part_set ns hkn, HHH.out k hlt]; exact rk.set (8 + k) (wf_byte (byte_range k)))
          have HS := HS _ rfl
          have hlt' : (k : Int) < 4 := by omega
          have hk0 : (0 : Int) ≤ (k : Int) := by omega
          have W1 : IntKind.i64.wrap (8 * (k : Int)) = ((8 * k : Nat) : Int) := by rw [IntKind.wrap_i64]; omega
          have W2 : IntKind.u64.wrap ((8 * k : Nat) : Int) = ((8 * k : Nat) : Int) := by rw [IntKind.wrap_u64]; omega
          have W3 : IntKind.u8.wrap (u64 i / 2 ^ (8 * k)) = u64 i / 2 ^ (8 * k) % 256 := by rw [IntKind.wrap_u8]
          have W4 := fun W => Held.run_shr (P := Tryd.prog) 23 .u64 .u64 (a := u64 i) (8 * k) (by show 8 * k ≤ 64; omega) rfl W
          have W5 : IntKind.i64.wrap (8 + (k : Int)) = ((8 + k : Nat) : Int) := by rw [IntKind.wrap_i64]; omega
          have hlt2 : ((8 + k : Nat) : Int) < 12 := by omega
          generalize u64 i / 2 ^ (8 * k) % 256 = b at W3 HS
          generalize (part ns (8 + k)).getD (8 + k) 0 = old at hc
          go_wp2_with fail
          go_roundw
          case rel => exact ⟨k + 1, by omega, by go_num, HS.out, ro.other (by simp; omega) _, bk.setCell (by simp; omega) _⟩
          case measure => simp [intOf]; omega
        · have hk4 : k = 4 := by omega
          subst hk4
          rw [show 8 + 4 = ns.length by rw [HN.out], part_all] at rk
          have HW := Lib.hid (bs_wf HB.out)
          go_wp2_with (first
            | (refine wpList_load_Row rfl 31 _ rfl g rfl 31 .u8 _ rk 12 5 Tryd.underlying31 info_12 HN.out ?_)
            | (refine wpList_store_RowTo rfl 31 _ _ rfl w.heap.size rfl 31 .u8 _ ns rfl ro 12 info_12 HN.out (by simp) HW.out ?_; intro w5 r5 g5 z5))
          have b5 : Below w.heap.size w w5 := bk.grown g5 bk.size (fun r e => by cases e; exact Nat.le_refl _)
          exact bodyPost_ret (results_Row rfl _ _ w.heap.size _ _ _ rfl r5 12 5 Tryd.underlying31 info_12 HN.out) rfl ⟨rfl, b5⟩
end Go.Proofs.YtoelgcdjhekafaaDoor.Ky
namespace Go.Proofs.YtoelgcdjhekafaaDoor.Mem
open Go.RowKit
set_option linter.unusedVariables false

theorem wpList_text {P : Program} {ops : Array Oper} {rest : List Oper} {o1 o2 : Oper} {a : Act} {w : World} {Q : Exit → Act → World → Prop} (hg1 : o1.guard = none) (hg2 : o2.guard = none) (t e : TypeId) (len : Nat) (parts : Array (Nat × Operand)) (x : Operand)
    (ho1 : o1.op = .buildSlice t len parts) (ho2 : o2.op = .convert t t x) (zs : List Int) (hu : P.underlying t = some (.slice e)) (he : P.underlying e = some (.int .u8)) (hsz : (P.info? e).map (·.size) = some 1) (hz : ((P.info? e).bind (·.zero)).isSome = true)
    (hlen : len = zs.length) (hpos : 0 < len) (hsmall : len ≤ 2 ^ 24) (hparts : parts.toList = (zs.zipIdx 0).map fun x => (x.2, Operand.const (Value.int .u8 x.1))) (hwf : ∀ z ∈ zs, (Lit.int .u8 z).wf = true)
    (hx : (a.put o1.dst (.slice (some ⟨w.heap.size, 0, none⟩) len len)).eval x = .slice (some ⟨w.heap.size, 0, none⟩) len len)
    (h : ∀ w', Ints w' .u8 w'.heap.size (some ⟨w.heap.size, 0, none⟩) len zs → Below w.heap.size w w' → Hid (w'.heap.size = w.heap.size + 1) → wpList P ops Q rest ((a.put o1.dst (.slice (some ⟨w.heap.size, 0, none⟩) len len)).put o2.dst (.slice (some ⟨w.heap.size, 0, none⟩) len len)) w') :
    wpList P ops Q (o1 :: o2 :: rest) a w := by
  refine wpList_buildFlat hg1 t e len parts ho1 .u8 zs hu hsz hz hlen hpos hsmall hparts ?_
  refine wpList_plain hg2 fun K hK => ?_
  unfold Oper.wp execOp
  simp only [ho2, hx, Sem.run_bind, Lib.run_convert_bytes_const w t e _ len len hu he, Sem.run_pure, Result.andThen_ok]
  refine hK _ _ (h _ ⟨hlen.symm, hwf, fun _ => ⟨w.heap.size, 0, rfl, by simp, fun i hi => ?_⟩⟩ ((Below.refl _ w).alloc (Nat.le_refl _) _) (Lib.hid (by simp)))
  rw [World.cell?_alloc_mark, Nat.zero_add]
  exact arr_get .u8 zs (by omega)
end Go.Proofs.YtoelgcdjhekafaaDoor.Mem
