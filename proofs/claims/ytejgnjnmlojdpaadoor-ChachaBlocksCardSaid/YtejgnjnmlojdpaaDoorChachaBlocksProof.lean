/-
  The law ChachaBlocks of package dominolaw05 returns true for every key, counter, nonce, four numbers, and number: the block of any key, counter and nonce is the document's own; a quarter of any four numbers; blocks one behind the other, as often as one likes, and no more than are asked for. The table of package chacha holds what the program's text lays.
-/
import Derived.Test.YtejgnjnmlojdpaaDoorRows
import Derived.Test.YtejgnjnmlojdpaaDoorCards
import Derived.Test.YtejgnjnmlojdpaaDoorTie
import Derived.SevenTiedAt
import Derived.WalkKit
import Derived.ProofKit
import Derived.OpenShut
import Derived.ShutString
import Derived.ChangeOld
import Derived.Below
import Derived.LaidMore
import Derived.Stop.Joined
import Derived.Test.YtejgnjnmlojdpaaDoorCh9
import Derived.Test.YtejgnjnmlojdpaaDoorChF
import Derived.Test.YtejgnjnmlojdpaaDoorCh5
import Derived.Test.YtejgnjnmlojdpaaDoorReg
import Derived.Test.YtejgnjnmlojdpaaDoorArrP
import Derived.Deep.MidRow
namespace Go.Proofs.YtejgnjnmlojdpaaDoor.chachaBlocks
open Go.ChangeShapes Go.WideShapes Go.ChangeAt Go.RowKit
open Go.ChangeMaps (open_string shut_string)
open Go.Shelf Go.Proofs.YtejgnjnmlojdpaaDoor.Mem Go.Proofs.YtejgnjnmlojdpaaDoor.Help Go.Proofs.YtejgnjnmlojdpaaDoor.Sum Go.Proofs.YtejgnjnmlojdpaaDoor.Cc Go.Proofs.YtejgnjnmlojdpaaDoor.Sha Go.Proofs.YtejgnjnmlojdpaaDoor.Cha Go.Proofs.YtejgnjnmlojdpaaDoor
set_option linter.unusedVariables false

theorem own : ownKnob Tryd.prog.godebug = none := by kernel_rfl
theorem laidOut : laidOutB Tryd.prog = true := by kernel_rfl

/-- what a slice that came in leads to -/
def IsRow (k : IntKind) (w : World) (a : Option Addr) (len cap : Nat) (zs : List Int) : Prop :=
  (a = none ∧ len = 0 ∧ cap = 0 ∧ zs = []) ∨
  ∃ x, a = some x ∧ len ≤ cap ∧ cap ≤ maxLen ∧ zs.length = cap ∧ (∀ i, i < zs.length → w.cell? (x.add i) = some (.int k (zs.getD i 0))) ∧ ∀ n ∈ zs, (Lit.int k n).wf = true

def laidList : List (String × DataW Unit) := [("domino/chacha.start", Rows.laid_domino_chacha_start)]

attribute [local irreducible] wpList Calls

theorem y_nei {P : Program} {S : World → Prop} {ρ : Operand → Value} {o : Oper} {t ty : TypeId} {x y : Operand} {k : IntKind} {a : Int} (ho : o.op = .binOp .neq t x y ty) (hx : ρ x = .int k a) (hy : ρ y = .int k a) :
    ∀ w, S w → (execOp ρ o).run P w = .ok (.value (.bool false)) w := Held.y_bin ho hx hy (fun w => by simp [eqGuard]) (fun w => by simp [binOp, Op.intCmp])
theorem eq_arr {P : Program} (w : World) (t e : TypeId) (n : Nat) (k : IntKind) (zs : List Int) (ht : P.underlying t = some (.array n e)) (he : P.underlying e = some (.int k)) (hs : (P.info? e).map (·.size) = some 1) (hx : zs.length = n) :
    (Op.equal t (.agg (arr k zs)) (.agg (arr k zs))).run P w = .ok true w := by
  have h := eql_arr (P := P) w t e n k zs ht he hs hx
  rw [run_eql_struct] at h
  have e1 : (Op.equal t (.agg (arr k zs)) (.agg (arr k zs))).run P w = (Op.equalIn 10000 t (.agg (arr k zs)) (.agg (arr k zs))).run P w := rfl
  rw [e1]
  generalize (Op.equalIn 10000 t (.agg (arr k zs)) (.agg (arr k zs))).run P w = r at h
  cases r with
  | ok b w' =>
    simp only [Result.andThen_ok, Result.ok.injEq, Value.bool.injEq] at h
    rw [h.1, h.2]
  | halt h' w' => simp [Result.andThen] at h
theorem y_neql {P : Program} {S : World → Prop} {ρ : Operand → Value} {o : Oper} {t e ty : TypeId} {x y : Operand} {k : IntKind} {zs : List Int} {n : Nat} (ho : o.op = .binOp .neq t x y ty) (hx : ρ x = .agg (arr k zs)) (hy : ρ y = .agg (arr k zs)) (hq : P.eqGuardType P.depth t = false) (ht : P.underlying t = some (.array n e)) (he : P.underlying e = some (.int k)) (hs : (P.info? e).map (·.size) = some 1) (hn : zs.length = n) :
    ∀ w, S w → (execOp ρ o).run P w = .ok (.value (.bool false)) w := Held.y_bin ho hx hy (fun w => by simp [eqGuard, hq]) (fun w => by
      have h := eq_arr (P := P) w t e n k zs ht he hs hn
      simp only [binOp]
      simp [h])
theorem run_addr_block {P : Program} (t e : TypeId) (g len cap i s : Nat) (k : IntKind) (ht : P.underlying t = some (.slice e)) (hs : (P.info? e).map (·.size) = some s) (hi : i < len) (w : World) :
    (Instr.indexAt t (.slice (some ⟨g, 0, none⟩) len cap) (.int k (i : Int))).run P w = .ok (.pointer (some ⟨g, i * s, none⟩)) w := by
  have he : P.elem t = e := by simp [Program.elem, ht]
  have hz : (sizeOf e).run P w = .ok s w := by
    cases hq : P.info? e with
    | none => simp [hq] at hs
    | some q => simp [hq] at hs; simp [sizeOf, typeInfo, hq, hs]
  have ea : (Addr.mk g 0 none).add (i * s) = ⟨g, i * s, none⟩ := by unfold Addr.add; split <;> simp_all
  rw [run_indexAt_slice w t ⟨g, 0, none⟩ len cap k (i : Int) (by rw [he]; exact ht), he, if_pos ⟨by omega, by omega⟩, hz]
  simp [Result.andThen, ea]
theorem cellsOf_get {n : Nat} : ∀ (zss : List (List Int)) (i j : Nat) (v : Value), (∀ zs ∈ zss, zs.length = n) → i < zss.length → ((zss.getD i []).map (Value.int .u8))[j]? = some v → (cellsOf zss)[i * n + j]? = some v
  | [], i, j, v, _, hi, _ => absurd hi (by simp)
  | zs :: zss, 0, j, v, hl, _, h => by
    have hj : j < n := by have := (List.getElem?_eq_some_iff.1 h).1; simpa [hl zs (by simp)] using this
    simp only [cellsOf, List.flatMap_cons, Nat.zero_mul, Nat.zero_add]
    rw [List.getElem?_append_left (by simpa [hl zs (by simp)] using hj)]
    exact h
  | zs :: zss, i + 1, j, v, hl, hi, h => by
    simp only [cellsOf, List.flatMap_cons]
    rw [List.getElem?_append_right (by simp [hl zs (by simp), Nat.succ_mul]; omega), List.length_map, hl zs (by simp), show (i + 1) * n + j - n = i * n + j by rw [Nat.succ_mul]; omega]
    exact cellsOf_get zss i j v (fun ys hy => hl ys (by simp [hy])) (by simpa using hi) h
theorem range_block {w : World} {base g n c : Nat} {zss : List (List Int)} (h : OwnB w base (.slice (some ⟨g, 0, none⟩) n c) zss) (hl : ∀ zs ∈ zss, zs.length = 64) {i : Nat} (hi : i < zss.length) : w.rangeAt g (i * 64) ((zss.getD i []).map (Value.int .u8)) := fun j v hv => by
  have := h.cells (g := g) rfl (i * 64 + j) v (cellsOf_get zss i j v hl hi hv)
  rwa [Addr.add_mid, Nat.zero_add] at this
theorem ownB_at {w : World} {base n c : Nat} {A : Option Addr} {zss : List (List Int)} (h : OwnB w base (.slice A n c) zss) (hn : 0 < n) : ∃ g, A = some ⟨g, 0, none⟩ ∧ base ≤ g := by
  rcases h.2 with ⟨hv, _⟩ | ⟨g, cap, cur, hv, hb, _⟩
  · injection hv with _ h2; omega
  · injection hv with h1; exact ⟨g, h1, hb⟩
theorem y_load_mid {P : Program} {S : World → Prop} {ρ : Operand → Value} {o : Oper} {ty : TypeId} {x : Operand} {b off n : Nat} {e : TypeId} {k : IntKind} {zs : List Int} (ho : o.op = .load ty x) (hx : ρ x = .pointer (some ⟨b, off, none⟩)) (hu : P.underlying ty = some (.array n e)) (hi : (P.info? ty).map (·.size) = some n) (hn : zs.length = n)
    (hr : ∀ w, S w → w.rangeAt b off (zs.map (Value.int k))) : ∀ w, S w → (execOp ρ o).run P w = .ok (.value (.agg (arr k zs))) w := fun w hw => by
  have h := run_loadAt_mid (P := P) w b off ty (zs.map (Value.int k)) _ (hr w hw) hu rfl (by rw [hi, List.length_map, hn])
  simp [execOp, ho, hx, h, arr]
theorem range_below {B : Nat} {w w' : World} {b o : Nat} {cs : List Value} (h : w.rangeAt b o cs) (hb : Below B w w') (hB : b < B) : w'.rangeAt b o cs := fun j v hv => (hb.cell (p := ⟨b, o + j, none⟩) hB).trans (h j v hv)

set_option maxRecDepth 100000 in
set_option maxHeartbeats 8000000 in
theorem start (key nonce qs : List Int) (ctr x : Int) (w : World) (hk : key.length = 32) (hkb : Bs key) (hn : nonce.length = 12) (hnb : Bs nonce) (hql : qs.length = 4) (hqw : ∀ z ∈ qs, (Lit.int .u32 z).wf = true) (hc : R32 ctr) (hT : Tab w 0 sigma) :
    Calls Tryd.prog 3 #[.agg (arr .u8 key), .int .u32 ctr, .agg (arr .u8 nonce), .agg (arr .u32 qs), .int .i64 x] w fun e w' => e = .returned (.bool true) ∧ Below w.heap.size w w' := by
  have info_k : (Tryd.prog.info? 22).map (·.size) = some 32 := by kernel_rfl
  have info_n : (Tryd.prog.info? 24).map (·.size) = some 12 := by kernel_rfl
  obtain ⟨N, hN, hN1, hN6⟩ : ∃ N : Nat, wrap64 (1 + wrap64 ((IntKind.u64.wrap x).tmod 6)) = (N : Int) ∧ 1 ≤ N ∧ N ≤ 6 := by
    have hu0 : 0 ≤ IntKind.u64.wrap x := by rw [IntKind.wrap_u64]; omega
    have h1 : 0 ≤ IntKind.u64.wrap x % 6 := Int.emod_nonneg _ (by omega)
    have h2 : IntKind.u64.wrap x % 6 < 6 := Int.emod_lt_of_pos _ (by omega)
    rw [Int.tmod_eq_emod_of_nonneg hu0]
    exact ⟨(1 + IntKind.u64.wrap x % 6).toNat, by unfold wrap64; omega, by omega, by omega⟩
  obtain ⟨a, b, c, d, rfl⟩ : ∃ a b c d, qs = [a, b, c, d] := by
    rcases qs with _ | ⟨a, _ | ⟨b, _ | ⟨c, _ | ⟨d, _ | ⟨e, q⟩⟩⟩⟩⟩ <;> first | (simp at hql; done) | exact ⟨_, _, _, _, rfl⟩
  have HK := Lib.hid hk
  have HN := Lib.hid hn
  have HB := Lib.hid (block_length key ctr nonce)
  clear hk hn hql
  go_enter Tryd.func3, Tryd.ntmps3
  go_wp2_with (first
    | (refine wpList_box_Row (w := w) rfl 22 _ rfl .u8 key rfl (bs_wf hkb) ?_; intro wx r1 g1 z1)
    | (refine wpList_box_Row (w := wx) rfl 24 _ rfl .u8 nonce rfl (bs_wf hnb) ?_; intro wy r2 g2 z2)
    | (refine wpList_box_Row (w := wy) rfl 25 _ rfl .u32 [a, b, c, d] rfl hqw ?_; intro wz r3 g3 z3; have c0 := r3.cell (i := 0) (by simp); have c1 := r3.cell (i := 1) (by simp); have c2 := r3.cell (i := 2) (by simp); have c3 := r3.cell (i := 3) (by simp); simp only [List.getD_cons_zero, List.getD_cons_succ] at c0 c1 c2 c3))
  refine (quarter_any _ _ _ _ _).mono ?_
  rintro e w' ⟨rfl, rfl⟩
  go_wp2_with fail
  refine (rquarter_any _ _ _ _ _).mono ?_
  rintro e w' ⟨rfl, rfl⟩
  go_wp2_with fail
  have bz : Below w.heap.size w wz := (((Below.refl _ w).grown g1 (Nat.le_refl _) (by simp)).grown g2 g1.size (by simp)).grown g3 (by have := g1.size; have := g2.size; omega) (by simp)
  have k3 := (r1.grown g2 (by simp)).grown g3 (by simp)
  have n3 := r2.grown g3 (by simp)
  obtain ⟨nn, hnn⟩ : ∃ y, wx.heap.size = y := ⟨_, rfl⟩
  obtain ⟨qb, hqb⟩ : ∃ y, wy.heap.size = y := ⟨_, rfl⟩
  rw [hnn] at n3 ⊢
  rw [hqb]
  clear hnn hqb r1 r2 r3 g1 g2 g3 z1 z2 z3 c0 c1 c2 c3
  generalize (qr a b c d).1 = q1
  generalize (qr a b c d).2.1 = q2
  generalize (qr a b c d).2.2.1 = q3
  generalize (qr a b c d).2.2.2 = q4
  refine wp_region_held (S := fun W => Below wz.heap.size wz W) (by kernel_rfl) ?_
  change wpAnyH _ _ _ _ _ _ _ _ wz.drew
  have c0_0 := (Below.refl wz.heap.size wz).drew
  refine Held.one 0 (by kernel_rfl) ?_
  refine Held.op_call 0 (some 51) 9 #[] rfl rfl rfl rfl (enters_of Tryd.func9 (by kernel_rfl) rfl) (by simp)
    (awake5_b _) ?_
  rintro e w1 ⟨rfl, b1⟩
  have c0_1 := c0_0.trans (b1.mono c0_0.size)
  refine ⟨_, rfl, c0_1, ?_⟩
  simp only [Act.put, List.setIfInBounds_toArray, List.set_cons_zero, List.set_cons_succ]
  refine Held.take (v := .bool false) 1 (some 52) rfl rfl (by kernel_rfl) (by kernel_rfl) (by kernel_rfl) (fun _ _ _ h => h) rfl (Held.y_not rfl rfl rfl) c0_1 ?_
  simp only [Act.put, List.setIfInBounds_toArray, List.set_cons_zero, List.set_cons_succ]
  refine Held.take (v := .bool false) 2 (some 53) rfl rfl (by kernel_rfl) (by kernel_rfl) (by kernel_rfl) (fun _ _ _ h => h) rfl (Held.y_move rfl rfl) c0_1 ?_
  simp only [Act.put, List.setIfInBounds_toArray, List.set_cons_zero, List.set_cons_succ]
  refine Held.take (v := .int .u32 q1) 3 (some 54) rfl rfl (by kernel_rfl) (by kernel_rfl) (by kernel_rfl) (fun _ _ _ h => h) rfl (Held.y_move rfl rfl) c0_1 ?_
  simp only [Act.put, List.setIfInBounds_toArray, List.set_cons_zero, List.set_cons_succ]
  refine Held.take (v := .int .u32 q1) 4 (some 55) rfl rfl (by kernel_rfl) (by kernel_rfl) (by kernel_rfl) (fun _ _ _ h => h) rfl (Held.y_move rfl rfl) c0_1 ?_
  simp only [Act.put, List.setIfInBounds_toArray, List.set_cons_zero, List.set_cons_succ]
  refine Held.take (v := .bool false) 5 (some 56) rfl rfl (by kernel_rfl) (by kernel_rfl) (by kernel_rfl) (fun _ _ _ h => h) rfl (y_nei rfl rfl rfl) c0_1 ?_
  simp only [Act.put, List.setIfInBounds_toArray, List.set_cons_zero, List.set_cons_succ]
  refine Held.take (v := .bool false) 6 (some 57) rfl rfl (by kernel_rfl) (by kernel_rfl) (by kernel_rfl) (fun _ _ _ h => h) rfl (Held.y_pickF rfl rfl rfl) c0_1 ?_
  simp only [Act.put, List.setIfInBounds_toArray, List.set_cons_zero, List.set_cons_succ]
  refine Held.take (v := .bool false) 7 (some 58) rfl rfl (by kernel_rfl) (by kernel_rfl) (by kernel_rfl) (fun _ _ _ h => h) rfl (Held.y_move rfl rfl) c0_1 ?_
  simp only [Act.put, List.setIfInBounds_toArray, List.set_cons_zero, List.set_cons_succ]
  refine Held.take (v := .int .u32 q2) 8 (some 59) rfl rfl (by kernel_rfl) (by kernel_rfl) (by kernel_rfl) (fun _ _ _ h => h) rfl (Held.y_move rfl rfl) c0_1 ?_
  simp only [Act.put, List.setIfInBounds_toArray, List.set_cons_zero, List.set_cons_succ]
  refine Held.take (v := .int .u32 q2) 9 (some 60) rfl rfl (by kernel_rfl) (by kernel_rfl) (by kernel_rfl) (fun _ _ _ h => h) rfl (Held.y_move rfl rfl) c0_1 ?_
  simp only [Act.put, List.setIfInBounds_toArray, List.set_cons_zero, List.set_cons_succ]
  refine Held.take (v := .bool false) 10 (some 61) rfl rfl (by kernel_rfl) (by kernel_rfl) (by kernel_rfl) (fun _ _ _ h => h) rfl (y_nei rfl rfl rfl) c0_1 ?_
  simp only [Act.put, List.setIfInBounds_toArray, List.set_cons_zero, List.set_cons_succ]
  refine Held.take (v := .bool false) 11 (some 62) rfl rfl (by kernel_rfl) (by kernel_rfl) (by kernel_rfl) (fun _ _ _ h => h) rfl (Held.y_pickF rfl rfl rfl) c0_1 ?_
  simp only [Act.put, List.setIfInBounds_toArray, List.set_cons_zero, List.set_cons_succ]
  refine Held.take (v := .bool false) 12 (some 63) rfl rfl (by kernel_rfl) (by kernel_rfl) (by kernel_rfl) (fun _ _ _ h => h) rfl (Held.y_move rfl rfl) c0_1 ?_
  simp only [Act.put, List.setIfInBounds_toArray, List.set_cons_zero, List.set_cons_succ]
  refine Held.take (v := .int .u32 q3) 13 (some 64) rfl rfl (by kernel_rfl) (by kernel_rfl) (by kernel_rfl) (fun _ _ _ h => h) rfl (Held.y_move rfl rfl) c0_1 ?_
  simp only [Act.put, List.setIfInBounds_toArray, List.set_cons_zero, List.set_cons_succ]
  refine Held.take (v := .int .u32 q3) 14 (some 65) rfl rfl (by kernel_rfl) (by kernel_rfl) (by kernel_rfl) (fun _ _ _ h => h) rfl (Held.y_move rfl rfl) c0_1 ?_
  simp only [Act.put, List.setIfInBounds_toArray, List.set_cons_zero, List.set_cons_succ]
  refine Held.take (v := .bool false) 15 (some 66) rfl rfl (by kernel_rfl) (by kernel_rfl) (by kernel_rfl) (fun _ _ _ h => h) rfl (y_nei rfl rfl rfl) c0_1 ?_
  simp only [Act.put, List.setIfInBounds_toArray, List.set_cons_zero, List.set_cons_succ]
  refine Held.take (v := .bool false) 16 (some 67) rfl rfl (by kernel_rfl) (by kernel_rfl) (by kernel_rfl) (fun _ _ _ h => h) rfl (Held.y_pickF rfl rfl rfl) c0_1 ?_
  simp only [Act.put, List.setIfInBounds_toArray, List.set_cons_zero, List.set_cons_succ]
  refine Held.take (v := .bool false) 17 (some 68) rfl rfl (by kernel_rfl) (by kernel_rfl) (by kernel_rfl) (fun _ _ _ h => h) rfl (Held.y_move rfl rfl) c0_1 ?_
  simp only [Act.put, List.setIfInBounds_toArray, List.set_cons_zero, List.set_cons_succ]
  refine Held.take (v := .int .u32 q4) 18 (some 69) rfl rfl (by kernel_rfl) (by kernel_rfl) (by kernel_rfl) (fun _ _ _ h => h) rfl (Held.y_move rfl rfl) c0_1 ?_
  simp only [Act.put, List.setIfInBounds_toArray, List.set_cons_zero, List.set_cons_succ]
  refine Held.take (v := .int .u32 q4) 19 (some 70) rfl rfl (by kernel_rfl) (by kernel_rfl) (by kernel_rfl) (fun _ _ _ h => h) rfl (Held.y_move rfl rfl) c0_1 ?_
  simp only [Act.put, List.setIfInBounds_toArray, List.set_cons_zero, List.set_cons_succ]
  refine Held.take (v := .bool false) 20 (some 71) rfl rfl (by kernel_rfl) (by kernel_rfl) (by kernel_rfl) (fun _ _ _ h => h) rfl (y_nei rfl rfl rfl) c0_1 ?_
  simp only [Act.put, List.setIfInBounds_toArray, List.set_cons_zero, List.set_cons_succ]
  refine Held.take (v := .bool false) 21 (some 72) rfl rfl (by kernel_rfl) (by kernel_rfl) (by kernel_rfl) (fun _ _ _ h => h) rfl (Held.y_pickF rfl rfl rfl) c0_1 ?_
  simp only [Act.put, List.setIfInBounds_toArray, List.set_cons_zero, List.set_cons_succ]
  refine Held.take (v := .bool false) 22 (some 73) rfl rfl (by kernel_rfl) (by kernel_rfl) (by kernel_rfl) (fun _ _ _ h => h) rfl (Held.y_move rfl rfl) c0_1 ?_
  simp only [Act.put, List.setIfInBounds_toArray, List.set_cons_zero, List.set_cons_succ]
  refine Held.take (v := .agg (arr .u8 key)) 23 (some 74) rfl rfl (by kernel_rfl) (by kernel_rfl) (by kernel_rfl) (fun _ _ _ h => h) rfl (Held.y_load_Row (zs := key) rfl rfl Tryd.underlying22 info_k HK.out (fun W hW => Row.below k3 hW k3.lt)) c0_1 ?_
  simp only [Act.put, List.setIfInBounds_toArray, List.set_cons_zero, List.set_cons_succ]
  refine Held.take (v := .int .u32 ctr) 24 (some 75) rfl rfl (by kernel_rfl) (by kernel_rfl) (by kernel_rfl) (fun _ _ _ h => h) rfl (Held.y_move rfl rfl) c0_1 ?_
  simp only [Act.put, List.setIfInBounds_toArray, List.set_cons_zero, List.set_cons_succ]
  refine Held.take (v := .agg (arr .u8 nonce)) 25 (some 76) rfl rfl (by kernel_rfl) (by kernel_rfl) (by kernel_rfl) (fun _ _ _ h => h) rfl (Held.y_load_Row (zs := nonce) rfl rfl Tryd.underlying24 info_n HN.out (fun W hW => Row.below n3 hW n3.lt)) c0_1 ?_
  simp only [Act.put, List.setIfInBounds_toArray, List.set_cons_zero, List.set_cons_succ]
  refine Held.take (v := .agg (arr .u8 key)) 27 (some 78) rfl rfl (by kernel_rfl) (by kernel_rfl) (by kernel_rfl) (fun _ _ _ h => h) rfl (Held.y_load_Row (zs := key) rfl rfl Tryd.underlying22 info_k HK.out (fun W hW => Row.below k3 hW k3.lt)) c0_1 ?_
  simp only [Act.put, List.setIfInBounds_toArray, List.set_cons_zero, List.set_cons_succ]
  refine Held.take (v := .int .u32 ctr) 28 (some 79) rfl rfl (by kernel_rfl) (by kernel_rfl) (by kernel_rfl) (fun _ _ _ h => h) rfl (Held.y_move rfl rfl) c0_1 ?_
  simp only [Act.put, List.setIfInBounds_toArray, List.set_cons_zero, List.set_cons_succ]
  refine Held.take (v := .agg (arr .u8 nonce)) 29 (some 80) rfl rfl (by kernel_rfl) (by kernel_rfl) (by kernel_rfl) (fun _ _ _ h => h) rfl (Held.y_load_Row (zs := nonce) rfl rfl Tryd.underlying24 info_n HN.out (fun W hW => Row.below n3 hW n3.lt)) c0_1 ?_
  simp only [Act.put, List.setIfInBounds_toArray, List.set_cons_zero, List.set_cons_succ]
  refine Held.one 26 (by kernel_rfl) ?_
  refine Held.op_call 26 (some 77) 10 #[.agg (arr .u8 key), .int .u32 ctr, .agg (arr .u8 nonce)] rfl rfl rfl rfl (enters_of Tryd.func10 (by kernel_rfl) rfl) (by simp [Act.eval])
    (block_any key nonce ctr _ HK.out hkb HN.out hnb hc (hT.below (bz.trans (c0_1.mono bz.size)) hT.lt)) ?_
  rintro e w2 ⟨rfl, b2⟩
  have c0_2 := c0_1.trans (b2.mono c0_1.size)
  refine ⟨_, rfl, c0_2, ?_⟩
  simp only [Act.put, List.setIfInBounds_toArray, List.set_cons_zero, List.set_cons_succ]
  refine Held.one 30 (by kernel_rfl) ?_
  refine Held.op_call 30 (some 81) 11 #[.agg (arr .u8 key), .int .u32 ctr, .agg (arr .u8 nonce)] rfl rfl rfl rfl (enters_of Tryd.func11 (by kernel_rfl) rfl) (by simp [Act.eval])
    (rblock_any key nonce ctr _ HK.out hkb HN.out hnb hc) ?_
  rintro e w3 ⟨rfl, b3⟩
  have c0_3 := c0_2.trans (b3.mono c0_2.size)
  refine ⟨_, rfl, c0_3, ?_⟩
  simp only [Act.put, List.setIfInBounds_toArray, List.set_cons_zero, List.set_cons_succ]
  refine Held.take (v := .bool false) 31 (some 82) rfl rfl (by kernel_rfl) (by kernel_rfl) (by kernel_rfl) (fun _ _ _ h => h) rfl (y_neql rfl rfl rfl (by kernel_rfl) Tryd.underlying29 Tryd.underlying5 (by kernel_rfl) HB.out) c0_3 ?_
  simp only [Act.put, List.setIfInBounds_toArray, List.set_cons_zero, List.set_cons_succ]
  refine Held.take (v := .bool false) 32 (some 83) rfl rfl (by kernel_rfl) (by kernel_rfl) (by kernel_rfl) (fun _ _ _ h => h) rfl (Held.y_pickF rfl rfl rfl) c0_3 ?_
  simp only [Act.put, List.setIfInBounds_toArray, List.set_cons_zero, List.set_cons_succ]
  refine wpAnyH_done (by kernel_rfl) ?_ _
  have b5 := bz.trans (c0_3.mono bz.size)
  have k5 := k3.below c0_3 k3.lt
  have n5 := n3.below c0_3 n3.lt
  clear c0_0 c0_1 c0_2 c0_3 b1 b2 b3 k3 n3 bz
  go_wp2_with (first
    | (refine wpList_load_RowG (w := w3) rfl 22 _ rfl w.heap.size rfl 22 .u8 _ k5 32 5 Tryd.underlying22 info_k HK.out ?_)
    | (refine wpList_load_RowG (w := w3) rfl 24 _ rfl nn rfl 24 .u8 _ n5 12 5 Tryd.underlying24 info_n HN.out ?_))
  refine (blocks_any key nonce ctr w3 hkb hnb).mono ?_
  rintro e w4 ⟨xk, xn, xc, rfl, rk, rn, hcx, lk, ln, lc, bx⟩
  have b6 := b5.trans (bx.mono b5.size)
  have k6 := k5.below bx k5.lt
  have n6 := n5.below bx n5.lt
  have ccx := cell_of_one hcx
  clear bx k5 n5 b5 hcx
  clear hN
  go_wp2_with fail
  go_loopw [20] (fun r wr => ∃ k : Nat, k ≤ 2 ∧ r = .int .i64 k ∧ Row wr w.heap.size 22 .u8 key ∧ Row wr nn 24 .u8 nonce ∧ Row wr xk 22 .u8 key ∧ Row wr xn 24 .u8 nonce ∧ wr.cell? ⟨xc, 0, none⟩ = some (.int .u32 ctr) ∧ Below w.heap.size w wr) (fun r _ => 2 - (intOf r).toNat)
  case atStart => exact ⟨0, by omega, rfl, k6, n6, rk, rn, ccx, b6⟩
  case round =>
    clear k6 n6 rk rn ccx b6
    obtain ⟨k, hk2, rfl, kr, nr, rk, rn, ccx, hbl⟩ := hrel
    have hk0 : (0 : Int) ≤ (k : Int) := by omega
    by_cases hlt2 : k < 2
    · have hlt2' : (k : Int) < 2 := by omega
      go_wp2_with fail
      refine (first_any xk xn xc N key nonce ctr wr rk rn ccx HK.out hkb HN.out hnb hc (hT.below hbl hT.lt) hN1 (by omega)).mono ?_
      rintro e wl ⟨AB, cB, rfl, own, bl⟩
      obtain ⟨g, rfl, hg⟩ := ownB_at own (by omega)
      have kr := kr.below bl kr.lt
      have nr := nr.below bl nr.lt
      have rk := rk.below bl rk.lt
      have rn := rn.below bl rn.lt
      have ccx := (bl.cell (World.block_lt_of_cell? _ _ ccx)).trans ccx
      have hbl := hbl.trans (bl.mono hbl.size)
      have hrg := fun i (hi : i < N) => range_block own (fun zs hz => by obtain ⟨t, _, rfl⟩ := List.mem_map.1 hz; exact block_length _ _ _) (i := i) (by rw [blocksUpto_length]; exact hi)
      have hge : ∀ i, i < N → (blocksUpto key nonce ctr N).getD i [] = Cc.block key (addI ctr (i : Int)) nonce := fun i hi => by simp [blocksUpto, List.getD_eq_getElem?_getD, hi]
      have hglt : g < wl.heap.size := (own.lt g rfl).2
      have HRG := Lib.hid (fun i (hi : i < N) => show wl.rangeAt g (i * 64) ((Cc.block key (addI ctr (i : Int)) nonce).map (Value.int .u8)) by rw [← hge i hi]; exact hrg i hi)
      clear bl own hrg hge
      go_wp2_with fail
      go_loopw [22] (fun i wq => ∃ j : Nat, j ≤ N ∧ i = .int .i64 j ∧ Row wq w.heap.size 22 .u8 key ∧ Row wq nn 24 .u8 nonce ∧ Row wq xk 22 .u8 key ∧ Row wq xn 24 .u8 nonce ∧ wq.cell? ⟨xc, 0, none⟩ = some (.int .u32 ctr) ∧ Below w.heap.size w wq ∧ Below wl.heap.size wl wq) (fun i _ => N - (intOf i).toNat)
      case atStart => exact ⟨0, by omega, rfl, kr, nr, rk, rn, ccx, hbl, Below.refl _ _⟩
      case round =>
        clear kr nr rk rn ccx hbl
        obtain ⟨i, hiN, rfl, kr, nr, rk, rn, ccx, hbl, hwl⟩ := hrel
        have wq_eq : True := trivial
        have hi0 : (0 : Int) ≤ (i : Int) := by omega
        by_cases hlt : i < N
        · have hlt' : (i : Int) < (N : Int) := by omega
          have hcv : IntKind.u32.wrap (i : Int) = (i : Int) := by rw [IntKind.wrap_u32]; omega
          have hrng := range_below (HRG.out i hlt) hwl hglt
          have hgb : g < wr.heap.size := Nat.lt_of_lt_of_le hglt hwl.size
          go_wp2_with fail
          refine wp_region_held (S := fun W => Below wr.heap.size wr W) (by kernel_rfl) ?_
          change wpAnyH _ _ _ _ _ _ _ _ wr.drew
          have c0_0 := (Below.refl wr.heap.size wr).drew
          refine Held.take (v := .slice (some ⟨g, 0, none⟩) N cB) 0 (some 109) rfl rfl (by kernel_rfl) (by kernel_rfl) (by kernel_rfl) (fun _ _ _ h => h) rfl (Held.y_move rfl rfl) c0_0 ?_
          simp only [Act.put, List.setIfInBounds_toArray, List.set_cons_zero, List.set_cons_succ]
          refine Held.take (v := .int .i64 (i : Int)) 1 (some 110) rfl rfl (by kernel_rfl) (by kernel_rfl) (by kernel_rfl) (fun _ _ _ h => h) rfl (Held.y_move rfl rfl) c0_0 ?_
          simp only [Act.put, List.setIfInBounds_toArray, List.set_cons_zero, List.set_cons_succ]
          refine Held.take (v := .pointer (some ⟨g, i * 64, none⟩)) 2 (some 111) rfl rfl (by kernel_rfl) (by kernel_rfl) (by kernel_rfl) (fun _ _ _ h => h) rfl (Held.y_addr rfl rfl rfl (fun W => run_addr_block 35 29 g N cB i 64 .i64 Tryd.underlying35 (by kernel_rfl) hlt W)) c0_0 ?_
          simp only [Act.put, List.setIfInBounds_toArray, List.set_cons_zero, List.set_cons_succ]
          refine Held.take (v := .agg (arr .u8 (Cc.block key (addI ctr (i : Int)) nonce))) 3 (some 112) rfl rfl (by kernel_rfl) (by kernel_rfl) (by kernel_rfl) (fun _ _ _ h => h) rfl (y_load_mid (e := 5) rfl rfl Tryd.underlying29 info_64 (block_length _ _ _) (fun W hW => range_below hrng hW hgb)) c0_0 ?_
          simp only [Act.put, List.setIfInBounds_toArray, List.set_cons_zero, List.set_cons_succ]
          refine Held.take (v := .agg (arr .u8 key)) 4 (some 113) rfl rfl (by kernel_rfl) (by kernel_rfl) (by kernel_rfl) (fun _ _ _ h => h) rfl (Held.y_load_Row (zs := key) rfl rfl Tryd.underlying22 info_k HK.out (fun W hW => Row.below kr hW kr.lt)) c0_0 ?_
          simp only [Act.put, List.setIfInBounds_toArray, List.set_cons_zero, List.set_cons_succ]
          refine Held.take (v := .int .u32 ctr) 5 (some 114) rfl rfl (by kernel_rfl) (by kernel_rfl) (by kernel_rfl) (fun _ _ _ h => h) rfl (Held.y_move rfl rfl) c0_0 ?_
          simp only [Act.put, List.setIfInBounds_toArray, List.set_cons_zero, List.set_cons_succ]
          refine Held.take (v := .int .i64 (i : Int)) 6 (some 115) rfl rfl (by kernel_rfl) (by kernel_rfl) (by kernel_rfl) (fun _ _ _ h => h) rfl (Held.y_move rfl rfl) c0_0 ?_
          simp only [Act.put, List.setIfInBounds_toArray, List.set_cons_zero, List.set_cons_succ]
          refine Held.take (v := .int .u32 (i : Int)) 7 (some 116) rfl rfl (by kernel_rfl) (by kernel_rfl) (by kernel_rfl) (fun _ _ _ h => h) rfl (Held.y_convert rfl rfl (by kernel_rfl) Tryd.underlying23 hcv) c0_0 ?_
          simp only [Act.put, List.setIfInBounds_toArray, List.set_cons_zero, List.set_cons_succ]
          refine Held.take (v := .int .u32 (addI ctr (i : Int))) 8 (some 117) rfl rfl (by kernel_rfl) (by kernel_rfl) (by kernel_rfl) (fun _ _ _ h => h) rfl (Held.y_int rfl rfl rfl (fun W => Held.run_add _ _ (by rw [IntKind.wrap_u32]; rfl) W)) c0_0 ?_
          simp only [Act.put, List.setIfInBounds_toArray, List.set_cons_zero, List.set_cons_succ]
          refine Held.take (v := .agg (arr .u8 nonce)) 9 (some 118) rfl rfl (by kernel_rfl) (by kernel_rfl) (by kernel_rfl) (fun _ _ _ h => h) rfl (Held.y_load_Row (zs := nonce) rfl rfl Tryd.underlying24 info_n HN.out (fun W hW => Row.below nr hW nr.lt)) c0_0 ?_
          simp only [Act.put, List.setIfInBounds_toArray, List.set_cons_zero, List.set_cons_succ]
          refine Held.one 10 (by kernel_rfl) ?_
          refine Held.op_call 10 (some 119) 11 #[.agg (arr .u8 key), .int .u32 (addI ctr (i : Int)), .agg (arr .u8 nonce)] rfl rfl rfl rfl (enters_of Tryd.func11 (by kernel_rfl) rfl) (by simp [Act.eval])
            (rblock_any key nonce (addI ctr (i : Int)) _ HK.out hkb HN.out hnb (r32_add _ _)) ?_
          rintro e w1 ⟨rfl, b1⟩
          have c0_1 := c0_0.trans (b1.mono c0_0.size)
          refine ⟨_, rfl, c0_1, ?_⟩
          simp only [Act.put, List.setIfInBounds_toArray, List.set_cons_zero, List.set_cons_succ]
          refine Held.take (v := .bool false) 11 (some 120) rfl rfl (by kernel_rfl) (by kernel_rfl) (by kernel_rfl) (fun _ _ _ h => h) rfl (y_neql rfl rfl rfl (by kernel_rfl) Tryd.underlying29 Tryd.underlying5 (by kernel_rfl) (block_length _ _ _)) c0_1 ?_
          simp only [Act.put, List.setIfInBounds_toArray, List.set_cons_zero, List.set_cons_succ]
          refine wpAnyH_done (by kernel_rfl) ?_ _
          have kr := kr.below c0_1 kr.lt
          have nr := nr.below c0_1 nr.lt
          have rk := rk.below c0_1 rk.lt
          have rn := rn.below c0_1 rn.lt
          have ccx := (c0_1.cell (World.block_lt_of_cell? _ _ ccx)).trans ccx
          have hbl := hbl.trans (c0_1.mono hbl.size)
          have hwl := hwl.trans (c0_1.mono hwl.size)
          clear c0_0 c0_1 b1 hrng
          go_wp2_with fail
          go_roundw
          case rel => exact ⟨i + 1, by omega, by go_num, kr, nr, rk, rn, ccx, hbl, hwl⟩
          case measure => simp [intOf]; omega
        · have hiN' : i = N := by omega
          subst hiN'
          go_wp2_with fail
          go_roundw
          case rel => exact ⟨k + 1, by omega, by go_num, kr, nr, rk, rn, ccx, hbl⟩
          case measure => simp [intOf]; omega
    · go_wp2_with fail
      go_ret
      exact ⟨rfl, hbl⟩

theorem walk (z0 : List Int) (a1 : Int) (z2 : List Int) (z3 : List Int) (a4 : Int) (w : World) (zl0 : z0.length = 32) (zw0 : ∀ z ∈ z0, (Lit.int .u8 z).wf = true) (w1 : (Lit.int .u32 a1).wf = true) (zl2 : z2.length = 12) (zw2 : ∀ z ∈ z2, (Lit.int .u8 z).wf = true) (zl3 : z3.length = 4) (zw3 : ∀ z ∈ z3, (Lit.int .u32 z).wf = true) (w4 : (Lit.int .i64 a4).wf = true) (hL : laidMetH Tryd.prog laidList w) :
    Calls Tryd.prog 3 #[.agg (Mem.arr .u8 z0), .int .u32 a1, .agg (Mem.arr .u8 z2), .agg (Mem.arr .u32 z3), .int .i64 a4] w fun e w' => e = .returned (.bool true) ∧ Below w.heap.size w w' := by
  exact start z0 z2 z3 a1 a4 w zl0 (bs_of_wf zw0) zl2 (bs_of_wf zw2) zl3 zw3 (r32_of_wf w1) (chacha_of_laid hL)

set_option maxRecDepth 100000 in
theorem door_met (os : Os) (args : Array Value) : laidMetH Tryd.prog laidList ((World.doorLaid Tryd.prog 400 os).forCall (fun _ _ => 0) ⟨#[], args, []⟩).memory :=
  laidMetH_of_parts3 (fuel := 8) (laidMet_of_run' 8 (by kernel_rfl) (by kernel_rfl)) (by kernel_rfl) (by kernel_rfl)

set_option maxRecDepth 100000 in
theorem lifted (os : Os) (started : os.Started) (H : Type) (enc : TypeId × Value → H) :
    ReturnsInHanded {} Tryd.checked os 3 .any (fun w args => (Rows.chachaBlocksSpec.pre enc Tryd.prog Tryd.f3 [] false w args ∧ laidMetH Tryd.prog laidList w) ∧ sizedMet enc Tryd.prog Tryd.f3 (OpenSpec.ofChange Rows.chachaBlocksSpec) false w args)
      (Rows.chachaBlocksSpec.post enc Tryd.prog Tryd.f3 false true false false) := by
  refine returnsInHanded_of_change_and (C := Tryd.checked) (X := fun w _ => laidMetH Tryd.prog laidList w) (fun _ _ _ hh h => h.of_heap hh) own started (by kernel_rfl) Tryd.func3
    (ChangeSpec.witness_shaped (enc := enc) (C := Tryd.checked) (os := os) (X := fun w _ => laidMetH Tryd.prog laidList w) false (World.doorLaid Tryd.prog 400 os) #[.agg (Array.replicate 32 (.int .u8 0)), .int .u32 0, .agg (Array.replicate 12 (.int .u8 0)), .agg (Array.replicate 4 (.int .u32 0)), .int .i64 0] 8 rfl (World.shaped_of_RefB (by kernel_rfl) (by kernel_rfl)) (by kernel_rfl) (by kernel_rfl) (by kernel_rfl) (door_met os _)) ?_
  intro W base args ds gs before hval0 hW _ _ hL _
  have hval : ∀ (j : Nat) t v, Tryd.f3.params[j]? = some t → args[j]? = some v → Value.okWide Tryd.prog W .any base t v := hval0
  have hW' := hW
  obtain ⟨p, q, hA0, hV, rfl, hfz, hnd⟩ := hW
  have hA : DataW.TrodAll enc Tryd.prog W 0 (fun _ => true) true Tryd.f3.params.toList args.toList ds p := hA0
  rw [Tryd.params3] at hA hval
  obtain ⟨v0, vs0, d0, ds0, p0, q0, hargs, rfl, rfl, h0, r0⟩ := trodAll_cons hA
  obtain ⟨v1, vs1, d1, ds1, p1, q1, rfl, rfl, rfl, h1, r1⟩ := trodAll_cons r0
  obtain ⟨v2, vs2, d2, ds2, p2, q2, rfl, rfl, rfl, h2, r2⟩ := trodAll_cons r1
  obtain ⟨v3, vs3, d3, ds3, p3, q3, rfl, rfl, rfl, h3, r3⟩ := trodAll_cons r2
  obtain ⟨v4, vs4, d4, ds4, p4, q4, rfl, rfl, rfl, h4, r4⟩ := trodAll_cons r3
  obtain ⟨rfl, rfl, rfl⟩ := trodAll_nil r4
  obtain rfl : args = #[v0, v1, v2, v3, v4] := by cases args; simp_all
  obtain ⟨rfl, rfl⟩ := trodVars_none hV
  have k0 := h0
  have lt0 : ∀ x ∈ p0, x.block < W.heap.size := by obtain ⟨m, hm⟩ := k0; exact DataW.trod_lt m _ _ _ hm
  obtain ⟨z0, rfl, zl0, zw0⟩ := Mem.open_arr Tryd.underlying22 Tryd.underlying5 (by kernel_rfl) (by kernel_rfl) (hval 0 22 v0 rfl rfl) h0
  obtain ⟨a1, rfl, rfl, rfl, w1⟩ := open_int Tryd.underlying23 (hval 1 23 v1 rfl rfl) h1
  have k2 := h2
  have lt2 : ∀ x ∈ p2, x.block < W.heap.size := by obtain ⟨m, hm⟩ := k2; exact DataW.trod_lt m _ _ _ hm
  obtain ⟨z2, rfl, zl2, zw2⟩ := Mem.open_arr Tryd.underlying24 Tryd.underlying5 (by kernel_rfl) (by kernel_rfl) (hval 2 24 v2 rfl rfl) h2
  have k3 := h3
  have lt3 : ∀ x ∈ p3, x.block < W.heap.size := by obtain ⟨m, hm⟩ := k3; exact DataW.trod_lt m _ _ _ hm
  obtain ⟨z3, rfl, zl3, zw3⟩ := Mem.open_arr Tryd.underlying25 Tryd.underlying23 (by kernel_rfl) (by kernel_rfl) (hval 3 25 v3 rfl rfl) h3
  obtain ⟨a4, rfl, rfl, rfl, w4⟩ := open_int Tryd.underlying3 (hval 4 3 v4 rfl rfl) h4
  clear hA0 hval0
  refine (walk z0 a1 z2 z3 a4 W zl0 zw0 w1 zl2 zw2 zl3 zw3 w4 hL).mono fun e W' ⟨he, bel⟩ => ?_
  subst he
  exact ⟨_, rfl, _, _, _, [], _, [], hW', trodAll_mk1 (shut_bool Tryd.underlying4 _), (trodAll_cons_mk (Below.trod laidOut (by kernel_rfl) (of_decide_eq_true (by kernel_rfl)) k0 bel lt0) (trodAll_cons_mk (shut_int Tryd.underlying23 w1) (trodAll_cons_mk (Below.trod laidOut (by kernel_rfl) (of_decide_eq_true (by kernel_rfl)) k2 bel lt2) (trodAll_cons_mk (Below.trod laidOut (by kernel_rfl) (of_decide_eq_true (by kernel_rfl)) k3 bel lt3) (trodAll_cons_mk (shut_int Tryd.underlying3 w4) trodAll_mk0))))), rfl, bel.frame _, fun h => by cases h⟩

theorem over : Rows.chachaBlocksRow.holds Tryd.pinned (OpenSpec.ofChange Rows.chachaBlocksSpec) :=
  OpenClaim.holds_of_wide 3 Tryd.f3 rfl rfl rfl rfl rfl rfl rfl ⟨rfl, rfl, rfl, rfl, rfl⟩ rfl rfl rfl rfl rfl (by kernel_rfl) Tryd.func3 (by kernel_rfl)
    (of_decide_eq_true (by kernel_rfl)) (by unfold Func.isWrapper; first | (rw [if_pos (by decide +kernel)]; kernel_rfl) | (rw [if_neg (by decide +kernel)]; exact ⟨rfl, rfl⟩))
    (fun os started H enc _ => lifted os started H enc)

/-- the statement -/
theorem proved : Rows.ChachaBlocksCardSaid :=
  Claim7.holds_tied_plain_at .later [] [.widerDeep] true (true, "57614f36d60a4ae182e142bcf2b768e680c0ae2dfdb0ed6f7e128fd9b707c59f") false
    over (fun _ h => by cases h) (by kernel_rfl) (fun _ h => by cases h) chachaBlocks_row_tie rfl ⟨rfl, rfl⟩ (by kernel_rfl) rfl
    (fun f fn hf hfn => by
      obtain rfl : f = 3 := Option.some.inj ((show Tryd.prog.funcNamed "domino/dominolaw05.ChachaBlocks" = some 3 by kernel_rfl).symm.trans hf) |>.symm
      obtain rfl : fn = Tryd.f3 := (Option.some.inj (Tryd.func3.symm.trans hfn)).symm
      exact ⟨by kernel_rfl, fun j t ht => by
        rw [Tryd.params3] at ht
        have hm : t ∈ [22, 23, 24, 25, 3] := by simpa using Array.mem_of_getElem? ht
        have hall : ([22, 23, 24, 25, 3].all fun u => !Tryd.prog.wantsStandIn u) = true := by kernel_rfl
        exact (show Tryd.prog.wantsStandIn t = false by simpa using List.all_eq_true.1 hall t hm)⟩)
    (by kernel_rfl)
#print axioms proved
end Go.Proofs.YtejgnjnmlojdpaaDoor.chachaBlocks
