/-
  Texts within a drawn region, and small lists of numbers as rows of their own: no program here.
  The functions of package dominohelp on bytes, each by its contract.
  More operations of a drawn region, one by one: make, append with new room, texts that are not alike; dominohelp.Bytes of like texts.
  Names, and numbers as bytes, of package keys, as plain functions: no program here.
  What a record is to the program, as plain functions; package record's one, leads, Before, Ahead, Dead, and the document's own, by their contracts.
  What the frame of a proof says of a record that came in by value; two records, two arrays of numbers held against each other.
-/
import Derived.Test.YtkiempdpfmolfaaB2
import Derived.Test.YtkiempdpfmolfaaRows
import Derived.Test.YtkiempdpfmolfaaB1
import Derived.Deep.OwnRows
import Derived.WideShapes
import Derived.ChangeArms
import Derived.Laws.StructEq
set_option linter.unusedVariables false
namespace Go.Proofs.Ytkiempdpfmolfaa.Held
open Go.RowKit Mem
section
variable {P : Program} {S : World → Prop} {ρ : Operand → Value} {o : Oper}
end
section
variable {P : Program} {S : World → Prop} {ρ : Operand → Value} {o : Oper}
theorem y_pickF {c x y : Operand} {v : Value} (ho : o.op = .pick c x y) (hc : ρ c = .bool false) (hv : ρ y = v) : ∀ w, S w → (execOp ρ o).run P w = .ok (.value v) w := fun w _ => by simp [execOp, ho, hv, hc, asBool]
theorem y_not {x : Operand} {b r : Bool} {t : TypeId} (ho : o.op = .unOp .not t x) (hx : ρ x = .bool b) (hr : (!b) = r) : ∀ w, S w → (execOp ρ o).run P w = .ok (.value (.bool r)) w := fun w _ => by subst hr; simp [execOp, ho, hx, Op.unary]
end
section
variable {P : Program} {ops : Array Oper} {Q : Exit → Act → World → Prop} {md : Region.Mode} {S : World → Prop}
theorem skip (i : Nat) (d : Option Tmp) {oi : Oper} {fuel : Nat} {listed : Array Bool} {a : Act} {w : World} (hi : ops[i]? = some oi) (hd : oi.dst = d)
    (hs : Region.noSelect ops = true) (hf : Region.free md ops listed i = true) (hr : (Region.ready md ops listed).contains i = true)
    (hQ : ∀ c a w, Q (.panic c) (a.put d undef) w → Q (.panic c) a w) (hw : Region.wanted oi (yielded ops a.tmps) = false) (hS : S w)
    (h : wpAnyH P md ops Q S fuel (listed.setIfInBounds i true) (a.put d undef) w) : wpAnyH P md ops Q S (fuel + 1) listed a w := by
  subst hd
  exact wpAnyH_take hi hs hf hr hQ (.inr ⟨hw, rfl⟩) hS h
end
theorem wpList_build_row {P : Program} {ops : Array Oper} {rest : List Oper} {o : Oper} {a : Act} {w : World} {Q : Exit → Act → World → Prop} (hgd : o.guard = none) (t e : TypeId) (len : Nat) (parts : Array (Nat × Operand)) (ho : o.op = .buildSlice t len parts) (k : IntKind) (bytes : Nat) (zs : List Int)
    (hu : P.underlying t = some (.slice e)) (hinfo : (P.info? e).map (fun i => (i.zero, i.size, i.bytes)) = some (some (.int k 0), 1, bytes)) (hp : (parts.map fun (i, x) => (i, a.eval x)).toList = ((zs.map (Value.int k)).zipIdx 0).map fun x => (x.2, x.1))
    (hl : zs.length = len) (h0 : 0 < len) (hlen : len ≤ 1000) (hwf : ∀ z ∈ zs, (Lit.int k z).wf = true)
    (h : ∀ w', Row w' w.heap.size e k zs → w.grownBy w' none → Hid (w'.heap.size = w.heap.size + 1) → wpList P ops Q rest (a.put o.dst (.slice (some ⟨w.heap.size, 0, none⟩) len len)) w') : wpList P ops Q (o :: rest) a w := by
  refine wpList_plain hgd fun K hK => ?_
  obtain ⟨ie, hie, hz, hsz, _⟩ := info_parts hinfo
  have hl' : (zs.map (Value.int k)).length = len := by simpa using hl
  have h' := hK _ _ (h _ (Row.new w e hwf) (World.grownBy_alloc w _ none) (Lib.hid (by simp)))
  unfold arr at h'
  have h1 : ∀ v ∈ zs.map (Value.int k), v.cells = #[v] := by intro v hv; obtain ⟨z, _, rfl⟩ := List.mem_map.1 hv; rfl
  generalize zs.map (Value.int k) = vs at hp hl' h' h1
  subst hl'
  refine Go.wp_buildSlice t e vs.length parts ho vs.toArray ie (.int k 0) hu hie hz (by rw [hsz]; omega) (by rw [hsz]; omega) ?_ h'
  rw [hp]
  simp only [hsz]
  exact Go.Great.fill_flat vs _ h1 (by simp)
end Go.Proofs.Ytkiempdpfmolfaa.Held
namespace Go.Proofs.Ytkiempdpfmolfaa.Help
open Go.RowKit Mem
def Still (w w' : World) : Prop := ∃ m, w' = w.drewN m
section
variable {w w' w'' : World}
theorem Still.refl (w : World) : Still w w := ⟨0, rfl⟩
theorem Still.drewN (h : Still w w') (n : Nat) : Still w (w'.drewN n) := by obtain ⟨m, rfl⟩ := h; exact ⟨m + n, by simp⟩
theorem Still.trans (h : Still w w') (k : Still w' w'') : Still w w'' := by obtain ⟨m, rfl⟩ := h; obtain ⟨n, rfl⟩ := k; exact ⟨m + n, by simp⟩
theorem Still.below (h : Still w w') (B : Nat) : Below B w w' := by obtain ⟨m, rfl⟩ := h; exact below_drewN (Below.refl _ _) m
theorem Still.size (h : Still w w') : w'.heap.size = w.heap.size := by obtain ⟨m, rfl⟩ := h; rfl
theorem Still.cell (h : Still w w') (p : Addr) : w'.cell? p = w.cell? p := by obtain ⟨m, rfl⟩ := h; rfl
theorem Still.heap (h : Still w w') : w'.heap = w.heap := by obtain ⟨m, rfl⟩ := h; rfl
theorem Still.ints (h : Still w w') {k : IntKind} {B n : Nat} {A : Option Addr} {zs : List Int} (hi : Ints w k B A n zs) : Ints w' k B A n zs := hi.below (h.below B)
theorem Still.own (h : Still w w') {base : Nat} {t : TypeId} {k : IntKind} {v : Value} {zs : List Int} (hi : Mem.Own w base t k v zs) : Mem.Own w' base t k v zs := hi.below (h.below _)
end
end Go.Proofs.Ytkiempdpfmolfaa.Help
namespace Go.Proofs.Ytkiempdpfmolfaa.Held
open Go.RowKit Mem
section
variable {P : Program} {ops : Array Oper} {Q : Exit → Act → World → Prop}
end
section
variable {P : Program} {S : World → Prop} {ρ : Operand → Value} {o : Oper}
end
section
variable {P : Program} {ops : Array Oper} {Q : Exit → Act → World → Prop}
end
end Go.Proofs.Ytkiempdpfmolfaa.Held
namespace Go.Proofs.Ytkiempdpfmolfaa.Ky
open Go.Proofs.Ytkiempdpfmolfaa.Sum Po
end Go.Proofs.Ytkiempdpfmolfaa.Ky
namespace Go.Proofs.Ytkiempdpfmolfaa.Rc
open Go.RowKit Go.Shelf Go.Proofs.Ytkiempdpfmolfaa Mem Help Go.Proofs.Ytkiempdpfmolfaa.Sum Po Ct Go.Proofs.Ytkiempdpfmolfaa.Bit Held
attribute [local irreducible] wpList wpListIn Calls
def u64 (x : Int) : Int := x % 18446744073709551616
theorem u64_eq (x : Int) : IntKind.u64.wrap x = u64 x := by rw [IntKind.wrap_u64]; rfl
theorem u64_wf (x : Int) : (Lit.int .u64 (u64 x)).wf = true := wf_64 (by unfold u64; omega)
theorem u64_inj {x y : Int} (hx : (Lit.int .i64 x).wf = true) (hy : (Lit.int .i64 y).wf = true) : (u64 x = u64 y) ↔ x = y := by
  have := wf_i64 hx
  have := wf_i64 hy
  unfold u64
  omega
theorem i64_u64 {x : Int} (hx : (Lit.int .i64 x).wf = true) : IntKind.i64.wrap (u64 x) = x := by
  have := wf_i64 hx
  rw [IntKind.wrap_i64]
  unfold u64
  omega
theorem i64_wf (x : Int) : (Lit.int .i64 (IntKind.i64.wrap x)).wf = true := by
  rw [IntKind.wrap_i64]
  simp [Lit.wf, IntKind.min, IntKind.max, IntKind.signed, IntKind.bits]
  omega
def ahd (da : Bool) (ka : Int) (db : Bool) (kb : Int) : Bool := !da && (db || decide (ka < kb))
def bef (da : Bool) (ka sa : Int) (db : Bool) (kb sb : Int) : Bool := !da && (db || (decide (ka < kb) || (decide (ka = kb) && decide (sa < sb))))
theorem one_wf (b : Bool) : (Lit.int .u64 (oneI b)).wf = true := by cases b <;> rfl
theorem lead_eq (da db l : Bool) : bits .and .u64 (bits .xor .u64 1 (oneI da)) (bits .or .u64 (oneI db) (oneI l)) = oneI (!da && (db || l)) := by cases da <;> cases db <;> cases l <;> decide
theorem or_one (a b : Bool) : bits .or .u64 (oneI a) (oneI b) = oneI (a || b) := by cases a <;> cases b <;> decide
theorem low_eq (x y : Int) : low x y = oneI (decide (x < y)) := (oneI_low x y).symm
theorem alike_eq (x y : Int) : alike x y = oneI (decide (x = y)) := by
  rw [← oneI_alike]
  congr 1
theorem below_b (x y : Int) (hx : (Lit.int .i64 x).wf = true) (hy : (Lit.int .i64 y).wf = true) (w : World) :
    Calls Try.prog 48 #[.int .i64 x, .int .i64 y] w fun e w' => e = .returned (.int .u64 (oneI (decide (x < y)))) ∧ Below w.heap.size w w' := by
  have h1 := wf_i64 hx
  have h2 := wf_i64 hy
  rw [← low_eq]
  exact (below_any x y h1.1 h1.2 h2.1 h2.2 w).mono fun _ _ ⟨h, e⟩ => ⟨h, e ▸ Below.refl _ _⟩
theorem same_b (x y : Int) (hx : (Lit.int .u64 x).wf = true) (hy : (Lit.int .u64 y).wf = true) (w : World) :
    Calls Try.prog 60 #[.int .u64 x, .int .u64 y] w fun e w' => e = .returned (.int .u64 (oneI (decide (x = y)))) ∧ Below w.heap.size w w' := by
  have h1 := wf_u64 hx
  have h2 := wf_u64 hy
  rw [← alike_eq]
  exact (Ct.same_any x y h1.1 (by omega) h2.1 (by omega) w).mono fun _ _ ⟨h, e⟩ => ⟨h, e ▸ Below.refl _ _⟩
theorem pick_b (c x y : Int) (hc : (Lit.int .u64 c).wf = true) (hx : (Lit.int .u64 x).wf = true) (hy : (Lit.int .u64 y).wf = true) (w : World) :
    Calls Try.prog 38 #[.int .u64 c, .int .u64 x, .int .u64 y] w fun e w' => e = .returned (.int .u64 (pickI c x y)) ∧ Below w.heap.size w w' := by
  have h0 := wf_u64 hc
  have h1 := wf_u64 hx
  have h2 := wf_u64 hy
  exact (pick_any c x y h0.1 (by omega) h1.1 (by omega) h2.1 (by omega) w).mono fun _ _ ⟨h, e⟩ => ⟨h, e ▸ Below.refl _ _⟩
theorem one_b (b : Bool) (w : World) : Calls Try.prog 49 #[.bool b] w fun e w' => e = .returned (.int .u64 (oneI b)) ∧ Below w.heap.size w w' := by
  cases b
  all_goals
    go_enter Try.func49, Try.ntmps49
    go_wp2
    go_ret
    exact ⟨rfl, Below.refl _ _⟩
theorem rone_b (b : Bool) (w : World) : Calls Try.prog 52 #[.bool b] w fun e w' => e = .returned (.int .u64 (oneI b)) ∧ Below w.heap.size w w' := by
  cases b
  all_goals
    go_enter Try.func52, Try.ntmps52
    go_wp2
    go_ret
    exact ⟨rfl, Below.refl _ _⟩
set_option maxRecDepth 100000 in
set_option maxHeartbeats 4000000 in
theorem leads_any (da : Bool) (ka va sa : Int) (db : Bool) (kb vb sb : Int) (l : Bool) (w : World) :
    Calls Try.prog 47 #[.agg #[.bool da, .int .i64 ka, .int .i64 va, .int .i64 sa], .agg #[.bool db, .int .i64 kb, .int .i64 vb, .int .i64 sb], .int .u64 (oneI l)] w fun e w' => e = .returned (.int .u64 (oneI (!da && (db || l)))) ∧ Below w.heap.size w w' := by
  go_enter Try.func47, Try.ntmps47
  go_wp2_with (first
    | (refine wpList_box_blk (w := w) rfl 26 _ rfl #[.bool da, .int .i64 ka, .int .i64 va, .int .i64 sa] rfl ?_; intro wa qa ga za)
    | (refine wpList_box_blk (w := wa) rfl 26 _ rfl #[.bool db, .int .i64 kb, .int .i64 vb, .int .i64 sb] rfl ?_; intro wb qb gb zb))
  have bz : Below w.heap.size w wb := ((Below.refl _ w).grown ga (Nat.le_refl _) (by simp)).grown gb ga.size (by simp)
  have qa := qa.grown gb (by simp)
  clear ga za gb zb
  refine wp_region_held (S := fun W => Below wb.heap.size wb W) (by kernel_rfl) ?_
  change wpAnyH _ _ _ _ _ _ _ _ wb.drew
  have c0_0 := (Below.refl wb.heap.size wb).drew
  refine Held.tk (v := .pointer (some ⟨w.heap.size, 0, none⟩)) 0 (some 7) rfl (Held.y_field (k := 0) (s := 0) rfl rfl Try.underlying26 rfl (by kernel_rfl) rfl) c0_0 ?_
  simp only [Act.put, Z1, Z2, Z3]
  refine Held.tk (v := .bool da) 1 (some 8) rfl (Held.y_load rfl rfl (by kernel_rfl) (fun W hW => (qa.below hW qa.lt).cell rfl)) c0_0 ?_
  simp only [Act.put, Z1, Z2, Z3]
  refine Held.tk (v := .pointer (some ⟨wa.heap.size, 0, none⟩)) 4 (some 11) rfl (Held.y_field (k := 0) (s := 0) rfl rfl Try.underlying26 rfl (by kernel_rfl) rfl) c0_0 ?_
  simp only [Act.put, Z1, Z2, Z3]
  refine Held.tk (v := .bool db) 5 (some 12) rfl (Held.y_load rfl rfl (by kernel_rfl) (fun W hW => (qb.below hW qb.lt).cell rfl)) c0_0 ?_
  simp only [Act.put, Z1, Z2, Z3]
  refine Held.tk (v := .int .u64 (oneI l)) 7 (some 14) rfl (Held.y_move rfl rfl) c0_0 ?_
  simp only [Act.put, Z1, Z2, Z3]
  refine Held.one 2 (by kernel_rfl) ?_
  refine Held.op_call 2 (some 9) 49 #[.bool da] rfl rfl rfl rfl (enters_of Try.func49 (by kernel_rfl) rfl) (by simp [Act.eval])
    (one_b da _) ?_
  rintro e w1 ⟨rfl, b1⟩
  have c0_1 := c0_0.trans (b1.mono c0_0.size)
  refine ⟨_, rfl, c0_1, ?_⟩
  simp only [Act.put, Z1, Z2, Z3]
  refine Held.tk (v := .int .u64 (bits .xor .u64 1 ((oneI da)))) 3 (some 10) rfl (Held.y_int rfl rfl rfl (Held.run_bitop (by simp) 57 .u64 (rfl))) c0_1 ?_
  simp only [Act.put, Z1, Z2, Z3]
  refine Held.one 6 (by kernel_rfl) ?_
  refine Held.op_call 6 (some 13) 49 #[.bool db] rfl rfl rfl rfl (enters_of Try.func49 (by kernel_rfl) rfl) (by simp [Act.eval])
    (one_b db _) ?_
  rintro e w2 ⟨rfl, b2⟩
  have c0_2 := c0_1.trans (b2.mono c0_1.size)
  refine ⟨_, rfl, c0_2, ?_⟩
  simp only [Act.put, Z1, Z2, Z3]
  refine Held.tk (v := .int .u64 (bits .or .u64 ((oneI db)) ((oneI l)))) 8 (some 15) rfl (Held.y_int rfl rfl rfl (Held.run_bitop (by simp) 57 .u64 (rfl))) c0_2 ?_
  simp only [Act.put, Z1, Z2, Z3]
  refine Held.take (v := .int .u64 (bits .and .u64 ((bits .xor .u64 1 ((oneI da)))) ((bits .or .u64 ((oneI db)) ((oneI l)))))) 9 (some 16) rfl rfl (by kernel_rfl) (by kernel_rfl) (by kernel_rfl) (fun _ _ _ h => h) rfl (Held.y_int rfl rfl rfl (Held.run_bitop (by simp) 57 .u64 (rfl))) c0_2 ?_
  simp only [Act.put, Z1, Z2, Z3]
  refine Held.take (v := .int .u64 (bits .and .u64 ((bits .xor .u64 1 ((oneI da)))) ((bits .or .u64 ((oneI db)) ((oneI l)))))) 10 (some 6) rfl rfl (by kernel_rfl) (by kernel_rfl) (by kernel_rfl) (fun _ _ _ h => h) rfl (Held.y_assign rfl rfl) c0_2 ?_
  simp only [Act.put, Z1, Z2, Z3]
  refine wpAnyH_done (by kernel_rfl) ?_ _
  have dz := bz.trans (c0_2.mono bz.size)
  go_wp2_with fail
  go_ret
  exact ⟨Mem.ret_int (lead_eq da db l), dz⟩
set_option maxRecDepth 100000 in
set_option maxHeartbeats 4000000 in
theorem ahead_any (da : Bool) (ka va sa : Int) (db : Bool) (kb vb sb : Int) (hka : (Lit.int .i64 ka).wf = true) (hsa : (Lit.int .i64 sa).wf = true) (hkb : (Lit.int .i64 kb).wf = true) (hsb : (Lit.int .i64 sb).wf = true) (w : World) :
    Calls Try.prog 36 #[.agg #[.bool da, .int .i64 ka, .int .i64 va, .int .i64 sa], .agg #[.bool db, .int .i64 kb, .int .i64 vb, .int .i64 sb]] w fun e w' => e = .returned (.int .u64 (oneI (ahd da ka db kb))) ∧ Below w.heap.size w w' := by
  go_enter Try.func36, Try.ntmps36
  go_wp2_with (first
    | (refine wpList_box_blk (w := w) rfl 26 _ rfl #[.bool da, .int .i64 ka, .int .i64 va, .int .i64 sa] rfl ?_; intro wa qa ga za)
    | (refine wpList_box_blk (w := wa) rfl 26 _ rfl #[.bool db, .int .i64 kb, .int .i64 vb, .int .i64 sb] rfl ?_; intro wb qb gb zb))
  have bz : Below w.heap.size w wb := ((Below.refl _ w).grown ga (Nat.le_refl _) (by simp)).grown gb ga.size (by simp)
  have qa := qa.grown gb (by simp)
  clear ga za gb zb
  refine wp_region_held (S := fun W => Below wb.heap.size wb W) (by kernel_rfl) ?_
  change wpAnyH _ _ _ _ _ _ _ _ wb.drew
  have c0_0 := (Below.refl wb.heap.size wb).drew
  refine Held.tk (v := .agg #[.bool da, .int .i64 ka, .int .i64 va, .int .i64 sa]) 0 (some 5) rfl (Held.y_load_blk (n := 4) rfl rfl Try.underlying26 rfl (by kernel_rfl) rfl (fun W hW => qa.below hW qa.lt)) c0_0 ?_
  simp only [Act.put, Z1, Z2, Z3]
  refine Held.tk (v := .agg #[.bool db, .int .i64 kb, .int .i64 vb, .int .i64 sb]) 1 (some 6) rfl (Held.y_load_blk (n := 4) rfl rfl Try.underlying26 rfl (by kernel_rfl) rfl (fun W hW => qb.below hW qb.lt)) c0_0 ?_
  simp only [Act.put, Z1, Z2, Z3]
  refine Held.tk (v := .pointer (some ⟨w.heap.size, 1, none⟩)) 2 (some 7) rfl (Held.y_field (k := 1) (s := 0) rfl rfl Try.underlying26 rfl (by kernel_rfl) rfl) c0_0 ?_
  simp only [Act.put, Z1, Z2, Z3]
  refine Held.tk (v := .int .i64 ka) 3 (some 8) rfl (Held.y_load rfl rfl (by kernel_rfl) (fun W hW => (qa.below hW qa.lt).cell rfl)) c0_0 ?_
  simp only [Act.put, Z1, Z2, Z3]
  refine Held.tk (v := .pointer (some ⟨wa.heap.size, 1, none⟩)) 4 (some 9) rfl (Held.y_field (k := 1) (s := 0) rfl rfl Try.underlying26 rfl (by kernel_rfl) rfl) c0_0 ?_
  simp only [Act.put, Z1, Z2, Z3]
  refine Held.tk (v := .int .i64 kb) 5 (some 10) rfl (Held.y_load rfl rfl (by kernel_rfl) (fun W hW => (qb.below hW qb.lt).cell rfl)) c0_0 ?_
  simp only [Act.put, Z1, Z2, Z3]
  refine Held.one 6 (by kernel_rfl) ?_
  refine Held.op_call 6 (some 11) 48 #[.int .i64 ka, .int .i64 kb] rfl rfl rfl rfl (enters_of Try.func48 (by kernel_rfl) rfl) (by simp [Act.eval])
    (below_b ka kb hka hkb _) ?_
  rintro e w1 ⟨rfl, b1⟩
  have c0_1 := c0_0.trans (b1.mono c0_0.size)
  refine ⟨_, rfl, c0_1, ?_⟩
  simp only [Act.put, Z1, Z2, Z3]
  refine Held.one 7 (by kernel_rfl) ?_
  refine Held.op_call 7 (some 12) 47 #[.agg #[.bool da, .int .i64 ka, .int .i64 va, .int .i64 sa], .agg #[.bool db, .int .i64 kb, .int .i64 vb, .int .i64 sb], .int .u64 (oneI (decide (ka < kb)))] rfl rfl rfl rfl (enters_of Try.func47 (by kernel_rfl) rfl) (by simp [Act.eval])
    (leads_any da ka va sa db kb vb sb (decide (ka < kb)) _) ?_
  rintro e w2 ⟨rfl, b2⟩
  have c0_2 := c0_1.trans (b2.mono c0_1.size)
  refine ⟨_, rfl, c0_2, ?_⟩
  simp only [Act.put, Z1, Z2, Z3]
  refine Held.tk (v := .int .u64 (oneI (!da && (db || decide (ka < kb))))) 8 (some 4) rfl (Held.y_assign rfl rfl) c0_2 ?_
  simp only [Act.put, Z1, Z2, Z3]
  refine wpAnyH_done (by kernel_rfl) ?_ _
  have dz := bz.trans (c0_2.mono bz.size)
  go_wp2_with fail
  go_ret
  exact ⟨rfl, dz⟩
end Go.Proofs.Ytkiempdpfmolfaa.Rc
namespace Go.Proofs.Ytkiempdpfmolfaa.Rc
open Go.RowKit Go.ChangeShapes Go.WideShapes Mem
theorem rec_fields : ∃ f0 f1 f2 f3 : Field, Try.prog.underlying 26 = some (.struct #[f0, f1, f2, f3]) ∧ (f0.offset = 0 ∧ f0.type = 4) ∧ (f1.offset = 1 ∧ f1.type = 2) ∧ (f2.offset = 2 ∧ f2.type = 2) ∧ (f3.offset = 3 ∧ f3.type = 2) :=
  ⟨_, _, _, _, Try.underlying26, ⟨rfl, rfl⟩, ⟨rfl, rfl⟩, ⟨rfl, rfl⟩, ⟨rfl, rfl⟩⟩
section
variable {H : Type} {enc : TypeId × Value → H} {w : World} {base : Nat} {spare : Nat → Bool} {held : Bool}
theorem field_int {cs : List Value} {j n : Nat} {t : TypeId} {k : IntKind} {x : Option (DataW H × List MemPlace)} (hj : j < cs.length) (ht : Try.prog.underlying t = some (.int k)) (h : DataW.trod enc Try.prog w base spare held n t ((cs.drop j).take 1) = x) (hx : x.isSome = true) : ∃ z, cs[j]? = some (.int k z) ∧ (Lit.int k z).wf = true := by
  obtain ⟨y, rfl⟩ := Option.isSome_iff_exists.1 hx
  obtain ⟨z, h2, _, h3⟩ := DataW.trod_int ht h
  rw [List.drop_eq_getElem_cons hj] at h2
  simp only [List.take_succ_cons, List.take_zero] at h2
  exact ⟨z, by rw [List.getElem?_eq_getElem hj, (List.cons.inj h2).1], h3⟩
theorem field_bool {cs : List Value} {j n : Nat} {t : TypeId} {x : Option (DataW H × List MemPlace)} (hj : j < cs.length) (ht : Try.prog.underlying t = some .bool) (h : DataW.trod enc Try.prog w base spare held n t ((cs.drop j).take 1) = x) (hx : x.isSome = true) : ∃ b, cs[j]? = some (.bool b) := by
  obtain ⟨y, rfl⟩ := Option.isSome_iff_exists.1 hx
  obtain ⟨z, h2, _⟩ := DataW.trod_bool ht h
  rw [List.drop_eq_getElem_cons hj] at h2
  simp only [List.take_succ_cons, List.take_zero] at h2
  exact ⟨z, by rw [List.getElem?_eq_getElem hj, (List.cons.inj h2).1]⟩
end
theorem key_rec (w : World) (d : Bool) (k v s : Int) (d' : Bool) (k' v' s' : Int) :
    (Op.equalIn 10000 26 (.agg #[.bool d, .int .i64 k, .int .i64 v, .int .i64 s]) (.agg #[.bool d', .int .i64 k', .int .i64 v', .int .i64 s'])).run Try.prog w = .ok (decide (d = d' ∧ k = k' ∧ v = v' ∧ s = s')) w := by
  have hu : Try.prog.underlying 26 = some (.struct (Try.prog.fieldsOf 26)) := by kernel_rfl
  have hp : Try.prog.stoodInHeld 26 = false := by kernel_rfl
  have ei : ∀ (d : Nat) (k : IntKind) (x y : Int), (Op.equalIn (d + 1) 2 (.int k x) (.int k y)).run Try.prog w = .ok (x == y) w := fun d k x y => run_equalIn_int w d 2 k .i64 x y Try.underlying2
  have eb : ∀ (d : Nat) (x y : Bool), (Op.equalIn (d + 1) 4 (.bool x) (.bool y)).run Try.prog w = .ok (x == y) w := fun d x y => by
    simp [Op.equalIn, run_underlying Try.underlying4]
  rw [show (10000 : Nat) = 9998 + 1 + 1 from rfl, run_equalIn_agg w (9998 + 1) _ _ _ hu hp]
  simp only [Program.fieldsOf, Try.underlying26, Op.eqFields, Go.part, isAgg, Sem.run_bind, run_underlying Try.underlying2, run_underlying Try.underlying4, Result.andThen_ok, Sem.run_pure, Sem.run_ite]
  simp [ei, eb]
  by_cases h0 : d = d' <;> by_cases h1 : k = k' <;> by_cases h2 : v = v' <;> by_cases h3 : s = s' <;> simp [h0, h1, h2, h3]
theorem eql_rec (w : World) (d : Bool) (k v s : Int) (d' : Bool) (k' v' s' : Int) :
    (binOp .eql 26 (.agg #[.bool d, .int .i64 k, .int .i64 v, .int .i64 s]) (.agg #[.bool d', .int .i64 k', .int .i64 v', .int .i64 s'])).run Try.prog w = .ok (.bool (decide (d = d' ∧ k = k' ∧ v = v' ∧ s = s'))) w := by
  rw [run_eql_struct, key_rec]
  rfl
section
variable {S : World → Prop} {ρ : Operand → Value} {o : Oper}
theorem y_eqr {ty : TypeId} {x y : Operand} {d : Bool} {k v s : Int} {d' : Bool} {k' v' s' : Int} {r : Bool} (ho : o.op = .binOp .eql 26 x y ty) (hx : ρ x = .agg #[.bool d, .int .i64 k, .int .i64 v, .int .i64 s]) (hy : ρ y = .agg #[.bool d', .int .i64 k', .int .i64 v', .int .i64 s'])
    (hr : decide (d = d' ∧ k = k' ∧ v = v' ∧ s = s') = r) : ∀ w, S w → (execOp ρ o).run Try.prog w = .ok (.value (.bool r)) w :=
  Held.y_bin ho hx hy (fun w => by simp [eqGuard, show Try.prog.eqGuardType Try.prog.depth 26 = false by kernel_rfl]) (fun w => by rw [← hr]; exact eql_rec w d k v s d' k' v' s')
end
end Go.Proofs.Ytkiempdpfmolfaa.Rc
