/-
  The document's store in memory: what it reads as, whose each block is: no program here but its types.
  The document's store: where a name stands, what it shows, its versions, how many Puts there were: by their contracts.
  The document's store: what shows, what is got, versions, how many Puts there were, and the names that show something: by their contracts.
  The document's store: what a step leaves of it; a name of it exchanged (set), by its contract.
-/
import Derived.Test.YtbippmbcgkicaaaB9
import Derived.Test.YtbippmbcgkicaaaB8
set_option linter.unusedVariables false
namespace Go.Proofs.Ytbippmbcgkicaaa.Sto
open Go.RowKit Go.Shelf Go.Proofs.Ytbippmbcgkicaaa Mem Held Sl Go.Proofs.Ytbippmbcgkicaaa.Range
structure Bl where
  A : Option Addr
  n : Nat
  c : Nat
  ys : List Bs
def Bl.nil : Bl := ⟨none, 0, 0, []⟩
structure Cr where
  k : Nm
  sh : Bool
  x : Bs
  a : Bl
def Cr.cells (e : Cr) : List Value := [encStr e.k, .bool e.sh, .slice e.x.A e.x.n e.x.c, .slice e.a.A e.a.n e.a.c]
def Cr.none : Cr := ⟨[], false, Bs.nil, Bl.nil⟩
def kC : St Cr := ⟨4, Cr.cells, fun _ => True, Cr.none, fun _ => rfl, fun v u hu => by
  simp only [Cr.cells, List.mem_cons, List.not_mem_nil, or_false] at hu
  rcases hu with rfl | rfl | rfl | rfl <;> rfl, by omega⟩
theorem info_kC : (Try.prog.info? 77).map (fun i => (i.zero, i.size, i.bytes)) = some (some (.agg #[encStr [], .bool false, .slice none 0 0, .slice none 0 0]), kC.s, 72) := by kernel_rfl
structure Ol where
  A : Option Addr
  n : Nat
  c : Nat
  l : List Cr
def kO : St Ol := ⟨1, fun x => [.slice x.A x.n x.c], fun _ => True, ⟨none, 0, 0, []⟩, fun _ => rfl, fun x u hu => by rw [List.mem_singleton.1 hu]; rfl, by omega⟩
theorem info_kO : (Try.prog.info? 26).map (fun i => (i.zero, i.size, i.bytes)) = some (some (.slice none 0 0), kO.s, 24) := by kernel_rfl
structure CrOk (S : Nat → Prop) (w : World) (N : Nat) (e : Cr) : Prop where
  x : Rd S w e.x
  a : OwnL kB 31 w 0 (.slice e.a.A e.a.n e.a.c) e.a.ys
  al : ∀ b, (Value.slice e.a.A e.a.n e.a.c).ownBlock = some b → S b
  ys : ∀ y ∈ e.a.ys, Rd S w y
  few : e.a.ys.length ≤ N
structure FrC (S : Nat → Prop) (w : World) (N : Nat) (A : Option Addr) (n c : Nat) (l : List Cr) : Prop where
  own : OwnL kC 77 w 0 (.slice A n c) l
  lab : ∀ b, (Value.slice A n c).ownBlock = some b → S b
  ok : ∀ e ∈ l, CrOk S w N e
  few : l.length ≤ N
section
variable {S S' : Nat → Prop} {w w' : World} {N N' : Nat} {A : Option Addr} {n c : Nat} {l : List Cr} {e : Cr}
theorem kp_ownL {α : Type} {k : St α} {t : TypeId} {base : Nat} {v : Value} {xs : List α} (h : OwnL k t w base v xs) (hk : KeepsP S w w') (hs : ∀ b, v.ownBlock = some b → S b) : OwnL k t w' base v xs := by
  refine ⟨h.1, ?_⟩
  rcases h.2 with h2 | ⟨g, cap, cur, rfl, hbg, hg, r⟩
  · exact .inl h2
  · exact .inr ⟨g, cap, cur, rfl, hbg, hk.block g _ (hs g rfl) hg, r⟩
theorem CrOk.keep (h : CrOk S w N e) (hk : KeepsP S w w') : CrOk S w' N e := ⟨h.x.keep hk, kp_ownL h.a hk h.al, h.al, fun y hy => (h.ys y hy).keep hk, h.few⟩
theorem CrOk.less (h : CrOk S w N e) (hs : ∀ b, S b → b < w.heap.size → S' b) : CrOk S' w N e := ⟨h.x.less hs, h.a, fun b eb => hs b (h.al b eb) (OwnL.lt h.a b eb).2, fun y hy => (h.ys y hy).less hs, h.few⟩
theorem CrOk.more (h : CrOk S w N e) (hN : N ≤ N') : CrOk S w N' e := ⟨h.x, h.a, h.al, h.ys, Nat.le_trans h.few hN⟩
theorem FrC.keep (h : FrC S w N A n c l) (hk : KeepsP S w w') : FrC S w' N A n c l := ⟨kp_ownL h.own hk h.lab, h.lab, fun e he => (h.ok e he).keep hk, h.few⟩
theorem FrC.less (h : FrC S w N A n c l) (hs : ∀ b, S b → b < w.heap.size → S' b) : FrC S' w N A n c l := ⟨h.own, fun b eb => hs b (h.lab b eb) (OwnL.lt h.own b eb).2, fun e he => (h.ok e he).less hs, h.few⟩
theorem FrC.more (h : FrC S w N A n c l) (hN : N ≤ N') : FrC S w N' A n c l := ⟨h.own, h.lab, fun e he => (h.ok e he).more hN, Nat.le_trans h.few hN⟩
theorem FrC.len (h : FrC S w N A n c l) : n = l.length := by
  obtain ⟨A', c', e, _⟩ := OwnL.form h.own
  injection e
theorem own_at {base : Nat} {m : Nat} (h : OwnL kC 77 w base (.slice A n c) l) (hm : l[m]? = some e) : ∃ g, A = some ⟨g, 0, none⟩ ∧ n = l.length ∧ m < n ∧ g < w.heap.size ∧ w.rangeAt g (0 + m * 4) e.cells ∧
    w.cell? ⟨g, 0 + m * 4, none⟩ = some (encStr e.k) ∧ w.cell? ⟨g, 0 + m * 4 + 1, none⟩ = some (.bool e.sh) ∧ w.cell? ⟨g, 0 + m * 4 + 2, none⟩ = some (.slice e.x.A e.x.n e.x.c) ∧ w.cell? ⟨g, 0 + m * 4 + 3, none⟩ = some (.slice e.a.A e.a.n e.a.c) := by
  have hlt := (List.getElem?_eq_some_iff.1 hm).1
  obtain ⟨g, rfl, hn⟩ := own_some h (by omega)
  have hr := own_range h hlt
  have hd : l.getD m kC.d = e := by rw [List.getD_eq_getElem?_getD, hm]; rfl
  rw [hd] at hr
  have hr : w.rangeAt g (0 + m * 4) e.cells := hr
  exact ⟨g, rfl, hn, by omega, (OwnL.lt h g rfl).2, hr, hr 0 _ rfl, hr 1 _ rfl, hr 2 _ rfl, hr 3 _ rfl⟩
end
def Cr.p (e : Cr) : Cp := ⟨e.k, e.sh, e.x.zs, e.a.ys.map (·.zs)⟩
def absC (l : List Cr) : List Cp := l.map Cr.p
theorem absC_at {l : List Cr} {m : Nat} {e : Cr} (h : l[m]? = some e) : (absC l)[m]? = some e.p := by unfold absC; rw [List.getElem?_map, h]; rfl
theorem absC_at' {l : List Cr} {m : Nat} {d : Cp} (h : (absC l)[m]? = some d) : ∃ e, l[m]? = some e ∧ e.p = d := by
  unfold absC at h
  rw [List.getElem?_map] at h
  exact Option.map_eq_some_iff.1 h
theorem absC_set (l : List Cr) (m : Nat) (e : Cr) : absC (l.set m e) = (absC l).set m e.p := by unfold absC; rw [List.map_set]
def absO (O : List Ol) : List (List Cp) := O.map fun o => absC o.l
structure Ref (ow : Nat → Nat) (w : World) (r N : Nat) (l : List Cr) (O : List Ol) : Prop where
  own : ow r = 2
  blk : ∃ A n c A' n' c', Blk w r 29 #[.slice A n c, .slice A' n' c'] ∧ FrC (fun b => ow b = 1) w N A n c l ∧ OwnL kO 26 w 0 (.slice A' n' c') O ∧ ∀ b, (Value.slice A' n' c').ownBlock = some b → ow b = 2
  old : ∀ o ∈ O, FrC (fun b => ow b = 1) w N o.A o.n o.c o.l
  few : O.length ≤ N
  low : ∀ b, ow b ≠ 0 → b < w.heap.size
section
variable {ow ow' : Nat → Nat} {w w' : World} {r N N' : Nat} {l : List Cr} {O : List Ol}
theorem Ref.keep (H : Ref ow w r N l O) (hk : KeepsP (fun b => ow b ≠ 0) w w') : Ref ow w' r N l O where
  own := H.own
  blk := by
    obtain ⟨A, n, c, A', n', c', hb, hf, ho, hl⟩ := H.blk
    exact ⟨A, n, c, A', n', c', hk.block r _ (by show ow r ≠ 0; rw [H.own]; omega) hb, hf.keep (hk.less fun b hb => by omega), kp_ownL ho hk (fun b e => by have := hl b e; show ow b ≠ 0; omega), hl⟩
  old := fun o ho => (H.old o ho).keep (hk.less fun b hb => by omega)
  few := H.few
  low := fun b hb => Nat.lt_of_lt_of_le (H.low b hb) hk.size
theorem Ref.below (H : Ref ow w r N l O) (hb : Below w.heap.size w w') : Ref ow w' r N l O := H.keep (KeepsP.of_below hb)
theorem Ref.more (H : Ref ow w r N l O) (hN : N ≤ N') : Ref ow w r N' l O where
  own := H.own
  blk := by
    obtain ⟨A, n, c, A', n', c', hb, hf, ho, hl⟩ := H.blk
    exact ⟨A, n, c, A', n', c', hb, hf.more hN, ho, hl⟩
  old := fun o ho => (H.old o ho).more hN
  few := Nat.le_trans H.few hN
  low := H.low
theorem Ref.lt (H : Ref ow w r N l O) : r < w.heap.size := H.low r (by rw [H.own]; omega)
theorem Ref.free (H : Ref ow w r N l O) {b : Nat} (hb : w.heap.size ≤ b) : ow b = 0 := by
  rcases Nat.eq_zero_or_pos (ow b) with h | h
  · exact h
  · have := H.low b (by omega); omega
end
end Go.Proofs.Ytbippmbcgkicaaa.Sto
namespace Go.Proofs.Ytbippmbcgkicaaa.Sto
open Go.RowKit Go.Shelf Go.Proofs.Ytbippmbcgkicaaa Mem Held Sl Go.Proofs.Ytbippmbcgkicaaa.Range
attribute [local irreducible] wpList wpListIn Calls
section
variable {P : Program} {S : World → Prop} {ρ : Operand → Value} {o : Oper}
theorem y_lssS {t ty : TypeId} {x y : Operand} {xs ys : List UInt8} {r : Bool} (ho : o.op = .binOp .lss t x y ty) (hx : ρ x = encStr xs) (hy : ρ y = encStr ys) (hr : decide (xs < ys) = r) : ∀ w, S w → (execOp ρ o).run P w = .ok (.value (.bool r)) w :=
  Held.y_bin ho hx hy (fun w => by simp [eqGuard]) (fun w => by
    show (binOp .lss t (.string ⟨xs.toArray⟩) (.string ⟨ys.toArray⟩)).run P w = _
    rw [binOp_string_lss, toL, toL, less_eq, hr]
    rfl)
theorem y_eqS2 {t ty : TypeId} {x y : Operand} {xs ys : List UInt8} {r : Bool} (ho : o.op = .binOp .eql t x y ty) (hx : ρ x = encStr xs) (hy : ρ y = encStr ys) (hr : decide (xs = ys) = r) : ∀ w, S w → (execOp ρ o).run P w = .ok (.value (.bool r)) w :=
  Held.y_bin ho hx hy (fun w => by simp [eqGuard]) (fun w => by
    have e : (xs == ys) = decide (xs = ys) := by rw [Bool.eq_iff_iff]; simp
    show (binOp .eql t (.string ⟨xs.toArray⟩) (.string ⟨ys.toArray⟩)).run P w = _
    rw [binOp_string_eql, toL, toL, e, hr]
    rfl)
end
section
variable {ow : Nat → Nat} {w : World} {r N : Nat} {l : List Cr} {O : List Ol} {x : Nm}
set_option maxRecDepth 100000 in
set_option maxHeartbeats 8000000 in
theorem at_any (H : Ref ow w r N l O) (hN : N ≤ 1000000) : Calls Try.prog 34 #[.pointer (some ⟨r, 0, none⟩), encStr x] w fun e w' => ∃ (m : Nat) (b : Bool), e = .returned (.tuple #[.int .i64 m, .bool b]) ∧ m ≤ l.length ∧ AtC (absC l) x m ∧ ((b = true ∧ ∃ d, l[m]? = some d ∧ d.k = x) ∨ (b = false ∧ ∀ d, l[m]? = some d → d.k ≠ x)) ∧ Below w.heap.size w w' := by
  obtain ⟨A, n, c, A', n', c', hb, HF, -, -⟩ := H.blk
  have hc0 := hb.cell (i := 0) rfl
  have hlen := HF.len
  have hln : l.length ≤ 1000000 := Nat.le_trans HF.few hN
  have HFO := Lib.hid HF.own
  have HLEN := Lib.hid hlen
  have HLN := Lib.hid hln
  have hrl := hb.lt
  have HBL := Lib.hid hb
  clear hb HF hlen hln H
  go_enter Try.func34, Try.ntmps34
  go_wp2_with fail
  go_loopw [6] (fun i wr => ∃ m : Nat, m ≤ n ∧ i = .int .i64 m ∧ (∀ j d, l[j]? = some d → j < m → d.k < x) ∧ wr = w) (fun i _ => n - (intOf i).toNat)
  case atStart => exact ⟨0, Nat.zero_le _, rfl, fun j d _ h => absurd h (by omega), rfl⟩
  case round =>
    obtain ⟨m, hm, rfl, hlo, rfl⟩ := hrel
    have HLO := Lib.hid hlo
    clear hlo
    by_cases hlt : m < n
    · obtain ⟨d, hd⟩ : ∃ d, l[m]? = some d := ⟨_, List.getElem?_eq_getElem (by rw [← HLEN.out]; exact hlt)⟩
      obtain ⟨g, rfl, hn, hmn, hgl, hrg, k0, k1, k2, k3⟩ := own_at HFO.out hd
      have hltI : (m : Int) < (n : Int) := by omega
      have HD := Lib.hid hd
      have HM1 := Lib.hid (show IntKind.i64.wrap ((m : Int) + 1) = ((m + 1 : Nat) : Int) by rw [IntKind.wrap_i64]; have := HLN.out; have := HLEN.out; omega)
      clear hd hrg hn
      by_cases hk : d.k < x
      · have HK := Lib.hid hk
        have hkd := Lib.hid (decide_eq_true hk)
        clear hk
        go_wp2_with (first
          | (refine Held.wpList_run (w := wr) rfl (v := .pointer (some ⟨g, 0 + m * 4, none⟩)) (Held.y_addr (S := fun _ => True) rfl rfl rfl (Rs.run_addr_of (P := Try.prog) 26 77 g 0 n c m 4 .i64 Try.underlying26 (by kernel_rfl) hmn) _ trivial) ?_)
          | (refine Held.wpList_run (w := wr) rfl (v := .pointer (some ⟨g, 0 + m * 4, none⟩)) (Held.y_field (S := fun _ => True) (k := 0) (s := 0) rfl rfl Try.underlying77 rfl (by kernel_rfl) rfl _ trivial) ?_)
          | (refine Held.wpList_run (w := wr) rfl (v := encStr d.k) (Held.y_load (S := fun W => W = wr) (p := ⟨g, 0 + m * 4, none⟩) rfl rfl (by kernel_rfl) (fun W hW => hW ▸ k0) _ rfl) ?_)
          | (refine Held.wpList_run (w := wr) rfl (v := .bool true) (y_lssS (S := fun _ => True) (xs := d.k) (ys := x) rfl rfl rfl hkd.out _ trivial) ?_)
          | (refine Held.wpList_run (w := wr) rfl (v := .int .i64 ((m + 1 : Nat) : Int)) (y_addI (S := fun _ => True) (m : Int) 1 rfl rfl rfl HM1.out _ trivial) ?_))
        go_roundw
        case rel => exact ⟨m + 1, by omega, rfl, fun j d' hj hjm => by
          by_cases e : j = m
          · subst e
            have h9 := HD.out
            rw [hj] at h9
            injection h9 with h9
            subst h9
            exact HK.out
          · exact HLO.out j d' hj (by omega), trivial⟩
        case measure => simp [intOf]; omega
      · have hkd := Lib.hid (decide_eq_false hk)
        have HK := Lib.hid hk
        clear hk
        go_wp2_with (first
          | (refine Held.wpList_run (w := wr) rfl (v := .pointer (some ⟨g, 0 + m * 4, none⟩)) (Held.y_addr (S := fun _ => True) rfl rfl rfl (Rs.run_addr_of (P := Try.prog) 26 77 g 0 n c m 4 .i64 Try.underlying26 (by kernel_rfl) hmn) _ trivial) ?_)
          | (refine Held.wpList_run (w := wr) rfl (v := .pointer (some ⟨g, 0 + m * 4, none⟩)) (Held.y_field (S := fun _ => True) (k := 0) (s := 0) rfl rfl Try.underlying77 rfl (by kernel_rfl) rfl _ trivial) ?_)
          | (refine Held.wpList_run (w := wr) rfl (v := encStr d.k) (Held.y_load (S := fun W => W = wr) (p := ⟨g, 0 + m * 4, none⟩) rfl rfl (by kernel_rfl) (fun W hW => hW ▸ k0) _ rfl) ?_)
          | (refine Held.wpList_run (w := wr) rfl (v := .bool false) (y_lssS (S := fun _ => True) (xs := d.k) (ys := x) rfl rfl rfl hkd.out _ trivial) ?_))
        have HAT : AtC (absC l) x m := ⟨by unfold absC; rw [List.length_map, ← HLEN.out]; omega, fun i q hi hij => by
            obtain ⟨e, h1, rfl⟩ := absC_at' hi
            exact HLO.out i e h1 hij, fun q hq => by
            obtain ⟨e, h1, rfl⟩ := absC_at' hq
            rw [HD.out] at h1
            injection h1 with h1
            subst h1
            exact HK.out⟩
        have HB := Lib.hid (And.intro HAT (And.intro HD.out (show m ≤ l.length by rw [← HLEN.out]; exact Nat.le_of_lt hlt)))
        clear HAT HLO HD HK
        by_cases he : d.k = x
        · have hed := Lib.hid (decide_eq_true he)
          refine wp_region_held (S := fun W => Below wr.heap.size wr W) (by kernel_rfl) ?_
          change wpAnyH _ _ _ _ _ _ _ _ wr.drew
          have c0_0 := (Below.refl wr.heap.size wr).drew
          refine Held.tk (v := .int .i64 (m : Int)) 0 (some 28) rfl (Held.y_move rfl rfl) c0_0 ?_
          simp only [Act.put, Z1, Z2, Z3]
          refine Held.tk (v := .int .i64 (m : Int)) 1 (some 29) rfl (Held.y_move rfl rfl) c0_0 ?_
          simp only [Act.put, Z1, Z2, Z3]
          refine Held.tk (v := .pointer (some ⟨r, 0, none⟩)) 2 (some 30) rfl (Held.y_move rfl rfl) c0_0 ?_
          simp only [Act.put, Z1, Z2, Z3]
          refine Held.tk (v := .pointer (some ⟨r, 0, none⟩)) 3 (some 31) rfl (Sl.y_nil rfl rfl) c0_0 ?_
          simp only [Act.put, Z1, Z2, Z3]
          refine Held.tk (v := .pointer (some ⟨r, 0, none⟩)) 4 (some 32) rfl (Held.y_field (k := 0) (s := 0) rfl rfl Try.underlying29 rfl (by kernel_rfl) rfl) c0_0 ?_
          simp only [Act.put, Z1, Z2, Z3]
          refine Held.tk (v := .slice (some ⟨g, 0, none⟩) n c) 5 (some 33) rfl (Held.y_load rfl rfl (by kernel_rfl) (fun W hW => (HBL.out.below hW hrl).cell rfl)) c0_0 ?_
          simp only [Act.put, Z1, Z2, Z3]
          refine Held.tk (v := .int .i64 (n : Int)) 6 (some 34) rfl (Held.y_len rfl rfl Try.underlying26) c0_0 ?_
          simp only [Act.put, Z1, Z2, Z3]
          refine Held.tk (v := .bool true) 7 (some 35) rfl (Held.y_lss rfl rfl rfl (decide_eq_true hltI)) c0_0 ?_
          simp only [Act.put, Z1, Z2, Z3]
          refine Held.tk (v := .bool true) 8 (some 36) rfl (Held.y_move rfl rfl) c0_0 ?_
          simp only [Act.put, Z1, Z2, Z3]
          refine Held.tk (v := .pointer (some ⟨r, 0, none⟩)) 9 (some 37) rfl (Held.y_move rfl rfl) c0_0 ?_
          simp only [Act.put, Z1, Z2, Z3]
          refine Held.tk (v := .pointer (some ⟨r, 0, none⟩)) 10 (some 38) rfl (Sl.y_nil rfl rfl) c0_0 ?_
          simp only [Act.put, Z1, Z2, Z3]
          refine Held.tk (v := .pointer (some ⟨r, 0, none⟩)) 11 (some 39) rfl (Held.y_field (k := 0) (s := 0) rfl rfl Try.underlying29 rfl (by kernel_rfl) rfl) c0_0 ?_
          simp only [Act.put, Z1, Z2, Z3]
          refine Held.tk (v := .slice (some ⟨g, 0, none⟩) n c) 12 (some 40) rfl (Held.y_load rfl rfl (by kernel_rfl) (fun W hW => (HBL.out.below hW hrl).cell rfl)) c0_0 ?_
          simp only [Act.put, Z1, Z2, Z3]
          refine Held.tk (v := .int .i64 (m : Int)) 13 (some 41) rfl (Held.y_move rfl rfl) c0_0 ?_
          simp only [Act.put, Z1, Z2, Z3]
          refine Held.tk (v := .pointer (some ⟨g, 0 + m * 4, none⟩)) 14 (some 42) rfl (Held.y_addr rfl rfl rfl (fun W => Rs.run_addr_of (P := Try.prog) 26 77 g 0 n c m 4 .i64 Try.underlying26 (by kernel_rfl) hmn W)) c0_0 ?_
          simp only [Act.put, Z1, Z2, Z3]
          refine Held.tk (v := .pointer (some ⟨g, 0 + m * 4, none⟩)) 15 (some 43) rfl (Held.y_field (k := 0) (s := 0) rfl rfl Try.underlying77 rfl (by kernel_rfl) rfl) c0_0 ?_
          simp only [Act.put, Z1, Z2, Z3]
          refine Held.tk (v := encStr d.k) 16 (some 44) rfl (Held.y_load rfl rfl (by kernel_rfl) (fun W hW => (hW.cell (p := ⟨g, 0 + m * 4, none⟩) hgl).trans k0)) c0_0 ?_
          simp only [Act.put, Z1, Z2, Z3]
          refine Held.tk (v := encStr x) 17 (some 45) rfl (Held.y_move rfl rfl) c0_0 ?_
          simp only [Act.put, Z1, Z2, Z3]
          refine Held.tk (v := .bool true) 18 (some 46) rfl (y_eqS2 (xs := d.k) (ys := x) rfl rfl rfl hed.out) c0_0 ?_
          simp only [Act.put, Z1, Z2, Z3]
          refine Held.tk (v := .bool true) 19 (some 47) rfl (Held.y_pick rfl rfl rfl) c0_0 ?_
          simp only [Act.put, Z1, Z2, Z3]
          refine Held.tk (v := .int .i64 (m : Int)) 20 (some 4) rfl (Held.y_assign rfl rfl) c0_0 ?_
          simp only [Act.put, Z1, Z2, Z3]
          refine Held.tk (v := .bool true) 21 (some 5) rfl (Held.y_assign rfl rfl) c0_0 ?_
          simp only [Act.put, Z1, Z2, Z3]
          refine wpAnyH_done (by kernel_rfl) ?_ _
          go_wp2_with fail
          go_ret2
          exact ⟨m, true, rfl, HB.out.2.2, HB.out.1, .inl ⟨rfl, d, HB.out.2.1, he⟩, c0_0⟩
        · have hed := Lib.hid (decide_eq_false he)
          refine wp_region_held (S := fun W => Below wr.heap.size wr W) (by kernel_rfl) ?_
          change wpAnyH _ _ _ _ _ _ _ _ wr.drew
          have c0_0 := (Below.refl wr.heap.size wr).drew
          refine Held.tk (v := .int .i64 (m : Int)) 0 (some 28) rfl (Held.y_move rfl rfl) c0_0 ?_
          simp only [Act.put, Z1, Z2, Z3]
          refine Held.tk (v := .int .i64 (m : Int)) 1 (some 29) rfl (Held.y_move rfl rfl) c0_0 ?_
          simp only [Act.put, Z1, Z2, Z3]
          refine Held.tk (v := .pointer (some ⟨r, 0, none⟩)) 2 (some 30) rfl (Held.y_move rfl rfl) c0_0 ?_
          simp only [Act.put, Z1, Z2, Z3]
          refine Held.tk (v := .pointer (some ⟨r, 0, none⟩)) 3 (some 31) rfl (Sl.y_nil rfl rfl) c0_0 ?_
          simp only [Act.put, Z1, Z2, Z3]
          refine Held.tk (v := .pointer (some ⟨r, 0, none⟩)) 4 (some 32) rfl (Held.y_field (k := 0) (s := 0) rfl rfl Try.underlying29 rfl (by kernel_rfl) rfl) c0_0 ?_
          simp only [Act.put, Z1, Z2, Z3]
          refine Held.tk (v := .slice (some ⟨g, 0, none⟩) n c) 5 (some 33) rfl (Held.y_load rfl rfl (by kernel_rfl) (fun W hW => (HBL.out.below hW hrl).cell rfl)) c0_0 ?_
          simp only [Act.put, Z1, Z2, Z3]
          refine Held.tk (v := .int .i64 (n : Int)) 6 (some 34) rfl (Held.y_len rfl rfl Try.underlying26) c0_0 ?_
          simp only [Act.put, Z1, Z2, Z3]
          refine Held.tk (v := .bool true) 7 (some 35) rfl (Held.y_lss rfl rfl rfl (decide_eq_true hltI)) c0_0 ?_
          simp only [Act.put, Z1, Z2, Z3]
          refine Held.tk (v := .bool true) 8 (some 36) rfl (Held.y_move rfl rfl) c0_0 ?_
          simp only [Act.put, Z1, Z2, Z3]
          refine Held.tk (v := .pointer (some ⟨r, 0, none⟩)) 9 (some 37) rfl (Held.y_move rfl rfl) c0_0 ?_
          simp only [Act.put, Z1, Z2, Z3]
          refine Held.tk (v := .pointer (some ⟨r, 0, none⟩)) 10 (some 38) rfl (Sl.y_nil rfl rfl) c0_0 ?_
          simp only [Act.put, Z1, Z2, Z3]
          refine Held.tk (v := .pointer (some ⟨r, 0, none⟩)) 11 (some 39) rfl (Held.y_field (k := 0) (s := 0) rfl rfl Try.underlying29 rfl (by kernel_rfl) rfl) c0_0 ?_
          simp only [Act.put, Z1, Z2, Z3]
          refine Held.tk (v := .slice (some ⟨g, 0, none⟩) n c) 12 (some 40) rfl (Held.y_load rfl rfl (by kernel_rfl) (fun W hW => (HBL.out.below hW hrl).cell rfl)) c0_0 ?_
          simp only [Act.put, Z1, Z2, Z3]
          refine Held.tk (v := .int .i64 (m : Int)) 13 (some 41) rfl (Held.y_move rfl rfl) c0_0 ?_
          simp only [Act.put, Z1, Z2, Z3]
          refine Held.tk (v := .pointer (some ⟨g, 0 + m * 4, none⟩)) 14 (some 42) rfl (Held.y_addr rfl rfl rfl (fun W => Rs.run_addr_of (P := Try.prog) 26 77 g 0 n c m 4 .i64 Try.underlying26 (by kernel_rfl) hmn W)) c0_0 ?_
          simp only [Act.put, Z1, Z2, Z3]
          refine Held.tk (v := .pointer (some ⟨g, 0 + m * 4, none⟩)) 15 (some 43) rfl (Held.y_field (k := 0) (s := 0) rfl rfl Try.underlying77 rfl (by kernel_rfl) rfl) c0_0 ?_
          simp only [Act.put, Z1, Z2, Z3]
          refine Held.tk (v := encStr d.k) 16 (some 44) rfl (Held.y_load rfl rfl (by kernel_rfl) (fun W hW => (hW.cell (p := ⟨g, 0 + m * 4, none⟩) hgl).trans k0)) c0_0 ?_
          simp only [Act.put, Z1, Z2, Z3]
          refine Held.tk (v := encStr x) 17 (some 45) rfl (Held.y_move rfl rfl) c0_0 ?_
          simp only [Act.put, Z1, Z2, Z3]
          refine Held.tk (v := .bool false) 18 (some 46) rfl (y_eqS2 (xs := d.k) (ys := x) rfl rfl rfl hed.out) c0_0 ?_
          simp only [Act.put, Z1, Z2, Z3]
          refine Held.tk (v := .bool false) 19 (some 47) rfl (Held.y_pick rfl rfl rfl) c0_0 ?_
          simp only [Act.put, Z1, Z2, Z3]
          refine Held.tk (v := .int .i64 (m : Int)) 20 (some 4) rfl (Held.y_assign rfl rfl) c0_0 ?_
          simp only [Act.put, Z1, Z2, Z3]
          refine Held.tk (v := .bool false) 21 (some 5) rfl (Held.y_assign rfl rfl) c0_0 ?_
          simp only [Act.put, Z1, Z2, Z3]
          refine wpAnyH_done (by kernel_rfl) ?_ _
          go_wp2_with fail
          go_ret2
          exact ⟨m, false, rfl, HB.out.2.2, HB.out.1, .inr ⟨rfl, fun d' hd' => by
            rw [HB.out.2.1] at hd'
            injection hd' with hd'
            exact hd' ▸ he⟩, c0_0⟩
    · obtain rfl : m = n := by omega
      have hnl := HLEN.out
      go_wp2_with fail
      refine wp_region_held (S := fun W => Below wr.heap.size wr W) (by kernel_rfl) ?_
      change wpAnyH _ _ _ _ _ _ _ _ wr.drew
      have c0_0 := (Below.refl wr.heap.size wr).drew
      refine Held.tk (v := .int .i64 (m : Int)) 0 (some 28) rfl (Held.y_move rfl rfl) c0_0 ?_
      simp only [Act.put, Z1, Z2, Z3]
      refine Held.tk (v := .int .i64 (m : Int)) 1 (some 29) rfl (Held.y_move rfl rfl) c0_0 ?_
      simp only [Act.put, Z1, Z2, Z3]
      refine Held.tk (v := .pointer (some ⟨r, 0, none⟩)) 2 (some 30) rfl (Held.y_move rfl rfl) c0_0 ?_
      simp only [Act.put, Z1, Z2, Z3]
      refine Held.tk (v := .pointer (some ⟨r, 0, none⟩)) 3 (some 31) rfl (Sl.y_nil rfl rfl) c0_0 ?_
      simp only [Act.put, Z1, Z2, Z3]
      refine Held.tk (v := .pointer (some ⟨r, 0, none⟩)) 4 (some 32) rfl (Held.y_field (k := 0) (s := 0) rfl rfl Try.underlying29 rfl (by kernel_rfl) rfl) c0_0 ?_
      simp only [Act.put, Z1, Z2, Z3]
      refine Held.tk (v := .slice A m c) 5 (some 33) rfl (Held.y_load rfl rfl (by kernel_rfl) (fun W hW => (HBL.out.below hW hrl).cell rfl)) c0_0 ?_
      simp only [Act.put, Z1, Z2, Z3]
      refine Held.tk (v := .int .i64 (m : Int)) 6 (some 34) rfl (Held.y_len rfl rfl Try.underlying26) c0_0 ?_
      simp only [Act.put, Z1, Z2, Z3]
      refine Held.tk (v := .bool false) 7 (some 35) rfl (Held.y_lss rfl rfl rfl (decide_eq_false (by omega))) c0_0 ?_
      simp only [Act.put, Z1, Z2, Z3]
      refine Held.tk (v := .bool false) 8 (some 36) rfl (Held.y_move rfl rfl) c0_0 ?_
      simp only [Act.put, Z1, Z2, Z3]
      refine Held.skip 9 (some 37) rfl rfl (by kernel_rfl) (by kernel_rfl) (by kernel_rfl) (fun _ _ _ h => h) rfl c0_0 ?_
      simp only [Act.put, Z1, Z2, Z3]
      refine Held.skip 10 (some 38) rfl rfl (by kernel_rfl) (by kernel_rfl) (by kernel_rfl) (fun _ _ _ h => h) rfl c0_0 ?_
      simp only [Act.put, Z1, Z2, Z3]
      refine Held.skip 11 (some 39) rfl rfl (by kernel_rfl) (by kernel_rfl) (by kernel_rfl) (fun _ _ _ h => h) rfl c0_0 ?_
      simp only [Act.put, Z1, Z2, Z3]
      refine Held.skip 12 (some 40) rfl rfl (by kernel_rfl) (by kernel_rfl) (by kernel_rfl) (fun _ _ _ h => h) rfl c0_0 ?_
      simp only [Act.put, Z1, Z2, Z3]
      refine Held.skip 13 (some 41) rfl rfl (by kernel_rfl) (by kernel_rfl) (by kernel_rfl) (fun _ _ _ h => h) rfl c0_0 ?_
      simp only [Act.put, Z1, Z2, Z3]
      refine Held.skip 14 (some 42) rfl rfl (by kernel_rfl) (by kernel_rfl) (by kernel_rfl) (fun _ _ _ h => h) rfl c0_0 ?_
      simp only [Act.put, Z1, Z2, Z3]
      refine Held.skip 15 (some 43) rfl rfl (by kernel_rfl) (by kernel_rfl) (by kernel_rfl) (fun _ _ _ h => h) rfl c0_0 ?_
      simp only [Act.put, Z1, Z2, Z3]
      refine Held.skip 16 (some 44) rfl rfl (by kernel_rfl) (by kernel_rfl) (by kernel_rfl) (fun _ _ _ h => h) rfl c0_0 ?_
      simp only [Act.put, Z1, Z2, Z3]
      refine Held.skip 17 (some 45) rfl rfl (by kernel_rfl) (by kernel_rfl) (by kernel_rfl) (fun _ _ _ h => h) rfl c0_0 ?_
      simp only [Act.put, Z1, Z2, Z3]
      refine Held.skip 18 (some 46) rfl rfl (by kernel_rfl) (by kernel_rfl) (by kernel_rfl) (fun _ _ _ h => h) rfl c0_0 ?_
      simp only [Act.put, Z1, Z2, Z3]
      refine Held.tk (v := (.bool false)) 19 (some 47) rfl (Held.y_pickF rfl rfl rfl) c0_0 ?_
      simp only [Act.put, Z1, Z2, Z3]
      refine Held.tk (v := .int .i64 (m : Int)) 20 (some 4) rfl (Held.y_assign rfl rfl) c0_0 ?_
      simp only [Act.put, Z1, Z2, Z3]
      refine Held.tk (v := (.bool false)) 21 (some 5) rfl (Held.y_assign rfl rfl) c0_0 ?_
      simp only [Act.put, Z1, Z2, Z3]
      refine wpAnyH_done (by kernel_rfl) ?_ _
      go_wp2_with fail
      go_ret2
      exact ⟨m, false, rfl, by omega, ⟨by unfold absC; rw [List.length_map]; omega, fun i q hi hij => by
          obtain ⟨e, h1, rfl⟩ := absC_at' hi
          exact HLO.out i e h1 hij, fun q hq => by
          have := (List.getElem?_eq_some_iff.1 hq).1
          unfold absC at this
          rw [List.length_map] at this
          omega⟩, .inr ⟨rfl, fun d' hd' => by
          have := (List.getElem?_eq_some_iff.1 hd').1
          omega⟩, c0_0⟩
end
end Go.Proofs.Ytbippmbcgkicaaa.Sto
namespace Go.Proofs.Ytbippmbcgkicaaa.Sto
open Go.RowKit Go.Shelf Go.Proofs.Ytbippmbcgkicaaa Mem Held Sl Go.Proofs.Ytbippmbcgkicaaa.Range
attribute [local irreducible] wpList wpListIn Calls
theorem cpy_any {S : Nat → Prop} {w : World} {x : Bs} (h : Rd S w x) : Calls Try.prog 41 #[.slice x.A x.n x.c] w fun r w' =>
    ∃ y : Bs, r = .returned (.slice y.A y.n y.c) ∧ y.zs = x.zs ∧ Mem.Own w' w.heap.size 5 .u8 (.slice y.A y.n y.c) x.zs ∧ Rd (fun b => w.heap.size ≤ b) w' y ∧ Below w.heap.size w w' := by
  obtain ⟨h1, h2, h3⟩ := h
  refine (Help.copy_any w.heap.size x.A x.n x.c x.zs w h1 (by omega)).mono ?_
  rintro r w1 ⟨v, rfl, ho, hb⟩
  obtain ⟨A, c, rfl, hle, hm, hi⟩ := ho.form
  refine ⟨⟨A, x.zs.length, c, x.zs⟩, rfl, rfl, ho, ⟨hi, by rw [h1.1]; exact h2, fun b off p e hn => ?_⟩, hb⟩
  rcases ho.2.2 with ⟨e1, hn'⟩ | ⟨g, cap, cur, e1, hb, _⟩
  · injection e1 with e1
    rw [e1] at e
    cases e
  · injection e1 with e1
    rw [e1] at e
    injection e with e
    injection e with e
    omega
section
variable {ow : Nat → Nat} {w : World} {r N : Nat} {l : List Cr} {O : List Ol} {x : Nm}
set_option maxRecDepth 100000 in
set_option maxHeartbeats 8000000 in
theorem shown_any (H : Ref ow w r N l O) (hs : SrtC (absC l)) (hN : N ≤ 1000000) : Calls Try.prog 37 #[.pointer (some ⟨r, 0, none⟩), encStr x] w fun e w' => ∃ z : Int, e = .returned (.int .i64 z) ∧ ((z = -1 ∧ (shwC (absC l) x).1 = false) ∨ ∃ (m : Nat) (d : Cr), z = (m : Int) ∧ l[m]? = some d ∧ d.k = x ∧ d.sh = true) ∧ Below w.heap.size w w' := by
  go_enter Try.func37, Try.ntmps37
  go_wp2_with fail
  refine (at_any (x := x) H hN).mono ?_
  rintro e1 w1 ⟨m, b, rfl, hml, hat, hb, b1⟩
  rcases hb with ⟨rfl, d, hd, hk⟩ | ⟨rfl, hno⟩
  · have H1 := H.below b1
    obtain ⟨A, n, c, A', n', c', hb, HF, -, -⟩ := H1.blk
    have hc0 := hb.cell (i := 0) rfl
    obtain ⟨g, rfl, -, hmn, hgl, hrg, k0, k1, k2, k3⟩ := own_at HF.own hd
    have hsh : ∀ b, d.sh = b → (shwC (absC l) x) = (b, d.x.zs) := fun b e => by rw [← hk, shw_of (at_some (x := d.k) hs (absC_at hd) rfl), ← e]; rfl
    have HSH := Lib.hid hsh
    have HD := Lib.hid (And.intro hd hk)
    obtain ⟨bs, hbs⟩ : ∃ bs, d.sh = bs := ⟨_, rfl⟩
    have HBS := Lib.hid hbs
    rw [hbs] at k1
    clear hsh hrg hbs hd hk
    cases bs with
    | true =>
      go_wp2_with (first
        | (refine Held.wpList_run (w := w1) rfl (v := .pointer (some ⟨g, 0 + m * 4, none⟩)) (Held.y_addr (S := fun _ => True) rfl rfl rfl (Rs.run_addr_of (P := Try.prog) 26 77 g 0 n c m 4 .i64 Try.underlying26 (by kernel_rfl) hmn) _ trivial) ?_)
        | (refine Held.wpList_run (w := w1) rfl (v := .pointer (some ⟨g, 0 + m * 4 + 1, none⟩)) (Held.y_field (S := fun _ => True) (k := 1) (s := 0) rfl rfl Try.underlying77 rfl (by kernel_rfl) rfl _ trivial) ?_)
        | (refine Held.wpList_run (w := w1) rfl (v := .bool true) (Held.y_load (S := fun W => W = w1) (p := ⟨g, 0 + m * 4 + 1, none⟩) rfl rfl (by kernel_rfl) (fun W hW => hW ▸ k1) _ rfl) ?_))
      go_ret
      exact ⟨(m : Int), rfl, .inr ⟨m, d, rfl, HD.out.1, HD.out.2, HBS.out⟩, b1⟩
    | false =>
      go_wp2_with (first
        | (refine Held.wpList_run (w := w1) rfl (v := .pointer (some ⟨g, 0 + m * 4, none⟩)) (Held.y_addr (S := fun _ => True) rfl rfl rfl (Rs.run_addr_of (P := Try.prog) 26 77 g 0 n c m 4 .i64 Try.underlying26 (by kernel_rfl) hmn) _ trivial) ?_)
        | (refine Held.wpList_run (w := w1) rfl (v := .pointer (some ⟨g, 0 + m * 4 + 1, none⟩)) (Held.y_field (S := fun _ => True) (k := 1) (s := 0) rfl rfl Try.underlying77 rfl (by kernel_rfl) rfl _ trivial) ?_)
        | (refine Held.wpList_run (w := w1) rfl (v := .bool false) (Held.y_load (S := fun W => W = w1) (p := ⟨g, 0 + m * 4 + 1, none⟩) rfl rfl (by kernel_rfl) (fun W hW => hW ▸ k1) _ rfl) ?_))
      go_ret
      exact ⟨-1, rfl, .inl ⟨rfl, by rw [HSH.out false HBS.out]⟩, b1⟩
  · have hsh : (shwC (absC l) x).1 = false := by
      unfold shwC
      rw [at_none hs hat (fun c hc => by obtain ⟨e, h1, rfl⟩ := absC_at' hc; exact hno e h1)]
    have HSH := Lib.hid hsh
    clear hsh hno hat
    go_wp2_with fail
    go_ret
    exact ⟨-1, rfl, .inl ⟨rfl, HSH.out⟩, b1⟩
set_option maxRecDepth 100000 in
set_option maxHeartbeats 8000000 in
theorem rget_any (H : Ref ow w r N l O) (hs : SrtC (absC l)) (hN : N ≤ 1000000) : Calls Try.prog 50 #[.pointer (some ⟨r, 0, none⟩), encStr x] w fun e w' => ∃ y : Bs, e = .returned (.tuple #[.slice y.A y.n y.c, .bool (shwC (absC l) x).1]) ∧ ((shwC (absC l) x).1 = true → y.zs = (shwC (absC l) x).2) ∧ ((shwC (absC l) x).1 = false → y.zs = []) ∧ Rd (fun b => w.heap.size ≤ b) w' y ∧ Below w.heap.size w w' := by
  go_enter Try.func50, Try.ntmps50
  go_wp2_with fail
  refine (shown_any (x := x) H hs hN).mono ?_
  rintro e1 w1 ⟨z, rfl, hz, b1⟩
  rcases hz with ⟨rfl, hf⟩ | ⟨m, d, rfl, hd, hk, hsd⟩
  · have HF := Lib.hid hf
    clear hf
    go_wp2_with fail
    go_ret2
    exact ⟨Bs.nil, by rw [HF.out]; rfl, (fun h => by rw [HF.out] at h; cases h), fun _ => rfl, Rd.nil _ _, b1⟩
  · have H1 := H.below b1
    obtain ⟨A, n, c, A', n', c', hb, HF, -, -⟩ := H1.blk
    have hc0 := hb.cell (i := 0) rfl
    obtain ⟨g, rfl, -, hmn, hgl, hrg, k0, k1, k2, k3⟩ := own_at HF.own hd
    have hsh : (shwC (absC l) x) = (true, d.x.zs) := by rw [← hk, shw_of (at_some (x := d.k) hs (absC_at hd) rfl), ← hsd]; rfl
    have hx := (HF.ok d (List.mem_of_getElem? hd)).x
    have HSH := Lib.hid hsh
    have HX := Lib.hid hx
    have hneg : ¬ ((m : Int) < 0) := by omega
    clear hsh hrg hd hk hx HF hsd
    go_wp2_with (first
      | (refine Held.wpList_run (w := w1) rfl (v := .pointer (some ⟨g, 0 + m * 4, none⟩)) (Held.y_addr (S := fun _ => True) rfl rfl rfl (Rs.run_addr_of (P := Try.prog) 26 77 g 0 n c m 4 .i64 Try.underlying26 (by kernel_rfl) hmn) _ trivial) ?_)
      | (refine Held.wpList_run (w := w1) rfl (v := .pointer (some ⟨g, 0 + m * 4 + 2, none⟩)) (Held.y_field (S := fun _ => True) (k := 2) (s := 0) rfl rfl Try.underlying77 rfl (by kernel_rfl) rfl _ trivial) ?_)
      | (refine Held.wpList_run (w := w1) rfl (v := .slice d.x.A d.x.n d.x.c) (Held.y_load (S := fun W => W = w1) (p := ⟨g, 0 + m * 4 + 2, none⟩) rfl rfl (by kernel_rfl) (fun W hW => hW ▸ k2) _ rfl) ?_))
    refine (cpy_any HX.out).mono ?_
    rintro e2 w2 ⟨⟨A2, n2, c2, zs2⟩, rfl, hy, -, hr, b2⟩
    have hy : zs2 = d.x.zs := hy
    have HR := Lib.hid (And.intro hy hr)
    clear hy hr
    go_wp2_with fail
    go_ret2
    exact ⟨⟨A2, n2, c2, zs2⟩, by rw [HSH.out]; rfl, fun _ => by rw [HSH.out]; exact HR.out.1, (fun h => by rw [HSH.out] at h; cases h), ⟨HR.out.2.1, HR.out.2.2.1, fun b off p e hn => Nat.le_trans b1.size (HR.out.2.2.2 b off p e hn)⟩, b1.trans (b2.mono b1.size)⟩
set_option maxRecDepth 100000 in
set_option maxHeartbeats 8000000 in
theorem rversions_any (H : Ref ow w r N l O) (hs : SrtC (absC l)) (hN : N ≤ 1000000) : Calls Try.prog 49 #[.pointer (some ⟨r, 0, none⟩), encStr x] w fun e w' => e = .returned (.int .i64 ((verC (absC l) x).length : Int)) ∧ Below w.heap.size w w' := by
  go_enter Try.func49, Try.ntmps49
  go_wp2_with fail
  refine (at_any (x := x) H hN).mono ?_
  rintro e1 w1 ⟨m, b, rfl, hml, hat, hb, b1⟩
  rcases hb with ⟨rfl, d, hd, hk⟩ | ⟨rfl, hno⟩
  · have H1 := H.below b1
    obtain ⟨A, n, c, A', n', c', hb, HF, -, -⟩ := H1.blk
    have hc0 := hb.cell (i := 0) rfl
    obtain ⟨g, rfl, -, hmn, hgl, hrg, k0, k1, k2, k3⟩ := own_at HF.own hd
    have hv : (verC (absC l) x).length = d.a.n := by
      rw [← hk, ver_of (at_some (x := d.k) hs (absC_at hd) rfl)]
      obtain ⟨A9, c9, e9, _⟩ := OwnL.form (HF.ok d (List.mem_of_getElem? hd)).a
      injection e9 with _ e9 _
      rw [e9]
      simp [Cr.p]
    have HV := Lib.hid hv
    clear hv hrg hd hk HF
    go_wp2_with (first
      | (refine Held.wpList_run (w := w1) rfl (v := .pointer (some ⟨g, 0 + m * 4, none⟩)) (Held.y_addr (S := fun _ => True) rfl rfl rfl (Rs.run_addr_of (P := Try.prog) 26 77 g 0 n c m 4 .i64 Try.underlying26 (by kernel_rfl) hmn) _ trivial) ?_)
      | (refine Held.wpList_run (w := w1) rfl (v := .pointer (some ⟨g, 0 + m * 4 + 3, none⟩)) (Held.y_field (S := fun _ => True) (k := 3) (s := 0) rfl rfl Try.underlying77 rfl (by kernel_rfl) rfl _ trivial) ?_)
      | (refine Held.wpList_run (w := w1) rfl (v := .slice d.a.A d.a.n d.a.c) (Held.y_load (S := fun W => W = w1) (p := ⟨g, 0 + m * 4 + 3, none⟩) rfl rfl (by kernel_rfl) (fun W hW => hW ▸ k3) _ rfl) ?_))
    go_ret
    exact ⟨by rw [HV.out]; rfl, b1⟩
  · have hv : (verC (absC l) x).length = 0 := by
      unfold verC
      rw [at_none hs hat (fun c hc => by obtain ⟨e, h1, rfl⟩ := absC_at' hc; exact hno e h1)]
      rfl
    have HV := Lib.hid hv
    clear hv hno hat
    go_wp2_with fail
    go_ret
    exact ⟨by rw [HV.out]; rfl, b1⟩
theorem rwrites_any (H : Ref ow w r N l O) : Calls Try.prog 48 #[.pointer (some ⟨r, 0, none⟩)] w fun e w' => e = .returned (.int .i64 (O.length : Int)) ∧ w = w' := by
  obtain ⟨A, n, c, A', n', c', hb, -, HO, -⟩ := H.blk
  have hc0 := hb.cell (i := 1) rfl
  obtain ⟨A9, c9, e9, _⟩ := OwnL.form HO
  injection e9 with _ e9 _
  rw [← e9]
  clear e9 HO
  go_enter Try.func48, Try.ntmps48
  go_wp2_with fail
  go_ret
  exact ⟨rfl, rfl⟩
def namR (l : List Cr) : List Nm := (l.filter (·.sh)).map (·.k)
theorem namR_abs (l : List Cr) : namC (absC l) = namR l := by
  unfold namC namR absC
  rw [List.filter_map, List.map_map]
  rfl
theorem namR_step {l : List Cr} {m : Nat} {d : Cr} (h : l[m]? = some d) : namR (l.take (m + 1)) = namR (l.take m) ++ if d.sh then [d.k] else [] := by
  unfold namR
  rw [List.take_add_one, h, List.filter_append, List.map_append]
  cases hd : d.sh <;> simp [hd]
theorem namR_len (l : List Cr) (m : Nat) : (namR (l.take m)).length ≤ l.length := by
  unfold namR
  rw [List.length_map]
  exact Nat.le_trans (List.length_filter_le _ _) (by rw [List.length_take]; omega)
set_option maxRecDepth 100000 in
set_option maxHeartbeats 8000000 in
theorem rnames_any (H : Ref ow w r N l O) (hN : N ≤ 500000) (hkl : ∀ d ∈ l, d.k.length ≤ maxLen) : Calls Try.prog 47 #[.pointer (some ⟨r, 0, none⟩)] w fun e w' => ∃ v, e = .returned v ∧ OwnL kS 9 w' w.heap.size v (namR l) ∧ Below w.heap.size w w' := by
  obtain ⟨A, n, c, A', n', c', hb, HF, -, -⟩ := H.blk
  have hrl := hb.lt
  have HC := Lib.hid (hb.cell (i := 0) rfl)
  have HLEN := Lib.hid HF.len
  have HLN := Lib.hid (Nat.le_trans HF.few hN)
  have HFO := Lib.hid HF.own
  have HKL := Lib.hid hkl
  clear hb HF H hN hkl
  go_enter Try.func47, Try.ntmps47
  go_wp2_with fail
  go_loopw [3, 4] (fun v i wr => ∃ m : Nat, m ≤ n ∧ i = .int .i64 m ∧ OwnL kS 9 wr w.heap.size v (namR (l.take m)) ∧ Below w.heap.size w wr) (fun v i _ => n - (intOf i).toNat)
  case atStart => exact ⟨0, Nat.zero_le _, rfl, OwnL.nil _ _ _ _, Below.refl _ _⟩
  case round =>
    obtain ⟨m, hm, rfl, ho, hbel⟩ := hrel
    obtain ⟨A1, n1, c1, rfl, -⟩ := OwnL.form2 ho
    have hc0 := (hbel.cell (p := ⟨r, 0, none⟩) hrl).trans HC.out
    by_cases hlt : m < n
    · obtain ⟨d, hd⟩ : ∃ d, l[m]? = some d := ⟨_, List.getElem?_eq_getElem (by rw [← HLEN.out]; exact hlt)⟩
      obtain ⟨g, rfl, hn, hmn, hgl, hrg, k0, k1, k2, k3⟩ := own_at HFO.out hd
      have hltI : (m : Int) < (n : Int) := by omega
      have k0 := (hbel.cell (p := ⟨g, 0 + m * 4, none⟩) hgl).trans k0
      have k1 := (hbel.cell (p := ⟨g, 0 + m * 4 + 1, none⟩) hgl).trans k1
      have HM1 := Lib.hid (show IntKind.i64.wrap ((m : Int) + 1) = ((m + 1 : Nat) : Int) by rw [IntKind.wrap_i64]; have := HLN.out; have := HLEN.out; omega)
      have HS := Lib.hid (namR_step hd)
      have HO := Lib.hid ho
      have HB := Lib.hid hbel
      have HNL := Lib.hid (show (namR (l.take m)).length ≤ 500000 from Nat.le_trans (namR_len l m) HLN.out)
      have HK8 := Lib.hid (HKL.out d (List.mem_of_getElem? hd))
      obtain ⟨bs, hbs⟩ : ∃ bs, d.sh = bs := ⟨_, rfl⟩
      have HBS := Lib.hid hbs
      rw [hbs] at k1
      clear hrg hd hn ho hbel k2 k3 hbs
      cases bs with
      | true =>
        go_wp2_with (first
          | (refine Held.wpList_run (w := wr) rfl (v := .pointer (some ⟨g, 0 + m * 4, none⟩)) (Held.y_addr (S := fun _ => True) rfl rfl rfl (Rs.run_addr_of (P := Try.prog) 26 77 g 0 n c m 4 .i64 Try.underlying26 (by kernel_rfl) hmn) _ trivial) ?_)
          | (refine Held.wpList_run (w := wr) rfl (v := .pointer (some ⟨g, 0 + m * 4 + 1, none⟩)) (Held.y_field (S := fun _ => True) (k := 1) (s := 0) rfl rfl Try.underlying77 rfl (by kernel_rfl) rfl _ trivial) ?_)
          | (refine Held.wpList_run (w := wr) rfl (v := .bool true) (Held.y_load (S := fun W => W = wr) (p := ⟨g, 0 + m * 4 + 1, none⟩) rfl rfl (by kernel_rfl) (fun W hW => hW ▸ k1) _ rfl) ?_)
          | (refine Held.wpList_run (w := wr) rfl (v := .pointer (some ⟨g, 0 + m * 4, none⟩)) (Held.y_field (S := fun _ => True) (k := 0) (s := 0) rfl rfl Try.underlying77 rfl (by kernel_rfl) rfl _ trivial) ?_)
          | (refine Held.wpList_run (w := wr) rfl (v := encStr d.k) (Held.y_load (S := fun W => W = wr) (p := ⟨g, 0 + m * 4, none⟩) rfl rfl (by kernel_rfl) (fun W hW => hW ▸ k0) _ rfl) ?_)
          | (refine wpList_build_lst1 (k := kS) (w := wr) rfl 46 9 1 _ rfl Try.underlying46 _ 16 info_kS rfl [d.k] rfl (by simp [Act.eval, Act.put, Sl.flat, kS]) (fun v hv => by simp [Sl.flat, kS] at hv; rw [hv]; rfl) (by omega) (by omega) ?_; intro u1 qu1 gu1 zu1; have b1 := HB.out.grown gu1 HB.out.size (by simp); have o1 : OwnL kS 9 u1 w.heap.size (.slice A1 n1 c1) (namR (l.take m)) := OwnL.below HO.out ((Below.refl _ _).grown gu1 (Nat.le_refl _) (by simp)))
          | (refine wpList_append_lst0 (k := kS) (w := u1) rfl _ _ 46 9 rfl Try.underlying46 _ 16 info_kS rfl w.heap.size u1.heap.size 1 1 (some ⟨wr.heap.size, 0, none⟩) (.slice A1 n1 c1) (namR (l.take m)) [d.k] rfl rfl o1 (lst_whole qu1 rfl (fun y hy => by rw [List.mem_singleton.1 hy]; exact HK8.out)) (by have := HNL.out; omega) (by omega) b1.size ?_; intro v2 u2 o2 g2 n2)
          | (refine Held.wpList_run (w := u2) rfl (v := .int .i64 ((m + 1 : Nat) : Int)) (y_addI (S := fun _ => True) (m : Int) 1 rfl rfl rfl HM1.out _ trivial) ?_))
        go_roundw
        case rel => exact ⟨m + 1, by omega, rfl, by rw [HS.out, if_pos HBS.out]; exact o2, b1.grown g2 b1.size (fun r e => (OwnL.lt o1 r e).1)⟩
        case measure => simp [intOf]; omega
      | false =>
        go_wp2_with (first
          | (refine Held.wpList_run (w := wr) rfl (v := .pointer (some ⟨g, 0 + m * 4, none⟩)) (Held.y_addr (S := fun _ => True) rfl rfl rfl (Rs.run_addr_of (P := Try.prog) 26 77 g 0 n c m 4 .i64 Try.underlying26 (by kernel_rfl) hmn) _ trivial) ?_)
          | (refine Held.wpList_run (w := wr) rfl (v := .pointer (some ⟨g, 0 + m * 4 + 1, none⟩)) (Held.y_field (S := fun _ => True) (k := 1) (s := 0) rfl rfl Try.underlying77 rfl (by kernel_rfl) rfl _ trivial) ?_)
          | (refine Held.wpList_run (w := wr) rfl (v := .bool false) (Held.y_load (S := fun W => W = wr) (p := ⟨g, 0 + m * 4 + 1, none⟩) rfl rfl (by kernel_rfl) (fun W hW => hW ▸ k1) _ rfl) ?_)
          | (refine Held.wpList_run (w := wr) rfl (v := .int .i64 ((m + 1 : Nat) : Int)) (y_addI (S := fun _ => True) (m : Int) 1 rfl rfl rfl HM1.out _ trivial) ?_))
        go_roundw
        case rel => exact ⟨m + 1, by omega, rfl, by rw [HS.out, HBS.out, if_neg (by simp), List.append_nil]; exact HO.out, HB.out⟩
        case measure => simp [intOf]; omega
    · obtain rfl : m = n := by omega
      have HO := Lib.hid ho
      clear ho
      go_wp2_with fail
      go_ret
      exact ⟨_, rfl, by have := HO.out; rw [List.take_of_length_le (by rw [← HLEN.out]; exact Nat.le_refl _)] at this; exact this, hbel⟩
end
end Go.Proofs.Ytbippmbcgkicaaa.Sto
namespace Go.Proofs.Ytbippmbcgkicaaa.Sto
open Go.RowKit Go.Shelf Go.Proofs.Ytbippmbcgkicaaa Mem Held Sl Go.Proofs.Ytbippmbcgkicaaa.Range
attribute [local irreducible] wpList wpListIn Calls
section
variable {ow ow' : Nat → Nat} {w w' : World} {r N N' : Nat} {l l' : List Cr} {O O' : List Ol}
theorem Ref.fresh (H : Ref ow w r N l O) (hb : Below w.heap.size w w') : ∃ ow', Ref ow' w' r N l O ∧ Chg ow ow' w w' ∧ ∀ b, w.heap.size ≤ b → b < w'.heap.size → ow' b = 1 := by
  have hold : ∀ b, b < w.heap.size → (if w.heap.size ≤ b ∧ b < w'.heap.size then 1 else ow b) = ow b := fun b hlt => if_neg (by omega)
  have H' := H.below hb
  refine ⟨fun b => if w.heap.size ≤ b ∧ b < w'.heap.size then 1 else ow b, ⟨(hold r H.lt).trans H.own, ?_, fun o ho => ?_, H.few, fun b hb' => ?_⟩, ⟨KeepsP.of_below hb, hold⟩, fun b h1 h2 => if_pos ⟨h1, h2⟩⟩
  · obtain ⟨A, n, c, A', n', c', h1, h2, h3, h4⟩ := H'.blk
    exact ⟨A, n, c, A', n', c', h1, h2.less fun b hb _ => (hold b (H.low b (by omega))).trans hb, h3, fun b e => (hold b (H.low b (by have := h4 b e; omega))).trans (h4 b e)⟩
  · exact (H'.old o ho).less fun b hb _ => (hold b (H.low b (by omega))).trans hb
  · by_cases h : w.heap.size ≤ b ∧ b < w'.heap.size
    · exact h.2
    · have hb' : (if w.heap.size ≤ b ∧ b < w'.heap.size then 1 else ow b) ≠ 0 := hb'
      rw [if_neg h] at hb'
      exact Nat.lt_of_lt_of_le (H.low b hb') hb.size
theorem Ref.step {A A' : Option Addr} {n n' c c' : Nat} (H : Ref ow w r N l O) (hk : KeepsP (fun b => ow b ≠ 2 ∧ b < w.heap.size) w w') (hb : Blk w' r 29 #[.slice A n c, .slice A' n' c'])
    (hf : FrC (fun b => (ow b = 1 ∨ w.heap.size ≤ b) ∧ (Value.slice A' n' c').ownBlock ≠ some b) w' N' A n c l') (ho : OwnL kO 26 w' 0 (.slice A' n' c') O') (hl : ∀ b, (Value.slice A' n' c').ownBlock = some b → ow b = 2 ∨ w.heap.size ≤ b)
    (hoo : ∀ o ∈ O', FrC (fun b => (ow b = 1 ∨ w.heap.size ≤ b) ∧ (Value.slice A' n' c').ownBlock ≠ some b) w' N' o.A o.n o.c o.l) (hfew : O'.length ≤ N') : ∃ ow', Ref ow' w' r N' l' O' ∧ Chg ow ow' w w' := by
  obtain ⟨ow', how⟩ : ∃ ow' : Nat → Nat, ow' = fun b => if (Value.slice A' n' c').ownBlock = some b then 2 else if w.heap.size ≤ b ∧ b < w'.heap.size then 1 else ow b := ⟨_, rfl⟩
  have hold : ∀ b, b < w.heap.size → ow' b = ow b := fun b hlt => by
    rw [how]
    show (if _ then _ else _) = _
    split
    · rename_i e
      rcases hl b e with h | h
      · exact h.symm
      · omega
    · exact if_neg (by omega)
  have hst : ∀ b, (ow b = 1 ∨ w.heap.size ≤ b) ∧ (Value.slice A' n' c').ownBlock ≠ some b → b < w'.heap.size → ow' b = 1 := fun b ⟨h1, h2⟩ hlt => by
    rw [how]
    show (if _ then _ else _) = _
    rw [if_neg h2]
    split
    · rfl
    · rename_i h
      rcases h1 with h1 | h1
      · exact h1
      · omega
  refine ⟨ow', ⟨(hold r H.lt).trans H.own, ⟨A, n, c, A', n', c', hb, hf.less hst, ho, fun b e => by rw [how]; exact if_pos e⟩, fun o h => (hoo o h).less hst, hfew, fun b hb' => ?_⟩, ⟨hk.os, hk.tape, hk.output, hk.size, fun b o hb' ho' => hk.block b o ⟨by have h0 : ow b ≤ 1 := hb'; omega, (Array.getElem?_eq_some_iff.1 ho').1⟩ ho'⟩, hold⟩
  rw [how] at hb'
  by_cases e : (Value.slice A' n' c').ownBlock = some b
  · exact (OwnL.lt ho b e).2
  · by_cases h : w.heap.size ≤ b ∧ b < w'.heap.size
    · exact h.2
    · have hb' : (if _ then _ else if _ then _ else ow b) ≠ 0 := hb'
      rw [if_neg e, if_neg h] at hb'
      exact Nat.lt_of_lt_of_le (H.low b hb') hk.size
theorem Ref.relist {A : Option Addr} {n c : Nat} {A0 A' : Option Addr} {n0 c0 n' c' : Nat} (H : Ref ow w r N l O) (hb0 : Blk w r 29 #[.slice A0 n0 c0, .slice A' n' c']) (hk : KeepsP (fun b => b ≠ r ∧ b < w.heap.size) w w') (hb : Blk w' r 29 #[.slice A n c, .slice A' n' c'])
    (hf : FrC (fun b => ow b = 1 ∨ w.heap.size ≤ b) w' N' A n c l') (hN : N ≤ N') : ∃ ow', Ref ow' w' r N' l' O ∧ Chg ow ow' w w' := by
  obtain ⟨A1, n1, c1, A2, n2, c2, h1, h2, h3, h4⟩ := H.blk
  have e : (#[.slice A1 n1 c1, .slice A2 n2 c2] : Array Value) = #[.slice A0 n0 c0, .slice A' n' c'] := by
    have a1 : w.heap[r]? = some (.cells #[.slice A1 n1 c1, .slice A2 n2 c2] 29 (0, 0)) := h1
    have a2 : w.heap[r]? = some (.cells #[.slice A0 n0 c0, .slice A' n' c'] 29 (0, 0)) := hb0
    rw [a1] at a2
    injection a2 with a2
    injection a2 with a2
  simp only [Array.mk.injEq, List.cons.injEq, Value.slice.injEq, and_true] at e
  obtain ⟨-, rfl, rfl, rfl⟩ := e
  have hlt := H.lt
  have hS : ∀ b, ow b = 1 ∨ w.heap.size ≤ b → (Value.slice A2 n2 c2).ownBlock ≠ some b := fun b h e => by
    have h9 := h4 b e
    have := H.low b (by omega)
    omega
  have hk2 : KeepsP (fun b => ow b ≠ 2 ∧ b < w.heap.size) w w' := hk.less fun b hb => ⟨fun e => hb.1 (by rw [e]; exact H.own), hb.2⟩
  have hk1 : KeepsP (fun b => ow b = 1) w w' := ⟨hk2.os, hk2.tape, hk2.output, hk2.size, fun b o hb ho => hk2.block b o ⟨by have h0 : ow b = 1 := hb; omega, (Array.getElem?_eq_some_iff.1 ho).1⟩ ho⟩
  have ho : OwnL kO 26 w' 0 (.slice A2 n2 c2) O := kp_ownL h3 hk fun b e => ⟨fun e2 => OwnL.ne_blk h3 h1 (by decide) (e2 ▸ e), (OwnL.lt h3 b e).2⟩
  exact H.step hk2 hb (hf.less fun b hb _ => ⟨hb, hS b hb⟩) ho (fun b e => .inl (h4 b e)) (fun o ho' => ((H.old o ho').keep hk1).more hN |>.less fun b hb _ => ⟨.inl hb, hS b (.inl hb)⟩) (Nat.le_trans H.few hN)
end
section
variable {ow : Nat → Nat} {w : World} {r N : Nat} {l : List Cr} {O : List Ol}
set_option maxRecDepth 100000 in
set_option maxHeartbeats 8000000 in
theorem set_any (H : Ref ow w r N l O) {m : Nat} (hm : m < l.length) {e : Cr} (he : CrOk (fun b => ow b = 1) w N e) (hN : N ≤ 500000) :
    Calls Try.prog 35 #[.pointer (some ⟨r, 0, none⟩), .int .i64 (m : Int), .agg #[encStr e.k, .bool e.sh, .slice e.x.A e.x.n e.x.c, .slice e.a.A e.a.n e.a.c]] w fun res w' => res = .returned (.tuple #[]) ∧ ∃ ow', Ref ow' w' r N (l.set m e) O ∧ Chg ow ow' w w' := by
  obtain ⟨A, n, c, A', n', c', hb, HF, HO, hl⟩ := H.blk
  have hrl := hb.lt
  have hfew := HF.few
  have HLEN := Lib.hid HF.len
  have HFO := Lib.hid HF.own
  have HLN := Lib.hid (Nat.le_trans hfew hN)
  have HML := Lib.hid hm
  have HFIN := Lib.hid (fun (w' : World) (A1 : Option Addr) (n1 c1 : Nat) (h1 : KeepsP (fun b => b ≠ r ∧ b < w.heap.size) w w') h2 h3 => H.relist (w' := w') (A := A1) (n := n1) (c := c1) (l' := l.set m e) hb h1 h2 h3 (Nat.le_refl N))
  have HFR := Lib.hid HF
  have HOR := Lib.hid H.own
  have HEE := Lib.hid he
  clear HF HO hl hfew hN hm H he
  go_enter Try.func35, Try.ntmps35
  go_wp2_with (first
    | (refine wpList_box_blk (w := w) rfl 77 _ rfl #[encStr e.k, .bool e.sh, .slice e.x.A e.x.n e.x.c, .slice e.a.A e.a.n e.a.c] rfl ?_; intro u1 q1 g1 z1; have bo1 : Below w.heap.size w u1 := (Below.refl _ w).grown g1 (Nat.le_refl _) (by simp); have hb1 := hb.below bo1 hrl; have hc1 := hb1.cell (i := 0) rfl; have hl1 := Lib.hid ((OwnL.lst (OwnL.below HFO.out bo1) (fun _ _ => trivial))))
    | (refine wpList_append_lst0 (k := kC) (w := u1) rfl _ _ 26 77 rfl Try.underlying26 _ 72 info_kC rfl w.heap.size u1.heap.size n c A (.slice none 0 0) [] l rfl rfl (OwnL.nil _ _ _ _) hl1.out (by have := HLN.out; have := HLEN.out; simp; omega) (by omega) bo1.size ?_; intro v2 u2 o2 g2 n2; have o2 : OwnL kC 77 u2 w.heap.size v2 l := o2; obtain ⟨A2, m2, c2, rfl, hm2, -⟩ := OwnL.form2 o2; have bo2 : Below w.heap.size w u2 := bo1.grown g2 bo1.size (by simp [Value.ownBlock]); have hb2 := hb.below bo2 hrl; have q2 := q1.grown g2 (by simp [Value.ownBlock]))
    | (refine wpList_store_field (w := u2) rfl 26 _ _ rfl r 0 rfl 29 _ (.slice A2 m2 c2) rfl hb2 (by simp) (by kernel_rfl) rfl rfl ?_; intro u3 q3 g3 z3))
  obtain ⟨g, rfl, hmn⟩ := own_some o2 (by have := HML.out; omega)
  have hmn : m < m2 := by have := HML.out; omega
  have hgl : g < u2.heap.size := (OwnL.lt o2 g rfl).2
  have hwg : w.heap.size ≤ g := (OwnL.lt o2 g rfl).1
  have q3 : Blk u3 r 29 #[.slice (some ⟨g, 0, none⟩) m2 c2, .slice A' n' c'] := q3
  have o3 : OwnL kC 77 u3 w.heap.size (.slice (some ⟨g, 0, none⟩) m2 c2) l := OwnL.kept o2 g3 (.inr fun e => OwnL.ne_blk o2 hb2 (by decide) e)
  have q13 := q2.grown g3 (by intro e; injection e with e; omega)
  have K3 : KeepsP (fun b => b ≠ r ∧ b < w.heap.size) w u3 := (KeepsP.of_below bo2).trans (KeepsP.of_grown g3 (fun b e hb => by injection e with e; exact hb.1 e.symm))
  have l1 := q13.lt
  have l3 := q3.lt
  clear hb bo1 hb1 hc1 bo2 hb2 q1 q2 g1 z1 g2 n2 g3 z3 o2 hm2
  refine wp_region_bar (T := fun W => Below u3.heap.size u3 W) (s := 7) (by kernel_rfl) ?_
  change wpAnyB _ _ _ _ _ _ _ _ _ u3.drew
  have D0 : Below u3.heap.size u3 u3.drew := (Below.refl _ _).drew
  have T0 : Below u3.heap.size u3 u3.drew := D0
  refine Held.takeB (v := .pointer (some ⟨r, 0, none⟩)) 0 (some 14) [7] rfl rfl (by kernel_rfl) (by kernel_rfl) (by kernel_rfl) (by kernel_rfl) (fun _ _ _ h => h) rfl (Held.y_move rfl rfl) T0 ?_
  simp only [Act.put, Z1, Z2, Z3]
  refine Held.takeB (v := .pointer (some ⟨r, 0, none⟩)) 1 (some 15) [7] rfl rfl (by kernel_rfl) (by kernel_rfl) (by kernel_rfl) (by kernel_rfl) (fun _ _ _ h => h) rfl (Sl.y_nil rfl rfl) T0 ?_
  simp only [Act.put, Z1, Z2, Z3]
  refine Held.takeB (v := .pointer (some ⟨r, 0, none⟩)) 2 (some 16) [7] rfl rfl (by kernel_rfl) (by kernel_rfl) (by kernel_rfl) (by kernel_rfl) (fun _ _ _ h => h) rfl (Held.y_field (k := 0) (s := 0) rfl rfl Try.underlying29 rfl (by kernel_rfl) rfl) T0 ?_
  simp only [Act.put, Z1, Z2, Z3]
  refine Held.takeB (v := .slice (some ⟨g, 0, none⟩) m2 c2) 3 (some 17) [7] rfl rfl (by kernel_rfl) (by kernel_rfl) (by kernel_rfl) (by kernel_rfl) (fun _ _ _ h => h) rfl (Held.y_load rfl rfl (by kernel_rfl) (fun W hW => (q3.below hW l3).cell rfl)) T0 ?_
  simp only [Act.put, Z1, Z2, Z3]
  refine Held.takeB (v := .int .i64 (m : Int)) 4 (some 18) [7] rfl rfl (by kernel_rfl) (by kernel_rfl) (by kernel_rfl) (by kernel_rfl) (fun _ _ _ h => h) rfl (Held.y_move rfl rfl) T0 ?_
  simp only [Act.put, Z1, Z2, Z3]
  refine Held.takeB (v := .agg #[encStr e.k, .bool e.sh, .slice e.x.A e.x.n e.x.c, .slice e.a.A e.a.n e.a.c]) 5 (some 19) [7] rfl rfl (by kernel_rfl) (by kernel_rfl) (by kernel_rfl) (by kernel_rfl) (fun _ _ _ h => h) rfl (Held.y_load_blk (n := 4) rfl rfl Try.underlying77 rfl (by kernel_rfl) rfl (fun W hW => q13.below hW l1)) T0 ?_
  simp only [Act.put, Z1, Z2, Z3]
  refine Held.takeB (v := .pointer (some ⟨g, 0 + m * 4, none⟩)) 6 (some 20) [7] rfl rfl (by kernel_rfl) (by kernel_rfl) (by kernel_rfl) (by kernel_rfl) (fun _ _ _ h => h) rfl (Held.y_addr rfl rfl rfl (fun W => Rs.run_addr_of (P := Try.prog) 26 77 g 0 m2 c2 m 4 .i64 Try.underlying26 (by kernel_rfl) hmn W)) T0 ?_
  simp only [Act.put, Z1, Z2, Z3]
  refine Held.oneB 7 (by kernel_rfl) ?_
  refine op_store_ownL (k := kC) 7 none 77 w.heap.size g m2 c2 (0 + m * 4) m l e rfl rfl rfl rfl (by kernel_rfl) rfl (by show 0 + m * 4 = m * 4; omega) rfl (OwnL.below o3 D0) HML.out ?_
  intro w4 o4 g4
  refine ⟨fun h => (by cases h.symm.trans (show _ = true by kernel_rfl)), ?_⟩
  simp only [Act.put]
  refine Held.doneB (by kernel_rfl) ?_ _
  go_wp2_with fail
  go_end0
  have K4 : KeepsP (fun b => b ≠ r ∧ b < w.heap.size) w w4 := K3.trans ((KeepsP.of_below D0).trans (KeepsP.of_grown g4 (fun b e hb => by injection e with e; have := hb.2; omega)))
  have k1 : KeepsP (fun b => ow b = 1) w w4 := ⟨K4.os, K4.tape, K4.output, K4.size, fun b o hb ho => K4.block b o ⟨fun e => by have h1 : ow b = 1 := hb; have h2 := HOR.out; rw [e] at h1; omega, (Array.getElem?_eq_some_iff.1 ho).1⟩ ho⟩
  exact ⟨rfl, HFIN.out w4 _ _ _ K4 ((q3.below D0 l3).grown g4 (by intro e; injection e with e; omega)) ⟨OwnL.less o4 (Nat.zero_le _), fun b e => .inr (OwnL.lt o4 b e).1, fun e' he' => by
    rcases List.mem_or_eq_of_mem_set he' with h | rfl
    · exact ((HFR.out.ok e' h).keep k1).less fun b hb _ => .inl hb
    · exact (HEE.out.keep k1).less fun b hb _ => .inl hb, by rw [List.length_set]; exact HFR.out.few⟩⟩
end
end Go.Proofs.Ytbippmbcgkicaaa.Sto
