/-
  What comes out behind sorted records, and a dead one: each key once, with the sum of all its values; the sums of a list, key by key, in a map; what is left when keys are taken out: no program here.
  A map of numbers that the call makes, read as a list of pairs: made, looked up, stored into, its length, deleted, in a walk and in a region that draws its order.
  What the frame of a proof says of a list of records that came in.
-/
import Derived.Test.YtkiempdpfmolfaaB6
import Derived.Test.YtkiempdpfmolfaaB10
import Derived.Test.YtkiempdpfmolfaaB8
import Derived.Maps.OwnSet
import Derived.Test.YtkiempdpfmolfaaB5
import Derived.Test.YtkiempdpfmolfaaB3
import Derived.WideShapes
import Derived.ChangeArms
set_option linter.unusedVariables false
namespace Go.Proofs.Ytkiempdpfmolfaa.Cn
open Go.RowKit Rs Vm Mg Mq
def sumK : List R → Int → Int
  | [], _ => 0
  | r :: l, k => (if r.d = false ∧ r.k = k then r.v else 0) + sumK l k
def hasK (l : List R) (k : Int) : Prop := ∃ r ∈ l, r.d = false ∧ r.k = k
theorem sumK_perm {l m : List R} (h : l.Perm m) (k : Int) : sumK l k = sumK m k := by
  induction h with
  | nil => rfl
  | cons x _ ih => rw [sumK, sumK, ih]
  | swap x y l => rw [sumK, sumK, sumK, sumK]; omega
  | trans _ _ h1 h2 => rw [h1, h2]
theorem hasK_perm {l m : List R} (h : l.Perm m) (k : Int) : hasK l k ↔ hasK m k := ⟨fun ⟨r, hr, e⟩ => ⟨r, h.mem_iff.1 hr, e⟩, fun ⟨r, hr, e⟩ => ⟨r, h.mem_iff.2 hr, e⟩⟩
theorem sumK_append : ∀ (l m : List R) (k : Int), sumK (l ++ m) k = sumK l k + sumK m k
  | [], m, k => by rw [List.nil_append, sumK]; omega
  | r :: l, m, k => by rw [List.cons_append, sumK, sumK, sumK_append]; omega
theorem sumK_none : ∀ {l : List R} {k : Int}, ¬ hasK l k → sumK l k = 0
  | [], _, _ => rfl
  | r :: l, k, h => by
    rw [sumK, sumK_none (fun ⟨x, hx, e⟩ => h ⟨x, List.mem_cons_of_mem _ hx, e⟩), if_neg (fun e => h ⟨r, by simp, e⟩)]
    rfl
theorem wrap_add (a b : Int) : wrap64 (wrap64 a + b) = wrap64 (a + b) := by unfold wrap64; omega
theorem wrap_id {a : Int} (h : (Lit.int .i64 a).wf = true) : wrap64 a = a := by
  simp [Lit.wf, IntKind.min, IntKind.max, IntKind.signed, IntKind.bits] at h
  unfold wrap64
  omega
def KS : List R → Prop := List.Pairwise fun a b => b.d = false → a.d = false ∧ a.k ≤ b.k
abbrev addF : Int → Int → Int := fun a v => wrap64 (a + v)
abbrev lastG : Int → Int → Int := fun _ v => v
def live (l : List R) : List R := l.filter fun r => !r.d
theorem outs_dead : ∀ {l : List R}, (∀ r ∈ l, r.d = true) → live (outs addF lastG RD l) = [] ∧ ends addF RD l = RD
  | [], _ => ⟨rfl, rfl⟩
  | r :: l, h => by
    have hr := h r (by simp)
    obtain ⟨h1, h2⟩ := outs_dead (l := l) (fun x hx => h x (by simp [hx]))
    have e1 : nextR addF RD r = RD := by simp [nextR, goesB, bareR, hr, RD]
    have e2 : outR lastG RD r = RD := by simp [outR, goesB, finR, RD]
    rw [outs, ends, e1, e2]
    exact ⟨by rw [live, List.filter_cons]; simpa [RD, live] using h1, h2⟩
theorem ks_dead {r : R} {l : List R} (h : KS (r :: l)) (hr : r.d = true) : ∀ x ∈ l, x.d = true := fun x hx => by
  cases hd : x.d
  · have := (List.pairwise_cons.1 h).1 x hx hd
    rw [hr] at this
    cases this.1
  · rfl
theorem live_cons_dead {r : R} {l : List R} (h : r.d = true) : live (r :: l) = live l := by simp [live, h]
theorem live_cons {r : R} {l : List R} (h : r.d = false) : live (r :: l) = r :: live l := by simp [live, h]
structure Told (k0 v0 : Int) (l ys : List R) : Prop where
  rise : (ys.map (·.k)).Pairwise (· < ·)
  from_ : ∀ y ∈ ys, k0 ≤ y.k
  sum : ∀ y ∈ ys, y.v = wrap64 ((if y.k = k0 then v0 else 0) + sumK l y.k)
  keys : ∀ k, k ∈ ys.map (·.k) ↔ k = k0 ∨ hasK l k
theorem hasK_cons {r : R} {l : List R} {k : Int} : hasK (r :: l) k ↔ (r.d = false ∧ r.k = k) ∨ hasK l k := by
  constructor
  · rintro ⟨x, hx, e⟩
    rcases List.mem_cons.1 hx with rfl | hx
    · exact .inl e
    · exact .inr ⟨x, hx, e⟩
  · rintro (e | ⟨x, hx, e⟩)
    · exact ⟨r, by simp, e⟩
    · exact ⟨x, List.mem_cons_of_mem _ hx, e⟩
theorem hasK_nil {k : Int} : ¬ hasK [] k := fun ⟨_, h, _⟩ => by cases h
theorem one_told (k0 v0 : Int) (l : List R) (hl : ∀ k, ¬ hasK l k) : Told k0 v0 l [⟨false, k0, wrap64 v0, 0⟩] where
  rise := by simp
  from_ y hy := by rw [List.mem_singleton.1 hy]; exact Int.le_refl _
  sum y hy := by
    rw [List.mem_singleton.1 hy]
    dsimp only
    rw [if_pos rfl, sumK_none (hl _), Int.add_zero]
  keys k := by simp [hl k]
theorem told_any : ∀ (l : List R) (k0 v0 : Int), KS l → (∀ r ∈ l, r.d = false → k0 ≤ r.k) → (∀ r ∈ l, r.wf) → Told k0 v0 l (live (outs addF lastG ⟨false, k0, wrap64 v0, 0⟩ (l ++ [RD]))) ∧ ends addF ⟨false, k0, wrap64 v0, 0⟩ (l ++ [RD]) = RD
  | [], k0, v0, _, _, _ => by
    refine ⟨?_, rfl⟩
    exact one_told k0 v0 [] (fun k => hasK_nil)
  | r :: l, k0, v0, hs, hk, hw => by
    have hsl : KS l := (List.pairwise_cons.1 hs).2
    have hwl : ∀ x ∈ l, x.wf := fun x hx => hw x (by simp [hx])
    rw [List.cons_append, outs, ends]
    cases hd : r.d with
    | true =>
      have hall := ks_dead hs hd
      have hall2 : ∀ x ∈ l ++ [RD], x.d = true := fun x hx => by
        rcases List.mem_append.1 hx with h | h
        · exact hall x h
        · rw [List.mem_singleton.1 h]; rfl
      obtain ⟨h1, h2⟩ := outs_dead hall2
      have e1 : nextR addF ⟨false, k0, wrap64 v0, 0⟩ r = RD := by simp [nextR, goesB, bareR, hd]
      have e2 : outR lastG ⟨false, k0, wrap64 v0, 0⟩ r = ⟨false, k0, wrap64 v0, 0⟩ := by simp [outR, goesB, finR, hd]
      rw [e1, e2, live_cons rfl, h1]
      refine ⟨one_told k0 v0 _ (fun k hk => ?_), h2⟩
      rcases hasK_cons.1 hk with ⟨e, _⟩ | ⟨x, hx, e, _⟩
      · rw [hd] at e; cases e
      · rw [hall x hx] at e; cases e
    | false =>
      have hkr := hk r (by simp) hd
      by_cases he : r.k = k0
      · have e1 : nextR addF ⟨false, k0, wrap64 v0, 0⟩ r = ⟨false, k0, wrap64 (v0 + r.v), 0⟩ := by simp [nextR, goesB, joinR, hd, he, wrap_add]
        have e2 : outR lastG ⟨false, k0, wrap64 v0, 0⟩ r = RD := by simp [outR, goesB, hd, he]
        obtain ⟨h1, h2⟩ := told_any l k0 (v0 + r.v) hsl (fun x hx hdx => hk x (by simp [hx]) hdx) hwl
        rw [e1, e2, live_cons_dead rfl]
        refine ⟨⟨h1.rise, h1.from_, fun y hy => ?_, fun k => ?_⟩, h2⟩
        · rw [h1.sum y hy, sumK]
          by_cases hy0 : y.k = k0
          · rw [if_pos hy0, if_pos hy0, if_pos ⟨hd, by rw [hy0, he]⟩, ← Int.add_assoc]
          · rw [if_neg hy0, if_neg hy0, if_neg (fun e => hy0 (by rw [← e.2, he]))]
            congr 1
            omega
        · rw [h1.keys k, hasK_cons]
          constructor
          · rintro (e | e)
            · exact .inl e
            · exact .inr (.inr e)
          · rintro (e | ⟨_, e⟩ | e)
            · exact .inl e
            · exact .inl (e ▸ he)
            · exact .inr e
      · have hlt : k0 < r.k := by omega
        have hrv := wrap_id (hw r (by simp)).2.1
        have e1 : nextR addF ⟨false, k0, wrap64 v0, 0⟩ r = ⟨false, r.k, wrap64 r.v, 0⟩ := by simp [nextR, goesB, bareR, hd, he, hrv]
        have e2 : outR lastG ⟨false, k0, wrap64 v0, 0⟩ r = ⟨false, k0, wrap64 v0, 0⟩ := by simp [outR, goesB, finR, hd, he]
        obtain ⟨h1, h2⟩ := told_any l r.k r.v hsl (fun x hx hdx => ((List.pairwise_cons.1 hs).1 x hx hdx).2) hwl
        rw [e1, e2, live_cons rfl]
        have hno : ¬ hasK (r :: l) k0 := fun hh => by
          rcases hasK_cons.1 hh with ⟨_, e⟩ | ⟨x, hx, hdx, e⟩
          · exact he e
          · have := ((List.pairwise_cons.1 hs).1 x hx hdx).2
            omega
        refine ⟨⟨?_, fun y hy => ?_, fun y hy => ?_, fun k => ?_⟩, h2⟩
        · rw [List.map_cons, List.pairwise_cons]
          refine ⟨fun k hk => ?_, h1.rise⟩
          obtain ⟨y, hy, rfl⟩ := List.mem_map.1 hk
          have := h1.from_ y hy
          show k0 < y.k
          omega
        · rcases List.mem_cons.1 hy with rfl | hy
          · exact Int.le_refl _
          · have := h1.from_ y hy
            omega
        · rcases List.mem_cons.1 hy with rfl | hy
          · dsimp only
            rw [if_pos rfl, sumK_none hno, Int.add_zero]
          · have hy1 := h1.from_ y hy
            rw [h1.sum y hy, if_neg (show ¬ y.k = k0 by omega), sumK]
            congr 1
            by_cases hyr : y.k = r.k
            · rw [if_pos hyr, if_pos ⟨hd, hyr.symm⟩]
              omega
            · rw [if_neg hyr, if_neg (fun e => hyr e.2.symm)]
              omega
        · rw [List.map_cons, List.mem_cons, h1.keys k, hasK_cons]
          constructor
          · rintro (e | e | e)
            · exact .inl e
            · exact .inr (.inl ⟨hd, e.symm⟩)
            · exact .inr (.inr e)
          · rintro (e | ⟨_, e⟩ | e)
            · exact .inl e
            · exact .inr (.inl e.symm)
            · exact .inr (.inr e)
theorem told_sorted {S : List R} (hs : KS S) (hw : ∀ r ∈ S, r.wf) : ((live (outs addF lastG RD (S ++ [RD]))).map (·.k)).Pairwise (· < ·) ∧ (∀ y ∈ live (outs addF lastG RD (S ++ [RD])), y.v = wrap64 (sumK S y.k)) ∧ (∀ k, k ∈ (live (outs addF lastG RD (S ++ [RD]))).map (·.k) ↔ hasK S k) ∧ ends addF RD (S ++ [RD]) = RD := by
  cases S with
  | nil => exact ⟨by simp [live, outs, outR, goesB, finR, RD], by simp [live, outs, outR, goesB, finR, RD], fun k => by simp [live, outs, outR, goesB, finR, RD, hasK], rfl⟩
  | cons r l =>
    have hall2 := fun (hd : r.d = true) x (hx : x ∈ r :: l ++ [RD]) => (show x.d = true from by
      rcases List.mem_append.1 hx with h | h
      · rcases List.mem_cons.1 h with rfl | h
        · exact hd
        · exact ks_dead hs hd x h
      · rw [List.mem_singleton.1 h]; rfl)
    cases hd : r.d with
    | true =>
      obtain ⟨h1, h2⟩ := outs_dead (hall2 hd)
      rw [h1]
      refine ⟨.nil, fun y hy => (by cases hy), fun k => ⟨fun h => (by cases h), fun ⟨x, hx, e, _⟩ => ?_⟩, h2⟩
      rw [hall2 hd x (List.mem_append_left _ hx)] at e
      cases e
    | false =>
      have hrv := wrap_id (hw r (by simp)).2.1
      obtain ⟨h1, h2⟩ := told_any l r.k r.v (List.pairwise_cons.1 hs).2 (fun x hx hdx => ((List.pairwise_cons.1 hs).1 x hx hdx).2) (fun x hx => hw x (by simp [hx]))
      have e1 : nextR addF RD r = ⟨false, r.k, wrap64 r.v, 0⟩ := by simp [nextR, goesB, bareR, hd, RD, hrv]
      have e2 : outR lastG RD r = RD := by simp [outR, goesB, finR, RD]
      rw [List.cons_append, outs, ends, e1, e2, live_cons_dead rfl]
      refine ⟨h1.rise, fun y hy => ?_, fun k => ?_, h2⟩
      · rw [h1.sum y hy, sumK]
        congr 2
        by_cases hyr : y.k = r.k
        · rw [if_pos hyr, if_pos ⟨hd, hyr.symm⟩]
        · rw [if_neg hyr, if_neg (fun e => hyr e.2.symm)]
      · rw [h1.keys k, hasK_cons]
        constructor
        · rintro (e | e)
          · exact .inl ⟨hd, e.symm⟩
          · exact .inr e
        · rintro (⟨_, e⟩ | e)
          · exact .inl e.symm
          · exact .inr e
theorem srt_ks : ∀ {l : List R}, Srt true l → KS l
  | [], _ => .nil
  | a :: l, h => by
    refine List.pairwise_cons.2 ⟨fun b hb hd => ?_, srt_ks h.tail⟩
    have hlead := Srt.head (seq := true) h b hb
    unfold lead at hlead
    rw [if_pos rfl] at hlead
    simp only [Rc.bef, hd, Bool.not_false, Bool.true_and, Bool.or_eq_false_iff] at hlead
    refine ⟨hlead.1, ?_⟩
    have := hlead.2.1
    simp only [decide_eq_false_iff_not] at this
    omega
def totals : List R → List (Int × Int) → List (Int × Int)
  | [], M => M
  | r :: l, M => totals l (if r.d = true then M else put r.k (wrap64 (Mq.look M r.k + r.v)) M)
theorem totals_snoc : ∀ (l : List R) (r : R) (M : List (Int × Int)), totals (l ++ [r]) M = if r.d = true then totals l M else put r.k (wrap64 (Mq.look (totals l M) r.k + r.v)) (totals l M)
  | [], r, M => rfl
  | x :: l, r, M => by rw [List.cons_append, totals, totals, totals_snoc]
theorem totals_says : ∀ (l pre : List R) (M : List (Int × Int)), ((M.map (·.1)).Nodup ∧ (∀ k, Mq.look M k = wrap64 (sumK pre k)) ∧ ∀ k, k ∈ M.map (·.1) ↔ hasK pre k) →
    ((totals l M).map (·.1)).Nodup ∧ (∀ k, Mq.look (totals l M) k = wrap64 (sumK (pre ++ l) k)) ∧ ∀ k, k ∈ (totals l M).map (·.1) ↔ hasK (pre ++ l) k
  | [], pre, M, h => by rw [List.append_nil]; exact h
  | r :: l, pre, M, ⟨h1, h2, h3⟩ => by
    rw [totals, show pre ++ r :: l = (pre ++ [r]) ++ l by simp]
    refine totals_says l (pre ++ [r]) _ ?_
    have hk : ∀ k, hasK (pre ++ [r]) k ↔ hasK pre k ∨ (r.d = false ∧ r.k = k) := fun k => by
      constructor
      · rintro ⟨x, hx, e⟩
        rcases List.mem_append.1 hx with hx | hx
        · exact .inl ⟨x, hx, e⟩
        · exact .inr (List.mem_singleton.1 hx ▸ e)
      · rintro (⟨x, hx, e⟩ | e)
        · exact ⟨x, List.mem_append_left _ hx, e⟩
        · exact ⟨r, by simp, e⟩
    have hsm : ∀ k, sumK (pre ++ [r]) k = sumK pre k + (if r.d = false ∧ r.k = k then r.v else 0) := fun k => by
      rw [sumK_append, sumK, sumK]
      omega
    cases hd : r.d with
    | true =>
      rw [if_pos rfl]
      refine ⟨h1, fun k => ?_, fun k => ?_⟩
      · rw [hsm, if_neg (by rw [hd]; simp), Int.add_zero]
        exact h2 k
      · rw [hk, h3 k]
        simp [hd]
    | false =>
      rw [if_neg (by simp)]
      refine ⟨put_nodup h1, fun k => ?_, fun k => ?_⟩
      · rw [look_put, hsm]
        by_cases hkr : k = r.k
        · rw [if_pos hkr, if_pos ⟨hd, hkr.symm⟩, h2, ← hkr, wrap_add]
        · rw [if_neg hkr, if_neg (fun e => hkr e.2.symm), Int.add_zero]
          exact h2 k
      · rw [mem_put, hk, h3 k]
        constructor
        · rintro (e | e)
          · exact .inr ⟨hd, e.symm⟩
          · exact .inl e
        · rintro (e | ⟨_, e⟩)
          · exact .inr e
          · exact .inl e.symm
theorem totals_is (l : List R) : ((totals l []).map (·.1)).Nodup ∧ (∀ k, Mq.look (totals l []) k = wrap64 (sumK l k)) ∧ ∀ k, k ∈ (totals l []).map (·.1) ↔ hasK l k := by
  have := totals_says l [] [] ⟨by simp, fun k => by simp [Mq.look, sumK, wrap64], fun k => by simp [hasK]⟩
  rwa [List.nil_append] at this
def without : List R → List (Int × Int) → List (Int × Int)
  | [], M => M
  | x :: l, M => without l (if x.d = true then M else cut x.k M)
theorem without_snoc : ∀ (l : List R) (r : R) (M : List (Int × Int)), without (l ++ [r]) M = if r.d = true then without l M else cut r.k (without l M)
  | [], r, M => rfl
  | x :: l, r, M => by rw [List.cons_append, without, without, without_snoc]
theorem mem_without : ∀ (l : List R) (M : List (Int × Int)) (k : Int), k ∈ (without l M).map (·.1) ↔ k ∈ M.map (·.1) ∧ ¬ k ∈ (live l).map (·.k)
  | [], M, k => by simp [without, live]
  | x :: l, M, k => by
    rw [without, mem_without l]
    cases hd : x.d with
    | true => rw [if_pos rfl, live_cons_dead hd]
    | false =>
      rw [if_neg (by simp), live_cons hd, mem_cut, List.map_cons, List.mem_cons]
      constructor
      · rintro ⟨⟨h1, h2⟩, h3⟩
        exact ⟨h1, fun e => e.elim h2 h3⟩
      · rintro ⟨h1, h2⟩
        exact ⟨⟨h1, fun e => h2 (.inl e)⟩, fun e => h2 (.inr e)⟩
theorem look_without : ∀ (l : List R) (M : List (Int × Int)) (k : Int), ¬ k ∈ (live l).map (·.k) → Mq.look (without l M) k = Mq.look M k
  | [], M, k, _ => rfl
  | x :: l, M, k, h => by
    rw [without]
    cases hd : x.d with
    | true =>
      rw [live_cons_dead hd] at h
      rw [if_pos rfl]
      exact look_without l M k h
    | false =>
      rw [live_cons hd, List.map_cons, List.mem_cons] at h
      rw [if_neg (by simp), look_without l _ k (fun e => h (.inr e)), look_cut, if_neg (fun e => h (.inl e))]
theorem sums_out {rs S : List R} (hp : S.Perm rs) (hs : KS S) (hw : ∀ r ∈ S, r.wf) :
    (∀ j, j < (outs addF lastG RD (S ++ [RD])).length → ((outs addF lastG RD (S ++ [RD])).getD j R0).d = false → ((outs addF lastG RD (S ++ [RD])).getD j R0).k ∈ (without ((outs addF lastG RD (S ++ [RD])).take j) (totals rs [])).map (·.1) ∧ Mq.look (without ((outs addF lastG RD (S ++ [RD])).take j) (totals rs [])) ((outs addF lastG RD (S ++ [RD])).getD j R0).k = ((outs addF lastG RD (S ++ [RD])).getD j R0).v) ∧
    without (outs addF lastG RD (S ++ [RD])) (totals rs []) = [] ∧ ends addF RD (S ++ [RD]) = RD := by
  obtain ⟨t1, t2, t3, t4⟩ := told_sorted hs hw
  obtain ⟨m1, m2, m3⟩ := totals_is rs
  generalize outs addF lastG RD (S ++ [RD]) = xs at t1 t2 t3 ⊢
  refine ⟨fun j hj hd => ?_, ?_, t4⟩
  · have hx : xs = xs.take j ++ xs.getD j R0 :: xs.drop (j + 1) := by
      rw [List.getD_eq_getElem?_getD, List.getElem?_eq_getElem hj]
      simp
    generalize xs.getD j R0 = x at hd hx ⊢
    have hm : x ∈ live xs := by
      rw [hx]
      simp [live, hd]
    have hno : ¬ x.k ∈ (live (xs.take j)).map (·.k) := fun hh => by
      rw [hx] at t1
      have e : live (xs.take j ++ x :: xs.drop (j + 1)) = live (xs.take j) ++ x :: live (xs.drop (j + 1)) := by simp [live, hd]
      rw [e, List.map_append, List.map_cons, List.pairwise_append] at t1
      have := t1.2.2 _ hh x.k (by simp)
      omega
    have hin : x.k ∈ (live xs).map (·.k) := List.mem_map.2 ⟨x, hm, rfl⟩
    refine ⟨(mem_without _ _ _).2 ⟨(m3 _).2 ((hasK_perm hp _).1 ((t3 _).1 hin)), hno⟩, ?_⟩
    rw [look_without _ _ _ hno, m2, t2 x hm, sumK_perm hp]
  · have h0 : (without xs (totals rs [])).map (·.1) = [] := by
      apply List.eq_nil_iff_forall_not_mem.2
      intro k hk
      obtain ⟨h1, h2⟩ := (mem_without _ _ _).1 hk
      exact h2 ((t3 k).2 ((hasK_perm hp k).2 ((m3 k).1 h1)))
    exact List.map_eq_nil_iff.1 h0
end Go.Proofs.Ytkiempdpfmolfaa.Cn
namespace Go.Proofs.Ytkiempdpfmolfaa.Mq
open Go.RowKit Go.Shelf Go.Proofs.Ytkiempdpfmolfaa Mem Held
open Go.Maps (Keyed int_keyed keyOf_int_mk)
def Mp (P : Program) (K : TypeId) (w : World) (b n : Nat) (M : List (Int × Int)) : Prop :=
  ∃ D : DataW Unit, w.ownsMap P K (plainElem P K) b n D ∧ (M.map (·.1)).Nodup ∧ (∀ x, Maps.has D (.int .i64 x) = decide (x ∈ M.map (·.1))) ∧ (∀ x, D.atKey (.int .i64 x) (.lit (.int .i64 0)) = .lit (.int .i64 (look M x))) ∧ Maps.size D = M.length
section
variable {P : Program} {K T : TypeId} {w w' : World} {b n : Nat} {M : List (Int × Int)}
theorem Mp.made (w : World) (P : Program) (K : TypeId) : Mp P K (w.alloc (.map #[] 0)) w.heap.size 0 [] :=
  ⟨.map [], World.ownsMap_made _ _ _ _, by simp, fun x => by simp [Maps.has], fun x => by rfl, rfl⟩
theorem Mp.lt (h : Mp P K w b n M) : b < w.heap.size := by
  obtain ⟨D, h, _⟩ := h
  exact h.lt
theorem Mp.kept {row : Option Nat} (h : Mp P K w b n M) (hg : w.grownBy w' row) (hne : some b ≠ row) : Mp P K w' b n M := by
  obtain ⟨D, h, r⟩ := h
  exact ⟨D, h.kept hg hne, r⟩
theorem Mp.below (h : Mp P K w b n M) (hb : Below w.heap.size w w') : Mp P K w' b n M := h.kept (grown_of_below hb none) (by simp)
theorem Mp.look (hK : P.underlying K = some (.int .i64)) (hT : P.underlying T = some (.map K K)) (hz : ∀ w, (zeroValue K).run P w = .ok (.int .i64 0) w) (h : Mp P K w b n M) {x : Int} (hx : (Lit.int .i64 x).wf = true) :
    (Instr.lookup T (.map (some b)) (.int .i64 x) false).run P w = .ok (.int .i64 (look M x)) w := by
  obtain ⟨D, h, _, _, hat, _⟩ := h
  obtain ⟨c, hrun, hc, _⟩ := h.lookup_int (int_keyed hK) hT hK (hz w) (keyOf_int_mk hK hx)
  rw [hat x] at hc
  injection hc with hc
  injection hc with _ hc
  rw [hc]
  exact hrun
theorem Mp.look_ok (hK : P.underlying K = some (.int .i64)) (hT : P.underlying T = some (.map K K)) (hz : ∀ w, (zeroValue K).run P w = .ok (.int .i64 0) w) (h : Mp P K w b n M) {x : Int} (hx : (Lit.int .i64 x).wf = true) :
    (Instr.lookup T (.map (some b)) (.int .i64 x) true).run P w = .ok (.tuple #[.int .i64 (Mq.look M x), .bool (decide (x ∈ M.map (·.1)))]) w := by
  obtain ⟨D, h, _, hh, hat, _⟩ := h
  obtain ⟨v, ps, hrun, hv⟩ := h.look_ok (int_keyed hK) hT (hz w) (plainElem_int hK (by decide)) (keyOf_int_mk hK hx)
  obtain ⟨c, rfl, hc, _⟩ := plainElem_int_inv hK hv
  have hc := congrArg Prod.fst hc
  dsimp only at hc
  rw [hat x] at hc
  injection hc with hc
  injection hc with _ hc
  rw [hc, ← hh x]
  exact hrun
theorem Mp.len (hT : P.underlying T = some (.map K K)) (h : Mp P K w b n M) (ty : TypeId) : (Builtin.len_ #[T] ty #[.map (some b)]).run P w = .ok (.int .i64 (M.length : Int)) w := by
  obtain ⟨D, h, _, _, _, hs⟩ := h
  rw [← hs]
  exact h.len hT ty
theorem Mp.store (hK : P.underlying K = some (.int .i64)) (hT : P.underlying T = some (.map K K)) (h : Mp P K w b n M) (hn : n ≤ 1000) {x v : Int} (hx : (Lit.int .i64 x).wf = true) (hv : (Lit.int .i64 v).wf = true) :
    ∃ w', (Instr.mapUpdate T (.map (some b)) (.int .i64 x) (.int .i64 v)).run P w = .ok () w' ∧ Mp P K w' b (n + 1) (put x v M) ∧ w.grownBy w' (some b) := by
  obtain ⟨D, h, hd, hh, hat, hs⟩ := h
  have hti := h.tidy (int_keyed hK)
  obtain ⟨w', hrun, h2, hg⟩ := h.update (int_keyed hK) hT (by unfold maxLen; omega) (keyOf_int_mk hK hx) (plainElem_int hK hv)
  have hk : Go.WideAt.IsKeyLit (.int .i64 x) := trivial
  refine ⟨w', hrun, ⟨_, h2, put_nodup hd, fun y => ?_, fun y => ?_, ?_⟩, hg⟩
  · by_cases hy : y = x
    · subst hy
      rw [Maps.has_put_same hti.isMap hk]
      exact (decide_eq_true (mem_put.2 (.inl rfl))).symm
    · rw [Maps.has_put_other (by intro e; injection e with _ e; exact hy e), hh y]
      exact decide_eq_decide.2 ⟨fun e => mem_put.2 (.inr e), fun e => (mem_put.1 e).resolve_left hy⟩
  · rw [look_put]
    by_cases hy : y = x
    · subst hy
      rw [Maps.atKey_put_same hti.isMap hk, if_pos rfl]
    · rw [Maps.atKey_put_other (by intro e; injection e with _ e; exact hy e), hat y, if_neg hy]
  · have hl : (put x v M).length = ((put x v M).map (·.1)).length := by rw [List.length_map]
    rw [Maps.size_put hti, hh x, hs, hl, put_keys]
    by_cases hm : x ∈ M.map (·.1)
    · rw [if_pos hm, decide_eq_true hm, if_pos rfl, List.length_map]
    · rw [if_neg hm, decide_eq_false hm, if_neg (by simp), List.length_append, List.length_map, List.length_singleton]
end
section
variable {P : Program} {S : World → Prop} {ρ : Operand → Value} {o : Oper} {K T : TypeId} {b n : Nat} {M : List (Int × Int)}
theorem y_look_ok {m x : Operand} {k : Int} (ho : o.op = .lookup T m x true) (hm : ρ m = .map (some b)) (hx : ρ x = .int .i64 k) (hk : (Lit.int .i64 k).wf = true) (hK : P.underlying K = some (.int .i64)) (hT : P.underlying T = some (.map K K)) (hz : ∀ w, (zeroValue K).run P w = .ok (.int .i64 0) w) (h : ∀ w, S w → Mp P K w b n M) :
    ∀ w, S w → (execOp ρ o).run P w = .ok (.value (.tuple #[.int .i64 (look M k), .bool (decide (k ∈ M.map (·.1)))])) w := fun w hw => by
  have hrun := (h w hw).look_ok hK hT hz hk
  simp [execOp, ho, hm, hx, hrun, Result.andThen]
theorem y_look_hit {m x : Operand} {k v : Int} (ho : o.op = .lookup T m x true) (hm : ρ m = .map (some b)) (hx : ρ x = .int .i64 k) (hk : (Lit.int .i64 k).wf = true) (hK : P.underlying K = some (.int .i64)) (hT : P.underlying T = some (.map K K)) (hz : ∀ w, (zeroValue K).run P w = .ok (.int .i64 0) w) (h : ∀ w, S w → Mp P K w b n M) (hin : k ∈ M.map (·.1)) (hv : look M k = v) :
    ∀ w, S w → (execOp ρ o).run P w = .ok (.value (.tuple #[.int .i64 v, .bool true])) w := by
  have := y_look_ok ho hm hx hk hK hT hz h
  rw [decide_eq_true hin, hv] at this
  exact this
theorem y_lenm {x : Operand} (ho : o.op = .call { callee := .builtin .len, args := #[x], argTypes := #[T] }) (hx : ρ x = .map (some b)) (hT : P.underlying T = some (.map K K)) (h : ∀ w, S w → Mp P K w b n M) :
    ∀ w, S w → (execOp ρ o).run P w = .ok (.value (.int .i64 (M.length : Int))) w := fun w hw => by
  have hrun := (h w hw).len hT o.type
  simp [execOp, ho, resolve, invoke, builtin, hx, hrun, Result.andThen]
variable {ops : Array Oper} {rest : List Oper} {a : Act} {w : World} {Q : Exit → Act → World → Prop}
theorem op_look (i : Nat) (d : Option Tmp) {K' : Act → World → Prop} {m x : Operand} (k : Int) (hi : ops[i]? = some o) (hd : o.dst = d) (hw : Region.wanted o (yielded ops a.tmps) = true)
    (ho : o.op = .lookup T m x false) (hm : a.eval m = .map (some b)) (hx : a.eval x = .int .i64 k) (hk : (Lit.int .i64 k).wf = true) (hK : P.underlying K = some (.int .i64)) (hT : P.underlying T = some (.map K K)) (hz : ∀ w, (zeroValue K).run P w = .ok (.int .i64 0) w) (hM : Mp P K w b n M)
    (h : K' (a.put d (.int .i64 (look M k))) w) : wpOp P ops Q i K' a w := by
  subst hd
  have hrun := hM.look hK hT hz hk
  refine op_wp i hi hw ?_
  unfold Oper.wp
  simp [execOp, ho, hm, hx, hrun, Result.andThen]
  exact h
theorem op_mapUpdate (i : Nat) (d : Option Tmp) {K' : Act → World → Prop} {m x y : Operand} (k v : Int) (hi : ops[i]? = some o) (hd : o.dst = d) (hw : Region.wanted o (yielded ops a.tmps) = true)
    (ho : o.op = .mapUpdate T m x y) (hm : a.eval m = .map (some b)) (hx : a.eval x = .int .i64 k) (hy : a.eval y = .int .i64 v) (hk : (Lit.int .i64 k).wf = true) (hv : (Lit.int .i64 v).wf = true) (hK : P.underlying K = some (.int .i64)) (hT : P.underlying T = some (.map K K)) (hM : Mp P K w b n M) (hn : n ≤ 1000)
    (h : ∀ w', Mp P K w' b (n + 1) (put k v M) → w.grownBy w' (some b) → K' (a.put d undef) w') : wpOp P ops Q i K' a w := by
  subst hd
  obtain ⟨w', hrun, h1, h2⟩ := hM.store hK hT hn hk hv
  refine op_wp i hi hw ?_
  unfold Oper.wp
  simp [execOp, ho, hm, hx, hy, hrun, Result.andThen]
  exact h w' h1 h2
theorem wpList_makeMap_mp (hw : Region.wanted o (yielded ops a.tmps) = true) (T K : TypeId) (ho : o.op = .makeMap T none) (hT : P.underlying T = some (.map K K))
    (h : ∀ w', Mp P K w' w.heap.size 0 [] → w.grownBy w' none → Hid (w'.heap.size = w.heap.size + 1) → wpList P ops Q rest (a.put o.dst (.map (some w.heap.size))) w') : wpList P ops Q (o :: rest) a w := by
  have hrun := run_makeMap (P := P) T w
  refine wpList_step fun _ hK' => ?_
  rw [if_pos hw]
  unfold Oper.wp
  simp [execOp, ho, hrun, Result.andThen]
  exact hK' _ _ (h _ (Mp.made w P K) (World.grownBy_alloc w _ none) (Lib.hid (by simp)))
end
section
variable {P : Program} {K T : TypeId} {w : World} {b n : Nat} {M : List (Int × Int)}
theorem Mp.del (hK : P.underlying K = some (.int .i64)) (hT : P.underlying T = some (.map K K)) (h : Mp P K w b n M) {x : Int} (hx : (Lit.int .i64 x).wf = true) (ty : TypeId) :
    ∃ w', (Builtin.delete_ #[T, K] ty #[.map (some b), .int .i64 x]).run P w = .ok (.tuple #[]) w' ∧ Mp P K w' b n (cut x M) ∧ w.grownBy w' (some b) := by
  obtain ⟨D, h, hd, hh, hat, hs⟩ := h
  have hti := h.tidy (int_keyed hK)
  obtain ⟨w', hrun, h2, hg⟩ := h.drop (int_keyed hK) hT (keyOf_int_mk hK hx) ty
  refine ⟨w', hrun, ⟨_, h2, cut_nodup hd, fun y => ?_, fun y => ?_, ?_⟩, hg.grown⟩
  · by_cases hy : y = x
    · subst hy
      rw [Maps.has_del_same]
      exact (decide_eq_false (fun e => (mem_cut.1 e).2 rfl)).symm
    · rw [Maps.has_del_other (by intro e; injection e with _ e; exact hy e), hh y]
      exact decide_eq_decide.2 ⟨fun e => mem_cut.2 ⟨e, hy⟩, fun e => (mem_cut.1 e).1⟩
  · rw [look_cut]
    by_cases hy : y = x
    · subst hy
      rw [Maps.atKey_del_same, if_pos rfl]
    · rw [Maps.atKey_del_other (by intro e; injection e with _ e; exact hy e), hat y, if_neg hy]
  · have h1 := Maps.size_del (k := .int .i64 x) hti
    have h2 := cut_length (k := x) hd
    rw [hh x, hs] at h1
    by_cases hm : x ∈ M.map (·.1)
    · rw [decide_eq_true hm, if_pos rfl] at h1
      rw [if_pos hm] at h2
      omega
    · rw [decide_eq_false hm, if_neg (by simp)] at h1
      rw [if_neg hm] at h2
      omega
variable {ops : Array Oper} {rest : List Oper} {o : Oper} {a : Act} {Q : Exit → Act → World → Prop}
theorem wpList_delete_mp (hw : Region.wanted o (yielded ops a.tmps) = true) (m x : Operand) (T K : TypeId) (k : Int) (ho : o.op = .call { callee := .builtin .delete, args := #[m, x], argTypes := #[T, K] }) (b n : Nat) (M : List (Int × Int)) (hm : a.eval m = .map (some b)) (hx : a.eval x = .int .i64 k) (hk : (Lit.int .i64 k).wf = true) (hK : P.underlying K = some (.int .i64)) (hT : P.underlying T = some (.map K K)) (hM : Mp P K w b n M)
    (h : ∀ w', Mp P K w' b n (cut k M) → w.grownBy w' (some b) → wpList P ops Q rest (a.put o.dst (.tuple #[])) w') : wpList P ops Q (o :: rest) a w := by
  obtain ⟨w', hrun, h1, h2⟩ := hM.del hK hT hk o.type
  refine wpList_step fun _ hK' => ?_
  rw [if_pos hw]
  unfold Oper.wp
  simp [execOp, ho, resolve, invoke, builtin, hm, hx, hrun, Result.andThen]
  exact hK' _ _ (h w' h1 h2)
end
end Go.Proofs.Ytkiempdpfmolfaa.Mq
namespace Go.Proofs.Ytkiempdpfmolfaa.Rs
open Go.RowKit Go.ChangeShapes Go.WideShapes Mem Rc
theorem cells_four {w : World} {base : Nat} {a : Addr} {cs : List Value} (h : w.cells? base a 4 = some cs) : cs.length = 4 ∧ ∀ j, j < 4 → w.cell? (a.add j) = cs[j]? := by
  obtain ⟨h1, h2, h3⟩ := World.cells?_some h
  exact ⟨h2, h3⟩
section
variable {H : Type} {enc : TypeId × Value → H} {w : World} {base : Nat} {held : Bool}
theorem open_one {n : Nat} {cs : List Value} {x : DataW H × List MemPlace} (h : DataW.trod enc Try.prog w base (fun _ => true) held n 26 cs = some x) : ∃ r : R, cs = r.cells ∧ r.wf := by
  obtain ⟨f0, f1, f2, f3, hu, ⟨o0, t0⟩, ⟨o1, t1⟩, ⟨o2, t2⟩, ⟨o3, t3⟩⟩ := rec_fields
  obtain ⟨xs, m, _, _, hl, hxl, hel⟩ := DataW.trod_struct hu h
  have cb : Try.prog.cellsOf 4 = 1 := by kernel_rfl
  have ci : Try.prog.cellsOf 2 = 1 := by kernel_rfl
  have c4 : Try.prog.cellsOf 26 = 4 := by kernel_rfl
  rw [c4] at hl
  have hx4 : xs.length = 4 := hxl
  have e0 := hel 0 f0 rfl
  have e1 := hel 1 f1 rfl
  have e2 := hel 2 f2 rfl
  have e3 := hel 3 f3 rfl
  rw [o0, t0, cb] at e0
  rw [o1, t1, ci] at e1
  rw [o2, t2, ci] at e2
  rw [o3, t3, ci] at e3
  obtain ⟨z0, q0⟩ := field_bool (by omega) Try.underlying4 e0 (by simp [hx4])
  obtain ⟨z1, q1, w1⟩ := field_int (by omega) Try.underlying2 e1 (by simp [hx4])
  obtain ⟨z2, q2, w2⟩ := field_int (by omega) Try.underlying2 e2 (by simp [hx4])
  obtain ⟨z3, q3, w3⟩ := field_int (by omega) Try.underlying2 e3 (by simp [hx4])
  refine ⟨⟨z0, z1, z2, z3⟩, ?_, w1, w2, w3⟩
  apply List.ext_getElem?
  intro i
  match i with
  | 0 => exact q0
  | 1 => exact q1
  | 2 => exact q2
  | 3 => exact q3
  | i + 4 => rw [List.getElem?_eq_none (by omega), List.getElem?_eq_none (by simp [R.cells])]
set_option maxRecDepth 100000 in
theorem open_recs {A : Option Addr} {m c : Nat} {d : DataW H} {p : List MemPlace} (h : DataW.Trod enc Try.prog w base (fun _ => true) held 27 (.slice A m c) d p) : ∃ rs, Recs w w.heap.size A m rs ∧ m ≤ c ∧ c ≤ maxLen := by
  obtain ⟨fuel, hf⟩ := h
  simp only [Value.cells] at hf
  rcases DataW.trod_slice Try.underlying27 hf with ⟨hcs, _⟩ | ⟨a, len, cap, elems, rest, n, _, hcs, _, hb, hl, hm, hlen, hel, _, _⟩
  · simp at hcs
    obtain ⟨rfl, rfl, rfl⟩ := hcs
    exact ⟨[], Recs.nil _ _ _, Nat.le_refl _, by simp [maxLen]⟩
  · simp at hcs
    obtain ⟨rfl, rfl, rfl⟩ := hcs
    have c4 : Try.prog.cellsOf 26 = 4 := by kernel_rfl
    have each : ∀ i, i < m → ∃ r : R, r.wf ∧ ∀ j, j < 4 → w.cell? ((a.add (i * 4)).add j) = r.cells[j]? := fun i hi => by
      have hi' : i < elems.length := by rw [hlen]; exact hi
      have e := hel i hi
      rw [c4, List.getElem?_eq_getElem hi', Option.bind_eq_some_iff] at e
      obtain ⟨cs, hc, ht⟩ := e
      obtain ⟨r, rfl, hw⟩ := open_one ht
      exact ⟨r, hw, (cells_four hc).2⟩
    have hch : ∃ F : Nat → R, ∀ i, i < m → (F i).wf ∧ ∀ j, j < 4 → w.cell? ((a.add (i * 4)).add j) = (F i).cells[j]? :=
      ⟨fun i => if h : i < m then Classical.choose (each i h) else R0, fun i hi => by
        have := Classical.choose_spec (each i hi)
        simp only [hi, dif_pos]
        exact this⟩
    obtain ⟨F, hF⟩ := hch
    refine ⟨(List.range m).map F, ⟨by simp, fun r hr => ?_, fun h0 => ?_⟩, hl, hm⟩
    · obtain ⟨i, hi, rfl⟩ := List.mem_map.1 hr
      exact (hF i (List.mem_range.1 hi)).1
    · have h00 := (hF 0 h0).2 0 (by omega)
      have hsome : ∃ u, w.cell? (a.add 0) = some u := ⟨_, by simpa [R.cells, Addr.add] using h00⟩
      obtain ⟨u, hu⟩ := hsome
      obtain ⟨b, off, spot⟩ := a
      have hspot : spot = none := by simpa [Addr.add] using World.cell?_spot hu
      subst hspot
      have hlt : b < w.heap.size := by simpa [Addr.add] using World.block_lt_of_cell? w _ hu
      have ea : ∀ o j : Nat, (Addr.mk b o none).add j = ⟨b, o + j, none⟩ := fun o j => by unfold Addr.add; split <;> simp_all
      refine ⟨b, off, rfl, hlt, fun q v hv => ?_⟩
      have hq := (List.getElem?_eq_some_iff.1 hv).1
      rw [flat_length] at hq
      simp only [List.length_map, List.length_range] at hq
      have hv' := hv
      rw [show q = q / 4 * 4 + q % 4 by omega, flat_at _ (q / 4) (q % 4) (by omega) (by simp; omega)] at hv'
      have hg : ((List.range m).map F).getD (q / 4) R0 = F (q / 4) := by
        rw [List.getD_eq_getElem?_getD, List.getElem?_map, List.getElem?_range (by omega)]
        rfl
      rw [hg, ← (hF (q / 4) (by omega)).2 (q % 4) (by omega), ea, ea, Nat.add_assoc, show q / 4 * 4 + q % 4 = q by omega] at hv'
      exact hv'
end
end Go.Proofs.Ytkiempdpfmolfaa.Rs
