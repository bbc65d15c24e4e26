/-
  Blocks that are sorted, and then split pair by pair, round by round, as a network says that sorts numbers, are sorted, block behind block: a block of each pair may be picked, backwards, that has a record behind c, or none.
  The library's slices.Concat of two lists of records, by its contract.
  Package merge's Split and Sorted by their contracts.
  A list of lists of records that a call owns, and each of whose lists it owns: read, appended to, one of them exchanged.
  A range over a function whose iterator makes what it hands out, and whose body may leave early; it may itself stand in an iterator, whose own yield its body calls: what the iterator is told of the rounds, counted, and what the loop owes; Tl: the kinds of the blocks that are handed out.
  Values of one key, folded along, as plain functions: what comes out in the place of each record, and what is carried on: no program here.
-/
import Derived.Test.YtlinmcgmkpkpaaaDoorB7
import Derived.Test.YtlinmcgmkpkpaaaDoorB10
import Derived.Test.YtlinmcgmkpkpaaaDoorB2
import Derived.Test.YtlinmcgmkpkpaaaDoorB1
import Derived.RangeFuncWrites
import Derived.Test.YtlinmcgmkpkpaaaDoorB6
set_option linter.unusedVariables false
namespace Go.Proofs.YtlinmcgmkpkpaaaDoor.Mg
open Rc Rs
section
variable (seq : Bool)
theorem srt_pair : ∀ (l : List R), Srt seq l ↔ l.Pairwise (fun a b => lead seq b a = false)
  | [] => ⟨fun _ => List.Pairwise.nil, fun _ => trivial⟩
  | a :: l => by
    have ih := srt_pair l
    rw [List.pairwise_cons, ← ih]
    constructor
    · intro h
      exact ⟨fun x hx => h.head seq x hx, h.tail⟩
    · rintro ⟨h1, h2⟩
      cases l with
      | nil => trivial
      | cons b l => exact ⟨h1 b (by simp), h2⟩
theorem both_sides (c : R) (X : List R) : X.countP (lead seq c) + X.countP (fun x => !lead seq c x) = X.length := by
  induction X with
  | nil => rfl
  | cons x X ih =>
    rw [List.countP_cons, List.countP_cons, List.length_cons]
    cases lead seq c x <;> simp <;> omega
theorem has_one {c : R} {X : List R} (h : 0 < X.countP (lead seq c)) : ∃ x ∈ X, lead seq c x = decide ((1 : Int) = 1) := by
  obtain ⟨x, hx, h⟩ := List.countP_pos_iff.1 h
  exact ⟨x, hx, by rw [h]; rfl⟩
theorem has_zero {c : R} {X : List R} (h : 0 < X.countP (fun x => !lead seq c x)) : ∃ x ∈ X, lead seq c x = decide ((0 : Int) = 1) := by
  obtain ⟨x, hx, h⟩ := List.countP_pos_iff.1 h
  exact ⟨x, hx, by simpa using h⟩
theorem pick_back (c : R) {A B : List R} {s : Nat} (hs : 0 < s) (hA : A.length = s) (hB : B.length = s) {l h : Int} (hl : l = 0 ∨ l = 1) (hh : h = 0 ∨ h = 1)
    (e1 : ∃ x ∈ (sortR seq (A ++ B)).take s, lead seq c x = decide (l = 1)) (e2 : ∃ x ∈ (sortR seq (A ++ B)).drop s, lead seq c x = decide (h = 1)) :
    l ≤ h ∧ ∃ p q : Int, (∃ x ∈ A, lead seq c x = decide (p = 1)) ∧ (∃ x ∈ B, lead seq c x = decide (q = 1)) ∧ ((p = l ∧ q = h) ∨ (p = h ∧ q = l)) := by
  have hm : (sortR seq (A ++ B)).length = s + s := by rw [sortR_length, List.length_append, hA, hB]
  have hS := sortR_sorts seq (A ++ B)
  have c1 := (sortR_perm seq (A ++ B)).countP_eq (lead seq c)
  have c0 := (sortR_perm seq (A ++ B)).countP_eq (fun x => !lead seq c x)
  generalize sortR seq (A ++ B) = m at *
  rw [List.countP_append] at c1 c0
  rw [← List.take_append_drop s m, List.countP_append] at c1 c0
  have low : ∀ x ∈ m.take s, ∀ y ∈ m.drop s, lead seq c x = true → lead seq c y = true := fun x hx y hy h => by
    obtain ⟨i, hi, rfl⟩ := List.mem_iff_getElem.1 hx
    obtain ⟨j, hj, rfl⟩ := List.mem_iff_getElem.1 hy
    rw [List.length_take] at hi
    rw [List.length_drop] at hj
    have := Srt.two seq hS (i := i) (j := s + j) (by omega) (by omega)
    rw [List.getD_eq_getElem?_getD, List.getD_eq_getElem?_getD, List.getElem?_eq_getElem (by omega), List.getElem?_eq_getElem (by omega)] at this
    simp only [Option.getD_some] at this
    rw [List.getElem_take] at h
    rw [List.getElem_drop]
    exact lead_of seq h this
  have lt : (m.take s).length = s := by rw [List.length_take]; omega
  have ld : (m.drop s).length = s := by rw [List.length_drop]; omega
  have bA := both_sides seq c A
  have bB := both_sides seq c B
  have bt := both_sides seq c (m.take s)
  have bd := both_sides seq c (m.drop s)
  obtain ⟨x, hx, ex⟩ := e1
  obtain ⟨y, hy, ey⟩ := e2
  rcases hl with rfl | rfl <;> rcases hh with rfl | rfl
  · have ey : lead seq c y = false := ey
    have z1 : (m.take s).countP (lead seq c) = 0 := by
      rw [List.countP_eq_zero]
      intro u hu hu1
      rw [low u hu y hy hu1] at ey
      cases ey
    have z2 : 0 < (m.drop s).countP (fun x => !lead seq c x) := List.countP_pos_iff.2 ⟨y, hy, by simp [ey]⟩
    exact ⟨by omega, 0, 0, has_zero seq (by omega), has_zero seq (by omega), .inl ⟨rfl, rfl⟩⟩
  · have z1 : 0 < (m.take s).countP (fun x => !lead seq c x) := List.countP_pos_iff.2 ⟨x, hx, by simpa using ex⟩
    have z2 : 0 < (m.drop s).countP (lead seq c) := List.countP_pos_iff.2 ⟨y, hy, by simpa using ey⟩
    refine ⟨by omega, ?_⟩
    by_cases hk : 0 < A.countP (lead seq c) ∧ 0 < B.countP (fun x => !lead seq c x)
    · exact ⟨1, 0, has_one seq hk.1, has_zero seq hk.2, .inr ⟨rfl, rfl⟩⟩
    · exact ⟨0, 1, has_zero seq (by omega), has_one seq (by omega), .inl ⟨rfl, rfl⟩⟩
  · have ex : lead seq c x = true := by simpa using ex
    have ey : lead seq c y = false := ey
    rw [low x hx y hy ex] at ey
    cases ey
  · have ex : lead seq c x = true := by simpa using ex
    have z1 : (m.drop s).countP (fun x => !lead seq c x) = 0 := by
      rw [List.countP_eq_zero]
      intro u hu hu1
      rw [low x hx u hu ex] at hu1
      cases hu1
    have z2 : 0 < (m.take s).countP (lead seq c) := List.countP_pos_iff.2 ⟨x, hx, ex⟩
    exact ⟨by omega, 1, 1, has_one seq (by omega), has_one seq (by omega), .inl ⟨rfl, rfl⟩⟩
def blk (bs : List (List R)) (a : Nat) : List R := bs.getD a []
def lowB (bs : List (List R)) (a d : Nat) : List R := (sortR seq (blk bs a ++ blk bs (a + d))).take (blk bs a).length
def highB (bs : List (List R)) (a d : Nat) : List R := (sortR seq (blk bs a ++ blk bs (a + d))).drop (blk bs a).length
def splitB (d : Nat) (up : Nat → Bool) (bs : List (List R)) (a : Nat) : List (List R) := (bs.set a (if up a then lowB seq bs a d else highB seq bs a d)).set (a + d) (if up a then highB seq bs a d else lowB seq bs a d)
theorem splitB_length (d : Nat) (up : Nat → Bool) (bs : List (List R)) (a : Nat) : (splitB seq d up bs a).length = bs.length := by simp [splitB]
def Even (s : Nat) (bs : List (List R)) : Prop := ∀ x ∈ bs, x.length = s ∧ Srt seq x
theorem blk_mem {bs : List (List R)} {a : Nat} (h : a < bs.length) : blk bs a ∈ bs := by
  unfold blk
  rw [List.getD_eq_getElem?_getD, List.getElem?_eq_getElem h]
  exact List.getElem_mem h
theorem mem_sets {α : Type} {l : List α} {i j : Nat} {u v x : α} (h : x ∈ (l.set i u).set j v) : x = v ∨ x = u ∨ x ∈ l := by
  rcases List.mem_or_eq_of_mem_set h with h | h
  · rcases List.mem_or_eq_of_mem_set h with h | h
    · exact .inr (.inr h)
    · exact .inr (.inl h)
  · exact .inl h
theorem Even.split {s d : Nat} {up : Nat → Bool} {bs : List (List R)} {a : Nat} (h : Even seq s bs) (ha : a + d < bs.length) : Even seq s (splitB seq d up bs a) := by
  have hA := (h _ (blk_mem (by omega : a < bs.length))).1
  have hB := (h _ (blk_mem ha)).1
  have hlo : (lowB seq bs a d).length = s ∧ Srt seq (lowB seq bs a d) := by
    refine ⟨?_, (sortR_sorts seq _).take seq _⟩
    unfold lowB
    rw [List.length_take, sortR_length, List.length_append]; omega
  have hhi : (highB seq bs a d).length = s ∧ Srt seq (highB seq bs a d) := by
    refine ⟨?_, (sortR_sorts seq _).drop seq _⟩
    unfold highB
    rw [List.length_drop, sortR_length, List.length_append]; omega
  intro x hx
  rcases mem_sets hx with rfl | rfl | hx
  · split
    · exact hhi
    · exact hlo
  · split
    · exact hlo
    · exact hhi
  · exact h x hx
def Cmp (c : R) (bs : List (List R)) (v : List Int) : Prop := v.length = bs.length ∧ ∀ b, b < bs.length → (v.getD b 0 = 0 ∨ v.getD b 0 = 1) ∧ ∃ x ∈ blk bs b, lead seq c x = decide (v.getD b 0 = 1)
theorem getD_set {α : Type} {l : List α} {i j : Nat} {u z : α} (hi : i < l.length) : (l.set i u).getD j z = if i = j then u else l.getD j z := by
  rw [List.getD_eq_getElem?_getD, List.getElem?_set]
  by_cases h : i = j
  · rw [if_pos h, if_pos hi, if_pos h]; rfl
  · rw [if_neg h, if_neg h, List.getD_eq_getElem?_getD]
theorem ext_getD {l m : List Int} (h : l.length = m.length) (he : ∀ i, i < l.length → l.getD i 0 = m.getD i 0) : l = m := by
  refine List.ext_getElem h fun i h1 h2 => ?_
  have := he i h1
  rwa [List.getD_eq_getElem?_getD, List.getD_eq_getElem?_getD, List.getElem?_eq_getElem h1, List.getElem?_eq_getElem h2] at this
theorem back_step (c : R) {s d : Nat} (hs : 0 < s) (hd : 0 < d) {up : Nat → Bool} {bs : List (List R)} {a : Nat} (h : Even seq s bs) (ha : a + d < bs.length) {v' : List Int} (hv : Cmp seq c (splitB seq d up bs a) v') : ∃ v, Cmp seq c bs v ∧ Net.sw d up v a = v' := by
  obtain ⟨hvl, hv⟩ := hv
  rw [splitB_length] at hvl hv
  have hA := (h _ (blk_mem (by omega : a < bs.length))).1
  have hB := (h _ (blk_mem ha)).1
  have hblk : ∀ b, blk (splitB seq d up bs a) b = if a + d = b then (if up a then highB seq bs a d else lowB seq bs a d) else if a = b then (if up a then lowB seq bs a d else highB seq bs a d) else blk bs b := fun b => by
    unfold blk splitB
    rw [getD_set (by simpa using ha), getD_set (by omega)]
  have va := hv a (by omega)
  have vd := hv (a + d) ha
  rw [hblk, if_neg (by omega), if_pos rfl] at va
  rw [hblk, if_pos rfl] at vd
  obtain ⟨q, hq⟩ : ∃ q, v'.getD a 0 = q := ⟨_, rfl⟩
  obtain ⟨r, hr⟩ : ∃ r, v'.getD (a + d) 0 = r := ⟨_, rfl⟩
  rw [hq] at va
  rw [hr] at vd
  have hp : ∃ p1 p2 : Int, (p1 = 0 ∨ p1 = 1) ∧ (p2 = 0 ∨ p2 = 1) ∧ (∃ x ∈ blk bs a, lead seq c x = decide (p1 = 1)) ∧ (∃ x ∈ blk bs (a + d), lead seq c x = decide (p2 = 1)) ∧ (if decide (p1 > p2) = up a ∧ p1 ≠ p2 then q = p2 ∧ r = p1 else q = p1 ∧ r = p2) := by
    cases hu : up a with
    | true =>
      rw [hu] at va vd
      simp only [if_true] at va vd
      obtain ⟨hle, p1, p2, h1, h2, h3⟩ := pick_back seq c hs hA hB va.1 vd.1 (by have := va.2; rw [lowB, hA] at this; exact this) (by have := vd.2; rw [highB, hA] at this; exact this)
      have v0 := va.1
      have v1 := vd.1
      refine ⟨p1, p2, ?_, ?_, h1, h2, ?_⟩
      · rcases h3 with ⟨rfl, rfl⟩ | ⟨rfl, rfl⟩ <;> assumption
      · rcases h3 with ⟨rfl, rfl⟩ | ⟨rfl, rfl⟩ <;> assumption
      · rcases h3 with ⟨rfl, rfl⟩ | ⟨rfl, rfl⟩
        · rw [if_neg]; exact ⟨rfl, rfl⟩
          rintro ⟨k, _⟩
          simp at k
          omega
        · split
          · exact ⟨rfl, rfl⟩
          · rename_i k
            by_cases e : p1 = p2
            · exact ⟨e.symm, e⟩
            · exact absurd ⟨by simp; omega, e⟩ k
    | false =>
      rw [hu] at va vd
      simp only [Bool.false_eq_true, if_false] at va vd
      obtain ⟨hle, p1, p2, h1, h2, h3⟩ := pick_back seq c hs hA hB vd.1 va.1 (by have := vd.2; rw [lowB, hA] at this; exact this) (by have := va.2; rw [highB, hA] at this; exact this)
      have v0 := va.1
      have v1 := vd.1
      refine ⟨p1, p2, ?_, ?_, h1, h2, ?_⟩
      · rcases h3 with ⟨rfl, rfl⟩ | ⟨rfl, rfl⟩ <;> assumption
      · rcases h3 with ⟨rfl, rfl⟩ | ⟨rfl, rfl⟩ <;> assumption
      · rcases h3 with ⟨rfl, rfl⟩ | ⟨rfl, rfl⟩
        · split
          · exact ⟨rfl, rfl⟩
          · rename_i k
            by_cases e : p1 = p2
            · exact ⟨e.symm, e⟩
            · exact absurd ⟨by simp; omega, e⟩ k
        · rw [if_neg]; exact ⟨rfl, rfl⟩
          rintro ⟨k, k2⟩
          simp at k
          omega
  obtain ⟨p1, p2, b1, b2, x1, x2, hsw⟩ := hp
  have hva : a < v'.length := by omega
  have hvd : a + d < v'.length := by omega
  have hg : ∀ j, ((v'.set a p1).set (a + d) p2).getD j 0 = if a + d = j then p2 else if a = j then p1 else v'.getD j 0 := fun j => by
    rw [getD_set (by simpa using hvd), getD_set hva]
  refine ⟨(v'.set a p1).set (a + d) p2, ⟨by simpa using hvl, fun b hb => ?_⟩, ?_⟩
  · rw [hg]
    by_cases e1 : a + d = b
    · rw [if_pos e1, ← e1]; exact ⟨b2, x2⟩
    · rw [if_neg e1]
      by_cases e2 : a = b
      · rw [if_pos e2, ← e2]; exact ⟨b1, x1⟩
      · rw [if_neg e2]
        have := hv b hb
        rw [hblk, if_neg e1, if_neg e2] at this
        exact this
  · refine ext_getD (by rw [Net.sw_length]; simp) fun j hj => ?_
    rw [Net.sw_length] at hj
    simp only [List.length_set] at hj
    have ga : ((v'.set a p1).set (a + d) p2).getD a 0 = p1 := by rw [hg, if_neg (by omega), if_pos rfl]
    have gd : ((v'.set a p1).set (a + d) p2).getD (a + d) 0 = p2 := by rw [hg, if_pos rfl]
    unfold Net.sw
    rw [ga, gd]
    by_cases k : decide (p1 > p2) = up a ∧ p1 ≠ p2
    · rw [if_pos k] at hsw ⊢
      rw [getD_set (by simpa using hvd), getD_set (by simpa using hva)]
      by_cases e1 : a + d = j
      · rw [if_pos e1, ← e1, hr]; exact hsw.2.symm
      · rw [if_neg e1]
        by_cases e2 : a = j
        · rw [if_pos e2, ← e2, hq]; exact hsw.1.symm
        · rw [if_neg e2, hg, if_neg e1, if_neg e2]
    · rw [if_neg k] at hsw ⊢
      rw [hg]
      by_cases e1 : a + d = j
      · rw [if_pos e1, ← e1, hr]; exact hsw.2.symm
      · rw [if_neg e1]
        by_cases e2 : a = j
        · rw [if_pos e2, ← e2, hq]; exact hsw.1.symm
        · rw [if_neg e2]
theorem foldB_length (d : Nat) (up : Nat → Bool) : ∀ (ps : List Nat) (bs : List (List R)), (ps.foldl (splitB seq d up) bs).length = bs.length
  | [], _ => rfl
  | a :: ps, bs => by rw [List.foldl_cons, foldB_length d up ps, splitB_length]
theorem Even.fold {s d : Nat} {up : Nat → Bool} : ∀ (ps : List Nat) (bs : List (List R)), Even seq s bs → (∀ a ∈ ps, a + d < bs.length) → Even seq s (ps.foldl (splitB seq d up) bs)
  | [], _, h, _ => h
  | a :: ps, bs, h, hp => by
    rw [List.foldl_cons]
    exact Even.fold ps _ (h.split seq (hp a (by simp))) fun b hb => by rw [splitB_length]; exact hp b (by simp [hb])
theorem back_fold (c : R) {s d : Nat} (hs : 0 < s) (hd : 0 < d) {up : Nat → Bool} : ∀ (ps : List Nat) (bs : List (List R)), Even seq s bs → (∀ a ∈ ps, a + d < bs.length) → ∀ v', Cmp seq c (ps.foldl (splitB seq d up) bs) v' → ∃ v, Cmp seq c bs v ∧ ps.foldl (Net.sw d up) v = v'
  | [], _, _, _, v', hv => ⟨v', hv, rfl⟩
  | a :: ps, bs, h, hp, v', hv => by
    have ha := hp a (by simp)
    obtain ⟨v1, h1, h2⟩ := back_fold c hs hd ps (splitB seq d up bs a) (h.split seq ha) (fun b hb => by rw [splitB_length]; exact hp b (by simp [hb])) v' hv
    obtain ⟨v, h3, h4⟩ := back_step seq c hs hd h ha h1
    exact ⟨v, h3, by rw [List.foldl_cons, h4, h2]⟩
def roundB (n : Nat) (bs : List (List R)) (st : Nat × Nat) : List (List R) := (Net.firsts (2 ^ (st.2 - 1)) n).foldl (splitB seq (2 ^ (st.2 - 1)) (Net.ups st.1)) bs
def roundV (n : Nat) (v : List Int) (st : Nat × Nat) : List Int := (Net.firsts (2 ^ (st.2 - 1)) n).foldl (Net.sw (2 ^ (st.2 - 1)) (Net.ups st.1)) v
theorem roundB_length (n : Nat) (bs : List (List R)) (st : Nat × Nat) : (roundB seq n bs st).length = bs.length := foldB_length seq _ _ _ _
theorem runB_length (n : Nat) : ∀ (sch : List (Nat × Nat)) (bs : List (List R)), (sch.foldl (roundB seq n) bs).length = bs.length
  | [], _ => rfl
  | st :: sch, bs => by rw [List.foldl_cons, runB_length n sch, roundB_length]
theorem foldV_length (d : Nat) (up : Nat → Bool) : ∀ (ps : List Nat) (v : List Int), (ps.foldl (Net.sw d up) v).length = v.length
  | [], _ => rfl
  | a :: ps, v => by rw [List.foldl_cons, foldV_length d up ps, Net.sw_length]
theorem round_places {S : Nat} {st : Nat × Nat} (h1 : 1 ≤ st.2) (h2 : st.2 ≤ S) : ∀ a ∈ Net.firsts (2 ^ (st.2 - 1)) (2 ^ S), a + 2 ^ (st.2 - 1) < 2 ^ S := fun a ha => Bi.pair_lt h1 h2 ha
theorem Even.round {s S : Nat} {st : Nat × Nat} (h1 : 1 ≤ st.2) (h2 : st.2 ≤ S) {bs : List (List R)} (h : Even seq s bs) (hl : bs.length = 2 ^ S) : Even seq s (roundB seq (2 ^ S) bs st) :=
  Even.fold seq _ _ h fun a ha => by rw [hl]; exact round_places h1 h2 a ha
theorem Even.run {s S : Nat} : ∀ (sch : List (Nat × Nat)) (bs : List (List R)), (∀ st ∈ sch, 1 ≤ st.2 ∧ st.2 ≤ S) → Even seq s bs → bs.length = 2 ^ S → Even seq s (sch.foldl (roundB seq (2 ^ S)) bs)
  | [], _, _, h, _ => h
  | st :: sch, bs, hst, h, hl => by
    rw [List.foldl_cons]
    obtain ⟨h1, h2⟩ := hst st (by simp)
    exact Even.run sch _ (fun st' h' => hst st' (by simp [h'])) (h.round seq h1 h2 hl) (by rw [roundB_length, hl])
theorem back_run (c : R) {s S : Nat} (hs : 0 < s) : ∀ (sch : List (Nat × Nat)) (bs : List (List R)), (∀ st ∈ sch, 1 ≤ st.2 ∧ st.2 ≤ S) → Even seq s bs → bs.length = 2 ^ S → ∀ v', Cmp seq c (sch.foldl (roundB seq (2 ^ S)) bs) v' → ∃ v, Cmp seq c bs v ∧ sch.foldl (roundV (2 ^ S)) v = v'
  | [], _, _, _, _, v', hv => ⟨v', hv, rfl⟩
  | st :: sch, bs, hst, h, hl, v', hv => by
    obtain ⟨h1, h2⟩ := hst st (by simp)
    obtain ⟨v1, h3, h4⟩ := back_run c hs sch (roundB seq (2 ^ S) bs st) (fun st' h' => hst st' (by simp [h'])) (h.round seq h1 h2 hl) (by rw [roundB_length, hl]) v' hv
    obtain ⟨v, h5, h6⟩ := back_fold seq c hs (Nat.two_pow_pos _) _ bs h (fun a ha => by rw [hl]; exact round_places h1 h2 a ha) v1 h3
    exact ⟨v, h5, by rw [List.foldl_cons, ← h4, ← h6]; rfl⟩
theorem behind_run {f0 : Nat → Int} {S : Nat} : ∀ (sch : List (Nat × Nat)) (r : Nat) (v : List Int), Bi.Behind f0 r v → v.length = 2 ^ S → (∀ i, i < sch.length → Bi.Stp S ((r + i : Nat) : Int) (sch.getD i (0, 0)).1 (sch.getD i (0, 0)).2) → Bi.Behind f0 (r + sch.length) (sch.foldl (roundV (2 ^ S)) v)
  | [], _, _, h, _, _ => h
  | st :: sch, r, v, h, hl, hst => by
    have h0 := hst 0 (by simp)
    have h1 := Bi.behind_round h (by simpa using h0) hl rfl
    have := behind_run sch (r + 1) _ h1 (by rw [foldV_length, hl]) (fun i hi => by
      have := hst (i + 1) (by simpa using hi)
      rw [List.getD_cons_succ] at this
      rwa [show r + 1 + i = r + (i + 1) by omega])
    rw [List.foldl_cons, List.length_cons, show r + (sch.length + 1) = r + 1 + sch.length by omega]
    exact this
theorem run_sorts {s S : Nat} (hs : 0 < s) {sch : List (Nat × Nat)} (hn : sch.length = Bi.tri S) (hst : ∀ i, i < sch.length → Bi.Stp S (i : Int) (sch.getD i (0, 0)).1 (sch.getD i (0, 0)).2) {bs : List (List R)} (h : Even seq s bs) (hl : bs.length = 2 ^ S) :
    Srt seq (sch.foldl (roundB seq (2 ^ S)) bs).flatten := by
  have hst' : ∀ st ∈ sch, 1 ≤ st.2 ∧ st.2 ≤ S := fun st hm => by
    obtain ⟨i, hi, rfl⟩ := List.mem_iff_getElem.1 hm
    have := hst i hi
    rw [List.getD_eq_getElem?_getD, List.getElem?_eq_getElem hi, Option.getD_some] at this
    obtain ⟨k1, k2, k3, _⟩ := this
    exact ⟨k1, by omega⟩
  have he := Even.run seq sch bs hst' h hl
  have hlen := runB_length seq (2 ^ S) sch bs
  have hb := fun c => back_run seq c hs sch bs hst' h hl
  generalize sch.foldl (roundB seq (2 ^ S)) bs = zs at *
  rw [srt_pair, List.pairwise_flatten]
  refine ⟨fun l hm => (srt_pair seq l).1 (he l hm).2, ?_⟩
  rw [List.pairwise_iff_getElem]
  intro i j hi hj hij x hx y hy
  cases hL : lead seq y x with
  | false => rfl
  | true =>
    exfalso
    have blk_get : ∀ b (hb : b < zs.length), blk zs b = zs[b] := fun b hb => by unfold blk; rw [List.getD_eq_getElem?_getD, List.getElem?_eq_getElem hb]; rfl
    let w : List Int := (List.range zs.length).map fun b => if b = i then 1 else if b = j then 0 else if (blk zs b).any (lead seq y) then 1 else 0
    have hw : ∀ b, b < zs.length → w.getD b 0 = if b = i then 1 else if b = j then 0 else if (blk zs b).any (lead seq y) then 1 else 0 := fun b hb => by
      show ((List.range zs.length).map _).getD b 0 = _
      rw [List.getD_eq_getElem?_getD, List.getElem?_map, List.getElem?_range hb]
      rfl
    have hc : Cmp seq y zs w := by
      refine ⟨by simp [w], fun b hb' => ?_⟩
      rw [hw b hb']
      by_cases e1 : b = i
      · rw [if_pos e1]
        refine ⟨.inr rfl, x, ?_, by rw [hL]; rfl⟩
        rw [e1, blk_get i hi]; exact hx
      · rw [if_neg e1]
        by_cases e2 : b = j
        · rw [if_pos e2]
          refine ⟨.inl rfl, y, ?_, by rw [lead_irr]; rfl⟩
          rw [e2, blk_get j hj]; exact hy
        · rw [if_neg e2]
          by_cases e3 : (blk zs b).any (lead seq y) = true
          · rw [if_pos e3]
            obtain ⟨u, hu, hu1⟩ := List.any_eq_true.1 e3
            exact ⟨.inr rfl, u, hu, by rw [hu1]; rfl⟩
          · rw [if_neg e3]
            have hlb := (he _ (blk_mem hb')).1
            have h0 : 0 < (blk zs b).length := by omega
            refine ⟨.inl rfl, (blk zs b)[0], List.getElem_mem h0, ?_⟩
            have : (blk zs b).any (lead seq y) = false := by simpa using e3
            rw [List.any_eq_false] at this
            have := this _ (List.getElem_mem h0)
            rw [Bool.not_eq_true] at this
            rw [this]; rfl
    obtain ⟨v, hv, hv2⟩ := hb y w hc
    have hbe := behind_run (S := S) sch 0 v (Bi.behind_start v) (by rw [hv.1, hl]) (fun i hi => by simpa using hst i hi)
    rw [hv2, Nat.zero_add, hn] at hbe
    have := Bi.behind_end hbe (x := i) (y := j) (by omega) (by omega)
    rw [hw i hi, hw j hj, if_pos rfl, if_neg (by omega), if_pos rfl] at this
    omega
end
end Go.Proofs.YtlinmcgmkpkpaaaDoor.Mg
namespace Go.Proofs.YtlinmcgmkpkpaaaDoor.Mg
open Go.RowKit Go.Shelf Go.Proofs.YtlinmcgmkpkpaaaDoor Mem Held Ct Rc Rs Sl
attribute [local irreducible] wpList wpListIn Calls
def accC (rs rs2 : List R) (k : Nat) : List R := if k = 0 then [] else if k = 1 then rs else rs ++ rs2
def sumC (n n2 k : Nat) : Nat := if k = 0 then 0 else if k = 1 then n else n + n2
set_option maxRecDepth 100000 in
set_option maxHeartbeats 8000000 in
theorem concat_any (B B2 p : Nat) (A A2 : Option Addr) (n c n2 c2 : Nat) (rs rs2 : List R) (w : World) (q : Blk w p 48 #[.slice A n c, .slice A2 n2 c2]) (h : Lst kRec w B A n rs) (h2 : Lst kRec w B2 A2 n2 rs2) (hB : B ≤ w.heap.size) (hB2 : B2 ≤ w.heap.size) (hn : n ≤ 524288) (hn2 : n2 ≤ 524288) :
    Calls Tryd.prog 21 #[.slice (some ⟨p, 0, none⟩) 2 2] w fun e w' => ∃ v, e = .returned v ∧ OwnL kRec 51 w' w.heap.size v (rs ++ rs2) ∧ Below w.heap.size w w' := by
  have HL := Lib.hid h.1
  have HL2 := Lib.hid h2.1
  have hp := q.lt
  go_enter Tryd.func21, Tryd.ntmps21
  go_wp2_with fail
  go_loopw [3, 11] (fun x i wr => ∃ k : Nat, k ≤ 2 ∧ i = .int .i64 k ∧ x = .int .i64 (sumC n n2 k : Int) ∧ Below w.heap.size w wr) (fun _ i _ => 2 - (intOf i).toNat)
  case atStart => exact ⟨0, by omega, rfl, rfl, Below.refl _ _⟩
  case round =>
    obtain ⟨k, hk, rfl, rfl, hst⟩ := hrel
    have q := q.below hst hp
    have c0 := q.cell (i := 0) rfl
    have c1 := q.cell (i := 1) rfl
    rcases (show k = 0 ∨ k = 1 ∨ k = 2 by omega) with rfl | rfl | rfl
    · rw [show sumC n n2 0 = 0 from rfl]
      have g1 : ¬ (n : Int) < 0 := by omega
      have e1 : IntKind.i64.wrap (n : Int) = (n : Int) := by rw [IntKind.wrap_i64]; omega
      go_wp2_with fail
      go_roundw
      case rel => exact ⟨1, by omega, by go_num, rfl, hst⟩
      case measure => simp [intOf]
    · rw [show sumC n n2 1 = n from rfl]
      have g1 : ¬ ((n : Int) + (n2 : Int)) < 0 := by omega
      have e1 : IntKind.i64.wrap ((n : Int) + (n2 : Int)) = (n : Int) + n2 := by rw [IntKind.wrap_i64]; omega
      go_wp2_with fail
      go_roundw
      case rel => exact ⟨2, by omega, by go_num, by show Value.int .i64 ((n : Int) + (n2 : Int)) = Value.int .i64 ((n + n2 : Nat) : Int); rw [Int.natCast_add], hst⟩
      case measure => simp [intOf]
    · rw [show sumC n n2 2 = n + n2 from rfl]
      go_wp2_with fail
      refine (grow_any (n + n2) _ (by omega)).mono ?_
      rintro e w1 ⟨v, rfl, o1, b1⟩
      have q1 := q.after b1
      have d1 := hst.trans (b1.mono hst.size)
      have o1 := OwnL.less o1 hst.size
      clear q b1 hst c0 c1
      go_wp2_with fail
      go_loopw [6, 27] (fun x i wr => ∃ k : Nat, k ≤ 2 ∧ i = .int .i64 k ∧ OwnL kRec 51 wr w.heap.size x (accC rs rs2 k) ∧ Blk wr p 48 #[.slice A n c, .slice A2 n2 c2] ∧ Below w.heap.size w wr) (fun _ i _ => 2 - (intOf i).toNat)
      case atStart => exact ⟨0, by omega, rfl, o1, q1, d1⟩
      case round =>
        clear o1 q1 d1
        obtain ⟨k, hk, rfl, ok, q, hst⟩ := hrel
        have c0 := q.cell (i := 0) rfl
        have c1 := q.cell (i := 1) rfl
        rcases (show k = 0 ∨ k = 1 ∨ k = 2 by omega) with rfl | rfl | rfl
        · have ok : OwnL kRec 51 wr w.heap.size u6 ([]) := ok
          go_wp2_with (at_builtin; refine wpList_append_all (k := kRec) (w := wr) rfl _ _ 48 51 rfl Tryd.underlying48 _ 32 info_kRec rfl w.heap.size B n c A _ ([]) rs rfl rfl ok (Lst.below h (hst.mono hB)) (by simp; omega) (by omega) hst.size ?_; intro v2 w2 o2 g2 m2)
          have d2 : Below w.heap.size w w2 := hst.grown g2 hst.size (fun r e => (OwnL.lt ok r e).1)
          have q2 := q.grown g2 (fun e => OwnL.ne_blk ok q (by decide) e.symm)
          go_roundw
          case rel => exact ⟨1, by omega, by go_num, o2, q2, d2⟩
          case measure => simp [intOf]
        · have ok : OwnL kRec 51 wr w.heap.size u6 (rs) := ok
          go_wp2_with (at_builtin; refine wpList_append_all (k := kRec) (w := wr) rfl _ _ 48 51 rfl Tryd.underlying48 _ 32 info_kRec rfl w.heap.size B2 n2 c2 A2 _ (rs) rs2 rfl rfl ok (Lst.below h2 (hst.mono hB2)) (by rw [HL.out]; omega) (by omega) hst.size ?_; intro v2 w2 o2 g2 m2)
          have d2 : Below w.heap.size w w2 := hst.grown g2 hst.size (fun r e => (OwnL.lt ok r e).1)
          have q2 := q.grown g2 (fun e => OwnL.ne_blk ok q (by decide) e.symm)
          go_roundw
          case rel => exact ⟨2, by omega, by go_num, o2, q2, d2⟩
          case measure => simp [intOf]
        · go_wp2_with fail
          go_ret
          exact ⟨_, rfl, ok, hst⟩
end Go.Proofs.YtlinmcgmkpkpaaaDoor.Mg
namespace Go.Proofs.YtlinmcgmkpkpaaaDoor.Mg
open Go.RowKit Go.Shelf Go.Proofs.YtlinmcgmkpkpaaaDoor Mem Held Ct Rc Rs Sl
attribute [local irreducible] wpList wpListIn Calls
theorem info_lists : (Tryd.prog.info? 48).map (fun i => (i.zero, i.size, i.bytes)) = some (some (.slice none 0 0), 1, 24) := by kernel_rfl
theorem wpList_build_two {ops : Array Oper} {rest : List Oper} {o : Oper} {a : Act} {w : World} {Q : Exit → Act → World → Prop} (hgd : o.guard = none) (x y : Operand) (ho : o.op = .buildSlice 45 2 #[(0, x), (1, y)]) (A A2 : Option Addr) (n c n2 c2 : Nat) (hx : a.eval x = .slice A n c) (hy : a.eval y = .slice A2 n2 c2)
    (h : ∀ w', Blk w' w.heap.size 48 #[.slice A n c, .slice A2 n2 c2] → w.grownBy w' none → wpList Tryd.prog ops Q rest (a.put o.dst (.slice (some ⟨w.heap.size, 0, none⟩) 2 2)) w') : wpList Tryd.prog ops Q (o :: rest) a w := by
  obtain ⟨ie, hie, hz, hs, _⟩ := info_parts info_lists
  refine Go.wpList_buildSlice hgd 45 48 2 #[(0, x), (1, y)] ho #[.slice A n c, .slice A2 n2 c2] ie _ Tryd.underlying45 hie hz (by rw [hs]; omega) (by rw [hs]; omega) ?_ (h _ (heap_alloc_new w _) (World.grownBy_alloc w _ none))
  rw [hs]
  simp only [List.map_toArray, List.map_cons, List.map_nil, hx, hy]
  refine (Great.fill_whole (s := 1) (by omega) [.slice A n c, .slice A2 n2 c2] _ (fun v hv => ?_) (by simp)).trans ?_
  · simp only [List.mem_cons, List.not_mem_nil, or_false] at hv
    rcases hv with rfl | rfl <;> rfl
  · rfl
set_option maxRecDepth 100000 in
set_option maxHeartbeats 8000000 in
theorem split_any (B B2 : Nat) (A A2 : Option Addr) (n c n2 c2 : Nat) (rs rs2 : List R) (seq : Bool) (w : World) (h : Lst kRec w B A n rs) (h2 : Lst kRec w B2 A2 n2 rs2) (hB : B ≤ w.heap.size) (hB2 : B2 ≤ w.heap.size) (hn : n ≤ 524288) (hn2 : n2 ≤ 524288) :
    Calls Tryd.prog 65 #[.slice A n c, .slice A2 n2 c2, .bool seq] w fun e w' => ∃ v v2, e = .returned (.tuple #[v, v2]) ∧ OwnL kRec 51 w' w.heap.size v ((sortR seq (rs ++ rs2)).take rs.length) ∧ OwnL kRec 51 w' w.heap.size v2 ((sortR seq (rs ++ rs2)).drop rs.length) ∧ Below w.heap.size w w' := by
  have HL := Lib.hid h.1
  have HLS := Lib.hid (show (rs ++ rs2).length = n + n2 by rw [List.length_append, h.1, h2.1])
  have HLT := Lib.hid (show (sortR seq (rs ++ rs2)).length = n + n2 by rw [sortR_length, List.length_append, h.1, h2.1])
  have HW := Lib.hid (show ∀ x ∈ rs ++ rs2, x.wf from fun x hx => (List.mem_append.1 hx).elim (h.2.1 x) (h2.2.1 x))
  have HWS := Lib.hid (show ∀ x ∈ sortR seq (rs ++ rs2), x.wf from fun x hx => HW.out x ((sortR_perm seq (rs ++ rs2)).mem_iff.1 hx))
  go_enter Tryd.func65, Tryd.ntmps65
  go_wp2_with (refine wpList_build_two (w := w) rfl _ _ rfl A A2 n c n2 c2 rfl rfl ?_; intro w1 q1 g1)
  have b1 : Below w.heap.size w w1 := (Below.refl _ w).grown g1 (Nat.le_refl _) (by simp)
  refine (concat_any B B2 w.heap.size A A2 n c n2 c2 rs rs2 w1 q1 (Lst.below h (b1.mono hB)) (Lst.below h2 (b1.mono hB2)) (Nat.le_trans hB b1.size) (Nat.le_trans hB2 b1.size) hn hn2).mono ?_
  rintro e w2 ⟨v, rfl, o2, b2⟩
  obtain ⟨A3, n3, c3, rfl, hn3, _⟩ := OwnL.form2 o2
  obtain rfl : n3 = n + n2 := hn3.out.symm.trans HLS.out
  have b2 := b1.trans (b2.mono b1.size)
  clear b1 q1 g1 hn3
  have l2 := OwnL.lst o2 HW.out
  go_wp2_with fail
  refine (sort_any w2.heap.size A3 (n + n2) c3 (rs ++ rs2) seq w2 l2 (Nat.le_refl _) (by omega)).mono ?_
  rintro e w3 ⟨v, rfl, o3, b3⟩
  obtain ⟨A4, n4, c4, rfl, hn4, _⟩ := OwnL.form2 o3
  obtain rfl : n4 = n + n2 := hn4.out.symm.trans HLT.out
  have b3 := b2.trans (b3.mono b2.size)
  have o3 := OwnL.less o3 b2.size
  clear b2 o2 l2 hn4
  obtain ⟨A5, A6, c6, f1, f2, k1, k2⟩ := own_parts o3 HWS.out (show n ≤ n + n2 by omega)
  rw [show n + n2 - n = n2 by omega] at f2 k2
  go_wp2_with fail
  refine wp_region_held (S := fun W => Below w3.heap.size w3 W) (by kernel_rfl) ?_
  change wpAnyH _ _ _ _ _ _ _ _ w3.drew
  have c0_0 := (Below.refl w3.heap.size w3).drew
  refine Held.tk (v := .slice A4 (n + n2) c4) 0 (some 15) rfl (Held.y_move rfl rfl) c0_0 ?_
  simp only [Act.put, Z1, Z2, Z3]
  refine Held.tk (v := .slice A n c) 1 (some 16) rfl (Held.y_move rfl rfl) c0_0 ?_
  simp only [Act.put, Z1, Z2, Z3]
  refine Held.tk (v := .int .i64 (n : Int)) 2 (some 17) rfl (Held.y_len rfl rfl Tryd.underlying48) c0_0 ?_
  simp only [Act.put, Z1, Z2, Z3]
  refine Held.tk (v := .slice A5 n c4) 3 (some 18) rfl (Held.y_slice rfl f1) c0_0 ?_
  simp only [Act.put, Z1, Z2, Z3]
  refine Held.tk (v := .slice A4 (n + n2) c4) 5 (some 20) rfl (Held.y_move rfl rfl) c0_0 ?_
  simp only [Act.put, Z1, Z2, Z3]
  refine Held.tk (v := .slice A n c) 6 (some 21) rfl (Held.y_move rfl rfl) c0_0 ?_
  simp only [Act.put, Z1, Z2, Z3]
  refine Held.tk (v := .int .i64 (n : Int)) 7 (some 22) rfl (Held.y_len rfl rfl Tryd.underlying48) c0_0 ?_
  simp only [Act.put, Z1, Z2, Z3]
  refine Held.tk (v := .slice A6 n2 c6) 8 (some 23) rfl (Held.y_slice rfl f2) c0_0 ?_
  simp only [Act.put, Z1, Z2, Z3]
  refine Held.one 4 (by kernel_rfl) ?_
  refine Held.op_call 4 (some 19) 70 #[.slice A5 n c4] rfl rfl rfl rfl (enters_of Tryd.func70 (by kernel_rfl) rfl) (by simp [Act.eval])
    (clone_any w3.heap.size A5 n c4 _ _ (Lst.below k1 c0_0) c0_0.size (by omega)) ?_
  rintro e w4 ⟨v1, rfl, ov1, b1⟩
  have c0_1 := c0_0.trans (b1.mono c0_0.size)
  refine ⟨_, rfl, c0_1, ?_⟩
  simp only [Act.put, Z1, Z2, Z3]
  refine Held.one 9 (by kernel_rfl) ?_
  refine Held.op_call 9 (some 24) 70 #[.slice A6 n2 c6] rfl rfl rfl rfl (enters_of Tryd.func70 (by kernel_rfl) rfl) (by simp [Act.eval])
    (clone_any w3.heap.size A6 n2 c6 _ _ (Lst.below k2 c0_1) c0_1.size (by omega)) ?_
  rintro e w5 ⟨v2, rfl, ov2, b2⟩
  have c0_2 := c0_1.trans (b2.mono c0_1.size)
  refine ⟨_, rfl, c0_2, ?_⟩
  simp only [Act.put, Z1, Z2, Z3]
  refine Held.tk (v := v1) 10 (some 6) rfl (Held.y_assign rfl rfl) c0_2 ?_
  simp only [Act.put, Z1, Z2, Z3]
  refine Held.tk (v := v2) 11 (some 7) rfl (Held.y_assign rfl rfl) c0_2 ?_
  simp only [Act.put, Z1, Z2, Z3]
  have p1 := OwnL.less (OwnL.below ov1 b2) (Nat.le_refl _)
  have p2 := OwnL.less ov2 b1.size
  refine wpAnyH_done (by kernel_rfl) ?_ _
  have dz := b3.trans (c0_2.mono b3.size)
  go_wp2_with fail
  go_ret2
  rw [HL.out]
  exact ⟨_, _, rfl, OwnL.less p1 (Nat.le_trans b3.size c0_0.size), OwnL.less p2 (Nat.le_trans b3.size c0_0.size), dz⟩
def wrongTo (seq : Bool) (rs : List R) (k : Nat) : Bool := (List.range k).any fun i => lead seq (rs.getD (i + 1) R0) (rs.getD i R0)
def srtB (seq : Bool) (rs : List R) : Bool := !wrongTo seq rs (rs.length - 1)
theorem srtB_iff {seq : Bool} {rs : List R} : srtB seq rs = true ↔ Srt seq rs := by
  rw [srt_iff, srtB, Bool.not_eq_true', wrongTo, List.any_eq_false]
  constructor
  · intro h i hi
    have := h i (List.mem_range.2 (by omega))
    simpa using this
  · intro h i hi
    have := h i (by have := List.mem_range.1 hi; omega)
    rw [this]
    simp
end Go.Proofs.YtlinmcgmkpkpaaaDoor.Mg
namespace Go.Proofs.YtlinmcgmkpkpaaaDoor.Mg
open Go.RowKit Go.Shelf Go.Proofs.YtlinmcgmkpkpaaaDoor Mem Held Rc Rs Sl
def slV (p : Option Addr × Nat × Nat) : Value := .slice p.1 p.2.1 p.2.2
def kS : St (Option Addr × Nat × Nat) := ⟨1, fun p => [slV p], fun _ => True, (none, 0, 0), fun _ => rfl, fun p u hu => by rw [List.mem_singleton.1 hu]; rfl, by omega⟩
theorem info_kS : (Tryd.prog.info? 48).map (fun i => (i.zero, i.size, i.bytes)) = some (some (.slice none 0 0), kS.s, 24) := info_lists
theorem flat_kS (vs : List (Option Addr × Nat × Nat)) : Sl.flat kS vs = vs.map slV := by
  unfold Sl.flat
  induction vs with
  | nil => rfl
  | cons p vs ih => rw [List.flatMap_cons, ih]; rfl
section
variable {t : TypeId} {w : World} {base g n cap : Nat} {vs : List (Option Addr × Nat × Nat)}
theorem slot_cell (h : OwnL kS t w base (.slice (some ⟨g, 0, none⟩) n cap) vs) {j : Nat} (hj : j < n) : w.cell? ⟨g, j, none⟩ = some (slV (vs.getD j kS.d)) ∧ g < w.heap.size := by
  obtain ⟨b, off, e, hb, hr⟩ := (OwnL.lst h (fun _ _ => trivial)).at_ hj
  injection e with e
  injection e with e1 e2
  subst e1
  subst e2
  have := hr 0 _ rfl
  have hm : kS.s = 1 := rfl
  rw [hm, Nat.mul_one, Nat.zero_add, Nat.add_zero] at this
  exact ⟨this, hb⟩
theorem slot_set (h : OwnL kS t w base (.slice (some ⟨g, 0, none⟩) n cap) vs) {j : Nat} (hj : j < vs.length) (p : Option Addr × Nat × Nat) :
    (∃ u, w.cell? ⟨g, j, none⟩ = some u) ∧ w.frozen? ⟨g, j, none⟩ = false ∧ OwnL kS t (w.setCell ⟨g, j, none⟩ (slV p)) base (.slice (some ⟨g, 0, none⟩) n cap) (vs.set j p) := by
  rcases h.2 with ⟨e, _⟩ | ⟨g', cap', cur, e, hb, hg, hnc, hcm, hcs, ht⟩
  · cases e
  · injection e with e1 e2 e3
    injection e1 with e1
    injection e1 with e1
    subst e1
    subst e3
    have hcs : cur.size = cap * 1 := hcs
    have ht : cur.toList.take (vs.length * 1) = Sl.flat kS vs := ht
    have hlt : j < cur.size := by omega
    have hb' : Blk (w.setCell ⟨g, j, none⟩ (slV p)) g t (cur.setIfInBounds j (slV p)) := Blk.set (w := w) (cs := cur) hg _ _
    refine ⟨⟨cur[j], by rw [cell_of_row w g _ _ _ (0, 0) hg]; exact Array.getElem?_eq_getElem hlt⟩, by simp [World.frozen?, hg], Sl.flat_length kS _, .inr ⟨g, cap, _, by rw [List.length_set]; exact congrArg (fun n => Value.slice (some ⟨g, 0, none⟩) n cap) e2, hb, hb', by rw [List.length_set]; exact hnc, hcm, by rw [Array.size_setIfInBounds]; exact hcs, ?_⟩⟩
    rw [List.length_set, Array.toList_setIfInBounds]
    show (cur.toList.set j (slV p)).take (vs.length * 1) = _
    rw [List.take_set, ht, flat_kS, flat_kS, List.map_set]
end
section
variable {ops : Array Oper} {rest : List Oper} {o : Oper} {a : Act} {w : World} {Q : Exit → Act → World → Prop}
theorem wpList_build_slot (hgd : o.guard = none) (x : Operand) (ho : o.op = .buildSlice 45 1 #[(0, x)]) (p : Option Addr × Nat × Nat) (hx : a.eval x = slV p)
    (h : ∀ w', Lst kS w' w'.heap.size (some ⟨w.heap.size, 0, none⟩) 1 [p] → w.grownBy w' none → wpList Tryd.prog ops Q rest (a.put o.dst (.slice (some ⟨w.heap.size, 0, none⟩) 1 1)) w') : wpList Tryd.prog ops Q (o :: rest) a w := by
  obtain ⟨ie, hie, hz, hs, _⟩ := info_parts info_lists
  refine Go.wpList_buildSlice hgd 45 48 1 #[(0, x)] ho #[slV p] ie _ Tryd.underlying45 hie hz (by rw [hs]; omega) (by rw [hs]; omega) ?_ (h _ (lst_whole (k := kS) (t := 48) (heap_alloc_new w _) rfl (fun _ _ => trivial)) (World.grownBy_alloc w _ none))
  rw [hs]
  simp only [List.map_toArray, List.map_cons, List.map_nil, hx]
  refine (Great.fill_whole (s := 1) (by omega) [slV p] _ (fun v hv => ?_) (by simp)).trans ?_
  · rw [List.mem_singleton.1 hv]; rfl
  · rfl
end
def Tb (w : World) (base : Nat) (vs : List (Option Addr × Nat × Nat)) (bs : List (List R)) : Prop :=
  vs.length = bs.length ∧ ∀ i, i < vs.length → OwnL kRec 51 w base (slV (vs.getD i kS.d)) (bs.getD i [])
section
variable {w w' : World} {base : Nat} {vs : List (Option Addr × Nat × Nat)} {bs : List (List R)}
theorem Tb.nil (w : World) (base : Nat) : Tb w base [] [] := ⟨rfl, fun i h => absurd h (by simp)⟩
theorem Tb.below (h : Tb w base vs bs) (hb : Below w.heap.size w w') : Tb w' base vs bs := ⟨h.1, fun i hi => OwnL.below (h.2 i hi) hb⟩
theorem Tb.grown {row : Option Nat} (h : Tb w base vs bs) (hg : w.grownBy w' row) (hr : ∀ r, row = some r → ∃ cs, w.heap[r]? = some (.cells cs 48 (0, 0))) : Tb w' base vs bs := by
  refine ⟨h.1, fun i hi => ?_⟩
  have ho := h.2 i hi
  refine own_new ho hg fun r e b hb e2 => ?_
  obtain ⟨cs, hcs⟩ := hr r e
  obtain ⟨cs2, hcs2⟩ := own_cells ho hb
  rw [e2, hcs] at hcs2
  injection hcs2 with hcs2
  injection hcs2 with _ hcs2
  exact absurd hcs2 (by decide)
theorem Tb.snoc (h : Tb w base vs bs) {p : Option Addr × Nat × Nat} {X : List R} (ho : OwnL kRec 51 w base (slV p) X) : Tb w base (vs ++ [p]) (bs ++ [X]) := by
  refine ⟨by simp [h.1], fun i hi => ?_⟩
  have hl := h.1
  simp only [List.getD_eq_getElem?_getD]
  by_cases hlt : i < vs.length
  · rw [List.getElem?_append_left hlt, List.getElem?_append_left (by omega)]
    have := h.2 i hlt
    simpa only [List.getD_eq_getElem?_getD] using this
  · have : i = vs.length := by simp at hi; omega
    subst this
    rw [List.getElem?_append_right (Nat.le_refl _), List.getElem?_append_right (by omega), Nat.sub_self, show vs.length - bs.length = 0 by omega]
    exact ho
theorem Tb.set (h : Tb w base vs bs) {j : Nat} {p : Option Addr × Nat × Nat} {X : List R} (hj : j < vs.length) (ho : OwnL kRec 51 w base (slV p) X) : Tb w base (vs.set j p) (bs.set j X) := by
  have hl := h.1
  refine ⟨by simp [hl], fun i hi => ?_⟩
  rw [getD_set hj, getD_set (by omega)]
  by_cases e : j = i
  · rw [if_pos e, if_pos e]; exact ho
  · rw [if_neg e, if_neg e]; exact h.2 i (by simpa using hi)
end
end Go.Proofs.YtlinmcgmkpkpaaaDoor.Mg
namespace Go.Proofs.YtlinmcgmkpkpaaaDoor.Range
open Go.RowKit
def NoL (Tl : TypeId → Prop) (W : World) (r : Nat) : Prop := ∀ cs t fz, W.heap[r]? = some (.cells cs t fz) → ¬ Tl t
def FarL {β : Type} (Tl : TypeId → Prop) (B : Nat) (J : β → World → Prop) : Prop :=
  ∀ s W W' row, J s W → W.grownBy W' row → (∀ r, row = some r → B ≤ r ∧ NoL Tl W r) → J s W'
theorem FarL.alloc {β : Type} {Tl : TypeId → Prop} {B : Nat} {J : β → World → Prop} (h : FarL Tl B J) {s : β} {W : World} (o : Obj) (hs : J s W) : J s (W.alloc o) :=
  h s W _ none hs (World.grownBy_alloc W o none) (fun r e => by cases e)
theorem FarL.new {β : Type} {Tl : TypeId → Prop} {B : Nat} {J : β → World → Prop} (h : FarL Tl B J) {s : β} {W W' : World} (hs : J s W) (hg : W.grownBy W' none) : J s W' :=
  h s W _ none hs hg (fun r e => by cases e)
theorem FarL.put {β : Type} {Tl : TypeId → Prop} {B : Nat} {J : β → World → Prop} (h : FarL Tl B J) {s : β} {W : World} {l : Nat} {o : Obj} (o' : Obj) (hs : J s W) (hl : B ≤ l) (ho : W.heap[l]? = some o) (hc : o.isCells = false) : J s (W.putObj l o') :=
  h s W _ (some l) hs (grownBy_putObj' W l o') (fun r e => by
    injection e with e
    subst e
    exact ⟨hl, fun cs t fz e => by rw [ho] at e; injection e with e; subst e; cases hc⟩)
theorem FarL.more {β : Type} {Tl : TypeId → Prop} {B B' : Nat} {J : β → World → Prop} (h : FarL Tl B J) (hB : B ≤ B') : FarL Tl B' J :=
  fun s W W' row hs hg hr => h s W W' row hs hg (fun r e => ⟨Nat.le_trans hB (hr r e).1, (hr r e).2⟩)
theorem FarL.own {β : Type} {Tl : TypeId → Prop} {B : Nat} {J : β → World → Prop} (h : FarL Tl B J) : OwnFrom B J :=
  fun s W W' row hs hg hr => h s W W' row hs hg (fun r e => ⟨(hr r e).1, fun cs t fz e2 => by
    obtain ⟨o, ho, hc⟩ := (hr r e).2
    rw [ho] at e2
    injection e2 with e2
    subst e2
    cases hc⟩)
theorem FarL.and {β : Type} {Tl : TypeId → Prop} {B : Nat} {J K : β → World → Prop} (h : FarL Tl B J) (k : FarL Tl B K) : FarL Tl B (fun s W => J s W ∧ K s W) :=
  fun s W W' row hs hg hr => ⟨h s W W' row hs.1 hg hr, k s W W' row hs.2 hg hr⟩
def SeqG {α : Type} (F : Fence) (n : Nat) (P : Program) (g : Nat) (lb : Array Value) (Tl : TypeId → Prop) (Enc : α → World → Array Value → Prop) (Kp : World → World → Prop) (at_ : Nat → Option α) (w : World) : Prop :=
  ∀ (l : Nat) (J Jx : Nat → World → Prop) (W : World), Below w.heap.size w W → FarL Tl W.heap.size J → FarL Tl W.heap.size Jx →
    (∀ k x args W1, J k W1 → at_ k = some x → Enc x W1 args → W.heap.size ≤ W1.heap.size → YieldAt F (n - 1) P l args W1 fun e W' => KeepsFrom W.heap.size W1 W' ∧
      ((e = .returned (.bool true) ∧ J (k + 1) W' ∧ Kp W1 W') ∨ (e = .returned (.bool false) ∧ Jx (k + 1) W'))) →
    J 0 W → CallsIn F n P g (#[.func (.yield l) #[] #[]] ++ lb) W fun e W' => (∃ v, e = .returned v) ∧ ((∃ k, at_ k = none ∧ J k W') ∨ ∃ k, Jx k W')
variable {F : Fence} {n : Nat} {P : Program}
theorem wpIn_rangeFunc_g {α : Type} {g : Operand} {ps : Array Tmp} {assign body : Code} {Q : Exit → Act → World → Prop} {a : Act} {w : World}
    (hro : F.round = none) (h1 : 1 ≤ n) {gf : Nat} {lb : Array Value} (hg : a.eval g = .func (.func gf) #[] lb) (hFg : F.fn gf) (eg : ∀ args w, (callFunc gf args).run P w = .ok (.enter gf args) w)
    {Tl : TypeId → Prop} {Enc : α → World → Array Value → Prop} {Kp : World → World → Prop} {at_ : Nat → Option α} {w0 : World} (hseq : SeqG F (n - 1) P gf lb Tl Enc Kp at_ w0)
    (hKt : ∀ {A B C : World}, Kp A B → Kp B C → Kp A C) (hKb : ∀ (W : World) (l : Nat) (o o' : Obj), w.heap.size ≤ l → W.heap[l]? = some o → o.isCells = false → o.isWalk = false → Kp W (W.putObj l o'))
    (hb0 : Below w0.heap.size w0 w) (hps : ∀ x W args, Enc x W args → args.size = ps.size)
    (I : Nat → World → Prop) (Ix : Code → Nat → World → Prop) (hI : FarL Tl w.heap.size I) (hIx : ∀ c, FarL Tl w.heap.size (Ix c)) (h0 : I 0 w)
    (Ib : α → Act → Nat → World → Prop) (hIb : ∀ x a', OwnFrom w.heap.size (Ib x a'))
    (hassign : ∀ (l k : Nat) (x : α) (args : Array Value) (W : World) (K : Act → World → Prop), I k W → at_ k = some x → Enc x W args → w.heap.size ≤ W.heap.size → (∀ a' W', KeepsFrom w.heap.size W W' → Kp W W' → Ib x a' k W' → K a' W') →
      assign.wpIn (F.inRound l) (n - 1 - 1) P (Exit.then K (fun _ _ _ => False)) { tmps := (ps.zip args).foldl (fun t (p, v) => t.setIfInBounds p v) a.tmps, defers := [] } W)
    (hbody : ∀ (l k : Nat) (x : α) (a' : Act) (W : World), w.heap.size ≤ l → (∃ r, W.heap[l]? = some (.loop r)) → Ib x a' k W → at_ k = some x → w.heap.size ≤ W.heap.size →
      body.wpIn (F.inRound l) (n - 1 - 1) P (stopPost (fun W' => KeepsFrom w.heap.size W W' ∧ Kp W W' ∧ I (k + 1) W') (fun c W' => KeepsFrom w.heap.size W W' ∧ Ix c (k + 1) W')) a' W)
    (hdone : ∀ (D k : Nat) (W : World), w.heap.size ≤ D → at_ k = none → I k W → W.heap[D]? = some (.deferred (some [])) → Q .normal { a with defers := { target := .collected D, args := #[] } :: a.defers } W)
    (hstop : ∀ (D : Nat) (c : Code) (k : Nat) (W : World), w.heap.size ≤ D → Ix c k W → W.heap[D]? = some (.deferred (some [])) → c.wpIn F n P Q { a with defers := { target := .collected D, args := #[] } :: a.defers } W) :
    (Code.rangeFunc g ps assign body).wpIn F n P Q a w := by
  refine wpIn_rangeFunc fun fn hfn => ?_
  rw [hro]
  let rec0 : LoopState → Option Code → Loop := fun st pe => { state := st, pending := pe, fn := fn, tmps := a.tmps, params := ps, assign := assign, body := body, defers := w.heap.size }
  let W1 : World := (w.alloc (.deferred (some []))).alloc (.loop (rec0 .ready none))
  have hz1 : W1.heap.size = w.heap.size + 2 := by simp [W1]
  have hl1 : W1.heap[w.heap.size + 1]? = some (.loop (rec0 .ready none)) := by
    have e := World.alloc_heap_new (w.alloc (.deferred (some []))) (.loop (rec0 .ready none))
    rwa [World.size_alloc] at e
  have hd1 : W1.heap[w.heap.size]? = some (.deferred (some [])) := (Below.heap_alloc _ _ _ (by simp)).trans (World.alloc_heap_new w _)
  have hi1 : I 0 W1 := hI.alloc _ (hI.alloc _ h0)
  have hb1 : Below w0.heap.size w0 W1 := hb0.trans ((((Below.refl _ w).alloc (Nat.le_refl _) _).alloc (by simp) _).mono hb0.size)
  refine ⟨w.heap.size + 1, [{ target := .collected w.heap.size, args := #[] }], W1, { target := .fn (.func gf) lb, args := #[.func (.yield (w.heap.size + 1)) #[] #[]] }, W1, gf,
    #[.func (.yield (w.heap.size + 1)) #[] #[]] ++ lb, W1, run_enterLoop_outer _ _ _ _ _, by simp only [resolve, hg]; simp [go_sem],
    fun f' hf' => by simp [Target.leads] at hf'; subst hf'; exact hFg, by simp [invoke, go_sem, eg], fun _ => h1, ?_⟩
  have kept : ∀ {A B : World} {row : Option Nat} (i : Nat) (o : Obj), i < W1.heap.size → A.heap[i]? = some o → A.grownBy B row → (∀ r, row = some r → W1.heap.size ≤ r ∧ NoL Tl A r) → B.heap[i]? = some o := by
    intro A B row i o hi ho hg' hr
    exact (hg'.block i (Array.getElem?_eq_some_iff.1 ho).1 (fun e => by have := (hr i e.symm).1; omega)).trans ho
  have less : ∀ {A : World} {row : Option Nat}, (∀ r, row = some r → W1.heap.size ≤ r ∧ NoL Tl A r) → ∀ r, row = some r → w.heap.size ≤ r ∧ NoL Tl A r := fun hr r e => ⟨by have := (hr r e).1; omega, (hr r e).2⟩
  refine (hseq (w.heap.size + 1) (fun k W => I k W ∧ W.heap[w.heap.size + 1]? = some (.loop (rec0 .ready none)) ∧ W.heap[w.heap.size]? = some (.deferred (some [])))
    (fun k W => ∃ c, Ix c k W ∧ W.heap[w.heap.size + 1]? = some (.loop (rec0 .done (some c))) ∧ W.heap[w.heap.size]? = some (.deferred (some []))) W1 hb1
    (fun s A B row hs hg' hr => ⟨hI s A B row hs.1 hg' (less hr), kept _ _ (by omega) hs.2.1 hg' hr, kept _ _ (by omega) hs.2.2 hg' hr⟩)
    (fun s A B row hs hg' hr => by
      obtain ⟨c, h1, h2, h3⟩ := hs
      exact ⟨c, hIx c s A B row h1 hg' (less hr), kept _ _ (by omega) h2 hg' hr, kept _ _ (by omega) h3 hg' hr⟩)
    ?_ ⟨hi1, hl1, hd1⟩).mono ?_
  · -- a round
    rintro k x args W ⟨hi, hl, hd⟩ hat henc hWs
    have hlt : w.heap.size + 1 < W.heap.size := (Array.getElem?_eq_some_iff.1 hl).1
    have hy := run_yield (P := P) (args := args) hl (hps x _ _ henc)
    refine ⟨fn, _, assign, body, hy, roundIn_of_wpIn hfn (hassign _ k x args W _ hi hat henc (by omega) ?_)⟩
    intro a' W2 hk2 hp2 hib
    have hl2 := hk2.same _ _ (by omega) hl rfl
    have hd2 := hk2.same _ _ (by omega) hd rfl
    have hlt2 : w.heap.size + 1 < W2.heap.size := (Array.getElem?_eq_some_iff.1 hl2).1
    refine ⟨_, run_beginRound hl2 rfl, ?_⟩
    have hl3 : (W2.putObj (w.heap.size + 1) (.loop { rec0 .ready none with state := .busy })).heap[w.heap.size + 1]? = some (.loop { rec0 .ready none with state := .busy }) := World.putObj_heap_same hlt2
    have hd3 : (W2.putObj (w.heap.size + 1) (.loop { rec0 .ready none with state := .busy })).heap[w.heap.size]? = some (.deferred (some [])) := (World.putObj_heap_other (by omega)).trans hd2
    have hp3 : Kp W (W2.putObj (w.heap.size + 1) (.loop { rec0 .ready none with state := .busy })) := hKt hp2 (hKb _ _ _ _ (by omega) hl2 rfl rfl)
    have hk3 : KeepsFrom W1.heap.size W (W2.putObj (w.heap.size + 1) (.loop { rec0 .ready none with state := .busy })) :=
      KeepsFrom.trans ⟨hk2.size, fun i o hB h h' => hk2.same i o (by omega) h h'⟩ (KeepsFrom.of_grownBy (grownBy_putObj' W2 _ _) (fun j e => by injection e with e; omega))
    refine wpIn_mono (hbody _ k x a' _ (by omega) ⟨_, hl3⟩ ((hIb x a').putObj _ hib (by omega) hl2 rfl) hat (by rw [World.putObj_size]; omega)) ?_
    intro e a3 W4 hp
    have fin : ∀ (jump : Code), KeepsFrom w.heap.size (W2.putObj (w.heap.size + 1) (.loop { rec0 .ready none with state := .busy })) W4 → Ix jump (k + 1) W4 →
        ∃ v w', (Instr.endRound (w.heap.size + 1) (some jump)).run P W4 = .ok v w' ∧ KeepsFrom W1.heap.size W w' ∧ Ending.returned v = .returned (.bool false) ∧
          ∃ c, Ix c (k + 1) w' ∧ w'.heap[w.heap.size + 1]? = some (.loop (rec0 .done (some c))) ∧ w'.heap[w.heap.size]? = some (.deferred (some [])) := fun jump hk4 hi4 => by
      have hl4 := hk4.same _ _ (by omega) hl3 rfl
      have hlt4 : w.heap.size + 1 < W4.heap.size := (Array.getElem?_eq_some_iff.1 hl4).1
      exact ⟨_, _, run_endRound (P := P) (some jump) hl4, (hk3.trans ⟨hk4.size, fun i o hB h h' => hk4.same i o (by omega) h h'⟩).trans (KeepsFrom.of_grownBy (grownBy_putObj' W4 _ _) (fun j e => by injection e with e; omega)), rfl, jump, (hIx _).put _ hi4 (by omega) hl4 rfl, World.putObj_heap_same hlt4, (World.putObj_heap_other (by omega)).trans (hk4.same _ _ (by omega) hd3 rfl)⟩
    cases e with
    | normal =>
      obtain ⟨hk4, hp4, hi4⟩ := hp
      have hl4 := hk4.same _ _ (by omega) hl3 rfl
      have hlt4 : w.heap.size + 1 < W4.heap.size := (Array.getElem?_eq_some_iff.1 hl4).1
      refine ⟨_, _, run_endRound (P := P) none hl4, (hk3.trans ⟨hk4.size, fun i o hB h h' => hk4.same i o (by omega) h h'⟩).trans (KeepsFrom.of_grownBy (grownBy_putObj' W4 _ _) (fun j e => by injection e with e; omega)), .inl ⟨rfl, ⟨hI.put _ hi4 (by omega) hl4 rfl, World.putObj_heap_same hlt4, (World.putObj_heap_other (by omega)).trans (hk4.same _ _ (by omega) hd3 rfl)⟩, ?_⟩⟩
      exact hKt (hKt hp3 hp4) (hKb _ _ _ _ (by omega) hl4 rfl rfl)
    | ret => obtain ⟨v, w', hr, e0, e1, e2⟩ := fin .ret hp.1 hp.2; exact ⟨v, w', hr, e0, .inr ⟨e1, e2⟩⟩
    | exit id => obtain ⟨v, w', hr, e0, e1, e2⟩ := fin (.exit id) hp.1 hp.2; exact ⟨v, w', hr, e0, .inr ⟨e1, e2⟩⟩
    | goto t => obtain ⟨v, w', hr, e0, e1, e2⟩ := fin (.goto t) hp.1 hp.2; exact ⟨v, w', hr, e0, .inr ⟨e1, e2⟩⟩
    | panic ch => exact hp.elim
    | outgrown => exact hp.elim
  · -- behind the iterator
    rintro e W2 ⟨⟨v, rfl⟩, (⟨k, hk, hi, hl, hd⟩ | ⟨k, c, hi, hl, hd⟩)⟩
    · exact ⟨none, _, run_endLoop (P := P) hl (by simp [rec0]), hdone _ k _ (Nat.le_refl _) hk (hI.put _ hi (by omega) hl rfl) ((World.putObj_heap_other (by omega)).trans hd)⟩
    · exact ⟨some c, _, run_endLoop (P := P) hl (by simp [rec0]), hstop _ c k _ (Nat.le_refl _) ((hIx c).put _ hi (by omega) hl rfl) ((World.putObj_heap_other (by omega)).trans hd)⟩
end Go.Proofs.YtlinmcgmkpkpaaaDoor.Range
namespace Go.Proofs.YtlinmcgmkpkpaaaDoor.Cn
open Go.RowKit Rs Vm
def bareR (r : R) : R := if r.d = true then RD else ⟨false, r.k, r.v, 0⟩
def goesB (so r : R) : Bool := !r.d && (!so.d && decide (r.k = so.k))
def joinR (F : Int → Int → Int) (so r : R) : R := ⟨false, so.k, F so.v r.v, 0⟩
def finR (G : Int → Int → Int) (so : R) : R := if so.d = true then RD else ⟨false, so.k, G so.k so.v, 0⟩
def outR (G : Int → Int → Int) (so r : R) : R := if goesB so r = true then RD else finR G so
def nextR (F : Int → Int → Int) (so r : R) : R := if goesB so r = true then joinR F so r else bareR r
def outs (F G : Int → Int → Int) : R → List R → List R
  | _, [] => []
  | so, r :: l => outR G so r :: outs F G (nextR F so r) l
def ends (F : Int → Int → Int) : R → List R → R
  | so, [] => so
  | so, r :: l => ends F (nextR F so r) l
section
variable {F G : Int → Int → Int}
theorem outs_append : ∀ (so : R) (l m : List R), outs F G so (l ++ m) = outs F G so l ++ outs F G (ends F so l) m
  | _, [], _ => rfl
  | so, r :: l, m => by rw [List.cons_append, outs, outs, ends, outs_append, List.cons_append]
theorem ends_append : ∀ (so : R) (l m : List R), ends F so (l ++ m) = ends F (ends F so l) m
  | _, [], _ => rfl
  | so, r :: l, m => by rw [List.cons_append, ends, ends, ends_append]
theorem outs_length : ∀ (so : R) (l : List R), (outs F G so l).length = l.length
  | _, [] => rfl
  | so, r :: l => by rw [outs, List.length_cons, outs_length, List.length_cons]
theorem bare_bare (r : R) : bareR (bareR r) = bareR r := by
  unfold bareR
  cases h : r.d <;> rfl
theorem bare_dead : bareR RD = RD := rfl
theorem bare_alive {r : R} (h : r.d = false) : bareR r = ⟨false, r.k, r.v, 0⟩ := by rw [bareR, h]; rfl
theorem goes_bare (so r : R) : goesB (bareR so) r = goesB so r := by
  unfold goesB bareR
  cases h : so.d <;> simp_all [RD]
theorem next_bare (so r : R) : nextR F (bareR so) r = nextR F so r := by
  rw [nextR, nextR, goes_bare]
  cases h : goesB so r
  · rfl
  · have hd : so.d = false := by
      cases hd : so.d
      · rfl
      · simp [goesB, hd] at h
    rw [if_pos rfl, if_pos rfl, joinR, joinR, bare_alive hd]
theorem bare_next (so r : R) : bareR (nextR F so r) = nextR F so r := by
  unfold nextR
  split
  · rfl
  · exact bare_bare r
theorem bare_ends : ∀ (so : R) (l : List R), bareR (ends F so l) = ends F (bareR so) l
  | _, [] => rfl
  | so, r :: l => by rw [ends, ends, bare_ends, bare_next, next_bare]
theorem wf_dead : RD.wf := ⟨rfl, rfl, rfl⟩
theorem bare_wf {r : R} (h : r.wf) : (bareR r).wf := by
  unfold bareR
  split
  · exact wf_dead
  · exact ⟨h.1, h.2.1, rfl⟩
theorem next_wf (hF : ∀ a b : Int, (Lit.int .i64 a).wf = true → (Lit.int .i64 b).wf = true → (Lit.int .i64 (F a b)).wf = true) {so r : R} (hs : so.wf) (hr : r.wf) : (nextR F so r).wf := by
  unfold nextR
  split
  · exact ⟨hs.1, hF _ _ hs.2.1 hr.2.1, rfl⟩
  · exact bare_wf hr
theorem fin_wf (hG : ∀ a b : Int, (Lit.int .i64 a).wf = true → (Lit.int .i64 b).wf = true → (Lit.int .i64 (G a b)).wf = true) {so : R} (hs : so.wf) : (finR G so).wf := by
  unfold finR
  split
  · exact wf_dead
  · exact ⟨hs.1, hG _ _ hs.1 hs.2.1, rfl⟩
theorem out_wf (hG : ∀ a b : Int, (Lit.int .i64 a).wf = true → (Lit.int .i64 b).wf = true → (Lit.int .i64 (G a b)).wf = true) {so r : R} (hs : so.wf) : (outR G so r).wf := by
  unfold outR
  split
  · exact wf_dead
  · exact fin_wf hG hs
theorem ends_wf (hF : ∀ a b : Int, (Lit.int .i64 a).wf = true → (Lit.int .i64 b).wf = true → (Lit.int .i64 (F a b)).wf = true) : ∀ (so : R) (l : List R), so.wf → (∀ r ∈ l, r.wf) → (ends F so l).wf
  | _, [], h, _ => h
  | so, r :: l, h, hl => ends_wf hF _ l (next_wf hF h (hl r (by simp))) (fun x hx => hl x (by simp [hx]))
theorem outs_wf (hF : ∀ a b : Int, (Lit.int .i64 a).wf = true → (Lit.int .i64 b).wf = true → (Lit.int .i64 (F a b)).wf = true) (hG : ∀ a b : Int, (Lit.int .i64 a).wf = true → (Lit.int .i64 b).wf = true → (Lit.int .i64 (G a b)).wf = true) :
    ∀ (so : R) (l : List R), so.wf → (∀ r ∈ l, r.wf) → ∀ x ∈ outs F G so l, x.wf
  | _, [], _, _, x, hx => by cases hx
  | so, r :: l, h, hl, x, hx => by
    rw [outs] at hx
    rcases List.mem_cons.1 hx with rfl | hx
    · exact out_wf hG h
    · exact outs_wf hF hG _ l (next_wf hF h (hl r (by simp))) (fun x hx => hl x (by simp [hx])) x hx
end
end Go.Proofs.YtlinmcgmkpkpaaaDoor.Cn
