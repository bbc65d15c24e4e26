/-
  Blocks that are sorted, and then split pair by pair, round by round, as a network says that sorts numbers, are sorted, block behind block: a block of each pair may be picked, backwards, that has a record behind c, or none.
  A list of lists of records that a call owns, and each of whose lists it owns: read, appended to, one of them exchanged.
  The document's own answer for package bitonic: the first places of a round's pairs, and how far the second ones are, by its contract.
  What the frame of a proof says of a list of records that came in.
-/
import Derived.Test.YtbhgonnonhiocaaB5
import Derived.Test.YtbhgonnonhiocaaB8
import Derived.Test.YtbhgonnonhiocaaB2
import Derived.Test.YtbhgonnonhiocaaB6
import Derived.Test.YtbhgonnonhiocaaB4
import Derived.Test.YtbhgonnonhiocaaB3
import Derived.WideShapes
import Derived.ChangeArms
set_option linter.unusedVariables false
namespace Go.Proofs.Ytbhgonnonhiocaa.Mg
open Rc Rs
section
variable (seq : Bool)
theorem srt_pair : ∀ (l : List R), Srt seq l ↔ l.Pairwise (fun a b => lead seq b a = false)
  | [] => ⟨fun _ => List.Pairwise.nil, fun _ => trivial⟩
  | a :: l => by
    have ih := srt_pair l
    rw [List.pairwise_cons, ← ih]
    constructor
    · intro h
      exact ⟨fun x hx => h.head seq x hx, h.tail⟩
    · rintro ⟨h1, h2⟩
      cases l with
      | nil => trivial
      | cons b l => exact ⟨h1 b (by simp), h2⟩
theorem both_sides (c : R) (X : List R) : X.countP (lead seq c) + X.countP (fun x => !lead seq c x) = X.length := by
  induction X with
  | nil => rfl
  | cons x X ih =>
    rw [List.countP_cons, List.countP_cons, List.length_cons]
    cases lead seq c x <;> simp <;> omega
theorem has_one {c : R} {X : List R} (h : 0 < X.countP (lead seq c)) : ∃ x ∈ X, lead seq c x = decide ((1 : Int) = 1) := by
  obtain ⟨x, hx, h⟩ := List.countP_pos_iff.1 h
  exact ⟨x, hx, by rw [h]; rfl⟩
theorem has_zero {c : R} {X : List R} (h : 0 < X.countP (fun x => !lead seq c x)) : ∃ x ∈ X, lead seq c x = decide ((0 : Int) = 1) := by
  obtain ⟨x, hx, h⟩ := List.countP_pos_iff.1 h
  exact ⟨x, hx, by simpa using h⟩
theorem pick_back (c : R) {A B : List R} {s : Nat} (hs : 0 < s) (hA : A.length = s) (hB : B.length = s) {l h : Int} (hl : l = 0 ∨ l = 1) (hh : h = 0 ∨ h = 1)
    (e1 : ∃ x ∈ (sortR seq (A ++ B)).take s, lead seq c x = decide (l = 1)) (e2 : ∃ x ∈ (sortR seq (A ++ B)).drop s, lead seq c x = decide (h = 1)) :
    l ≤ h ∧ ∃ p q : Int, (∃ x ∈ A, lead seq c x = decide (p = 1)) ∧ (∃ x ∈ B, lead seq c x = decide (q = 1)) ∧ ((p = l ∧ q = h) ∨ (p = h ∧ q = l)) := by
  have hm : (sortR seq (A ++ B)).length = s + s := by rw [sortR_length, List.length_append, hA, hB]
  have hS := sortR_sorts seq (A ++ B)
  have c1 := (sortR_perm seq (A ++ B)).countP_eq (lead seq c)
  have c0 := (sortR_perm seq (A ++ B)).countP_eq (fun x => !lead seq c x)
  generalize sortR seq (A ++ B) = m at *
  rw [List.countP_append] at c1 c0
  rw [← List.take_append_drop s m, List.countP_append] at c1 c0
  have low : ∀ x ∈ m.take s, ∀ y ∈ m.drop s, lead seq c x = true → lead seq c y = true := fun x hx y hy h => by
    obtain ⟨i, hi, rfl⟩ := List.mem_iff_getElem.1 hx
    obtain ⟨j, hj, rfl⟩ := List.mem_iff_getElem.1 hy
    rw [List.length_take] at hi
    rw [List.length_drop] at hj
    have := Srt.two seq hS (i := i) (j := s + j) (by omega) (by omega)
    rw [List.getD_eq_getElem?_getD, List.getD_eq_getElem?_getD, List.getElem?_eq_getElem (by omega), List.getElem?_eq_getElem (by omega)] at this
    simp only [Option.getD_some] at this
    rw [List.getElem_take] at h
    rw [List.getElem_drop]
    exact lead_of seq h this
  have lt : (m.take s).length = s := by rw [List.length_take]; omega
  have ld : (m.drop s).length = s := by rw [List.length_drop]; omega
  have bA := both_sides seq c A
  have bB := both_sides seq c B
  have bt := both_sides seq c (m.take s)
  have bd := both_sides seq c (m.drop s)
  obtain ⟨x, hx, ex⟩ := e1
  obtain ⟨y, hy, ey⟩ := e2
  rcases hl with rfl | rfl <;> rcases hh with rfl | rfl
  · have ey : lead seq c y = false := ey
    have z1 : (m.take s).countP (lead seq c) = 0 := by
      rw [List.countP_eq_zero]
      intro u hu hu1
      rw [low u hu y hy hu1] at ey
      cases ey
    have z2 : 0 < (m.drop s).countP (fun x => !lead seq c x) := List.countP_pos_iff.2 ⟨y, hy, by simp [ey]⟩
    exact ⟨by omega, 0, 0, has_zero seq (by omega), has_zero seq (by omega), .inl ⟨rfl, rfl⟩⟩
  · have z1 : 0 < (m.take s).countP (fun x => !lead seq c x) := List.countP_pos_iff.2 ⟨x, hx, by simpa using ex⟩
    have z2 : 0 < (m.drop s).countP (lead seq c) := List.countP_pos_iff.2 ⟨y, hy, by simpa using ey⟩
    refine ⟨by omega, ?_⟩
    by_cases hk : 0 < A.countP (lead seq c) ∧ 0 < B.countP (fun x => !lead seq c x)
    · exact ⟨1, 0, has_one seq hk.1, has_zero seq hk.2, .inr ⟨rfl, rfl⟩⟩
    · exact ⟨0, 1, has_zero seq (by omega), has_one seq (by omega), .inl ⟨rfl, rfl⟩⟩
  · have ex : lead seq c x = true := by simpa using ex
    have ey : lead seq c y = false := ey
    rw [low x hx y hy ex] at ey
    cases ey
  · have ex : lead seq c x = true := by simpa using ex
    have z1 : (m.drop s).countP (fun x => !lead seq c x) = 0 := by
      rw [List.countP_eq_zero]
      intro u hu hu1
      rw [low x hx u hu ex] at hu1
      cases hu1
    have z2 : 0 < (m.take s).countP (lead seq c) := List.countP_pos_iff.2 ⟨x, hx, ex⟩
    exact ⟨by omega, 1, 1, has_one seq (by omega), has_one seq (by omega), .inl ⟨rfl, rfl⟩⟩
def blk (bs : List (List R)) (a : Nat) : List R := bs.getD a []
def lowB (bs : List (List R)) (a d : Nat) : List R := (sortR seq (blk bs a ++ blk bs (a + d))).take (blk bs a).length
def highB (bs : List (List R)) (a d : Nat) : List R := (sortR seq (blk bs a ++ blk bs (a + d))).drop (blk bs a).length
def splitB (d : Nat) (up : Nat → Bool) (bs : List (List R)) (a : Nat) : List (List R) := (bs.set a (if up a then lowB seq bs a d else highB seq bs a d)).set (a + d) (if up a then highB seq bs a d else lowB seq bs a d)
theorem splitB_length (d : Nat) (up : Nat → Bool) (bs : List (List R)) (a : Nat) : (splitB seq d up bs a).length = bs.length := by simp [splitB]
def Even (s : Nat) (bs : List (List R)) : Prop := ∀ x ∈ bs, x.length = s ∧ Srt seq x
theorem blk_mem {bs : List (List R)} {a : Nat} (h : a < bs.length) : blk bs a ∈ bs := by
  unfold blk
  rw [List.getD_eq_getElem?_getD, List.getElem?_eq_getElem h]
  exact List.getElem_mem h
theorem mem_sets {α : Type} {l : List α} {i j : Nat} {u v x : α} (h : x ∈ (l.set i u).set j v) : x = v ∨ x = u ∨ x ∈ l := by
  rcases List.mem_or_eq_of_mem_set h with h | h
  · rcases List.mem_or_eq_of_mem_set h with h | h
    · exact .inr (.inr h)
    · exact .inr (.inl h)
  · exact .inl h
theorem Even.split {s d : Nat} {up : Nat → Bool} {bs : List (List R)} {a : Nat} (h : Even seq s bs) (ha : a + d < bs.length) : Even seq s (splitB seq d up bs a) := by
  have hA := (h _ (blk_mem (by omega : a < bs.length))).1
  have hB := (h _ (blk_mem ha)).1
  have hlo : (lowB seq bs a d).length = s ∧ Srt seq (lowB seq bs a d) := by
    refine ⟨?_, (sortR_sorts seq _).take seq _⟩
    unfold lowB
    rw [List.length_take, sortR_length, List.length_append]; omega
  have hhi : (highB seq bs a d).length = s ∧ Srt seq (highB seq bs a d) := by
    refine ⟨?_, (sortR_sorts seq _).drop seq _⟩
    unfold highB
    rw [List.length_drop, sortR_length, List.length_append]; omega
  intro x hx
  rcases mem_sets hx with rfl | rfl | hx
  · split
    · exact hhi
    · exact hlo
  · split
    · exact hlo
    · exact hhi
  · exact h x hx
def Cmp (c : R) (bs : List (List R)) (v : List Int) : Prop := v.length = bs.length ∧ ∀ b, b < bs.length → (v.getD b 0 = 0 ∨ v.getD b 0 = 1) ∧ ∃ x ∈ blk bs b, lead seq c x = decide (v.getD b 0 = 1)
theorem getD_set {α : Type} {l : List α} {i j : Nat} {u z : α} (hi : i < l.length) : (l.set i u).getD j z = if i = j then u else l.getD j z := by
  rw [List.getD_eq_getElem?_getD, List.getElem?_set]
  by_cases h : i = j
  · rw [if_pos h, if_pos hi, if_pos h]; rfl
  · rw [if_neg h, if_neg h, List.getD_eq_getElem?_getD]
theorem ext_getD {l m : List Int} (h : l.length = m.length) (he : ∀ i, i < l.length → l.getD i 0 = m.getD i 0) : l = m := by
  refine List.ext_getElem h fun i h1 h2 => ?_
  have := he i h1
  rwa [List.getD_eq_getElem?_getD, List.getD_eq_getElem?_getD, List.getElem?_eq_getElem h1, List.getElem?_eq_getElem h2] at this
theorem back_step (c : R) {s d : Nat} (hs : 0 < s) (hd : 0 < d) {up : Nat → Bool} {bs : List (List R)} {a : Nat} (h : Even seq s bs) (ha : a + d < bs.length) {v' : List Int} (hv : Cmp seq c (splitB seq d up bs a) v') : ∃ v, Cmp seq c bs v ∧ Net.sw d up v a = v' := by
  obtain ⟨hvl, hv⟩ := hv
  rw [splitB_length] at hvl hv
  have hA := (h _ (blk_mem (by omega : a < bs.length))).1
  have hB := (h _ (blk_mem ha)).1
  have hblk : ∀ b, blk (splitB seq d up bs a) b = if a + d = b then (if up a then highB seq bs a d else lowB seq bs a d) else if a = b then (if up a then lowB seq bs a d else highB seq bs a d) else blk bs b := fun b => by
    unfold blk splitB
    rw [getD_set (by simpa using ha), getD_set (by omega)]
  have va := hv a (by omega)
  have vd := hv (a + d) ha
  rw [hblk, if_neg (by omega), if_pos rfl] at va
  rw [hblk, if_pos rfl] at vd
  obtain ⟨q, hq⟩ : ∃ q, v'.getD a 0 = q := ⟨_, rfl⟩
  obtain ⟨r, hr⟩ : ∃ r, v'.getD (a + d) 0 = r := ⟨_, rfl⟩
  rw [hq] at va
  rw [hr] at vd
  have hp : ∃ p1 p2 : Int, (p1 = 0 ∨ p1 = 1) ∧ (p2 = 0 ∨ p2 = 1) ∧ (∃ x ∈ blk bs a, lead seq c x = decide (p1 = 1)) ∧ (∃ x ∈ blk bs (a + d), lead seq c x = decide (p2 = 1)) ∧ (if decide (p1 > p2) = up a ∧ p1 ≠ p2 then q = p2 ∧ r = p1 else q = p1 ∧ r = p2) := by
    cases hu : up a with
    | true =>
      rw [hu] at va vd
      simp only [if_true] at va vd
      obtain ⟨hle, p1, p2, h1, h2, h3⟩ := pick_back seq c hs hA hB va.1 vd.1 (by have := va.2; rw [lowB, hA] at this; exact this) (by have := vd.2; rw [highB, hA] at this; exact this)
      have v0 := va.1
      have v1 := vd.1
      refine ⟨p1, p2, ?_, ?_, h1, h2, ?_⟩
      · rcases h3 with ⟨rfl, rfl⟩ | ⟨rfl, rfl⟩ <;> assumption
      · rcases h3 with ⟨rfl, rfl⟩ | ⟨rfl, rfl⟩ <;> assumption
      · rcases h3 with ⟨rfl, rfl⟩ | ⟨rfl, rfl⟩
        · rw [if_neg]; exact ⟨rfl, rfl⟩
          rintro ⟨k, _⟩
          simp at k
          omega
        · split
          · exact ⟨rfl, rfl⟩
          · rename_i k
            by_cases e : p1 = p2
            · exact ⟨e.symm, e⟩
            · exact absurd ⟨by simp; omega, e⟩ k
    | false =>
      rw [hu] at va vd
      simp only [Bool.false_eq_true, if_false] at va vd
      obtain ⟨hle, p1, p2, h1, h2, h3⟩ := pick_back seq c hs hA hB vd.1 va.1 (by have := vd.2; rw [lowB, hA] at this; exact this) (by have := va.2; rw [highB, hA] at this; exact this)
      have v0 := va.1
      have v1 := vd.1
      refine ⟨p1, p2, ?_, ?_, h1, h2, ?_⟩
      · rcases h3 with ⟨rfl, rfl⟩ | ⟨rfl, rfl⟩ <;> assumption
      · rcases h3 with ⟨rfl, rfl⟩ | ⟨rfl, rfl⟩ <;> assumption
      · rcases h3 with ⟨rfl, rfl⟩ | ⟨rfl, rfl⟩
        · split
          · exact ⟨rfl, rfl⟩
          · rename_i k
            by_cases e : p1 = p2
            · exact ⟨e.symm, e⟩
            · exact absurd ⟨by simp; omega, e⟩ k
        · rw [if_neg]; exact ⟨rfl, rfl⟩
          rintro ⟨k, k2⟩
          simp at k
          omega
  obtain ⟨p1, p2, b1, b2, x1, x2, hsw⟩ := hp
  have hva : a < v'.length := by omega
  have hvd : a + d < v'.length := by omega
  have hg : ∀ j, ((v'.set a p1).set (a + d) p2).getD j 0 = if a + d = j then p2 else if a = j then p1 else v'.getD j 0 := fun j => by
    rw [getD_set (by simpa using hvd), getD_set hva]
  refine ⟨(v'.set a p1).set (a + d) p2, ⟨by simpa using hvl, fun b hb => ?_⟩, ?_⟩
  · rw [hg]
    by_cases e1 : a + d = b
    · rw [if_pos e1, ← e1]; exact ⟨b2, x2⟩
    · rw [if_neg e1]
      by_cases e2 : a = b
      · rw [if_pos e2, ← e2]; exact ⟨b1, x1⟩
      · rw [if_neg e2]
        have := hv b hb
        rw [hblk, if_neg e1, if_neg e2] at this
        exact this
  · refine ext_getD (by rw [Net.sw_length]; simp) fun j hj => ?_
    rw [Net.sw_length] at hj
    simp only [List.length_set] at hj
    have ga : ((v'.set a p1).set (a + d) p2).getD a 0 = p1 := by rw [hg, if_neg (by omega), if_pos rfl]
    have gd : ((v'.set a p1).set (a + d) p2).getD (a + d) 0 = p2 := by rw [hg, if_pos rfl]
    unfold Net.sw
    rw [ga, gd]
    by_cases k : decide (p1 > p2) = up a ∧ p1 ≠ p2
    · rw [if_pos k] at hsw ⊢
      rw [getD_set (by simpa using hvd), getD_set (by simpa using hva)]
      by_cases e1 : a + d = j
      · rw [if_pos e1, ← e1, hr]; exact hsw.2.symm
      · rw [if_neg e1]
        by_cases e2 : a = j
        · rw [if_pos e2, ← e2, hq]; exact hsw.1.symm
        · rw [if_neg e2, hg, if_neg e1, if_neg e2]
    · rw [if_neg k] at hsw ⊢
      rw [hg]
      by_cases e1 : a + d = j
      · rw [if_pos e1, ← e1, hr]; exact hsw.2.symm
      · rw [if_neg e1]
        by_cases e2 : a = j
        · rw [if_pos e2, ← e2, hq]; exact hsw.1.symm
        · rw [if_neg e2]
theorem foldB_length (d : Nat) (up : Nat → Bool) : ∀ (ps : List Nat) (bs : List (List R)), (ps.foldl (splitB seq d up) bs).length = bs.length
  | [], _ => rfl
  | a :: ps, bs => by rw [List.foldl_cons, foldB_length d up ps, splitB_length]
theorem Even.fold {s d : Nat} {up : Nat → Bool} : ∀ (ps : List Nat) (bs : List (List R)), Even seq s bs → (∀ a ∈ ps, a + d < bs.length) → Even seq s (ps.foldl (splitB seq d up) bs)
  | [], _, h, _ => h
  | a :: ps, bs, h, hp => by
    rw [List.foldl_cons]
    exact Even.fold ps _ (h.split seq (hp a (by simp))) fun b hb => by rw [splitB_length]; exact hp b (by simp [hb])
theorem back_fold (c : R) {s d : Nat} (hs : 0 < s) (hd : 0 < d) {up : Nat → Bool} : ∀ (ps : List Nat) (bs : List (List R)), Even seq s bs → (∀ a ∈ ps, a + d < bs.length) → ∀ v', Cmp seq c (ps.foldl (splitB seq d up) bs) v' → ∃ v, Cmp seq c bs v ∧ ps.foldl (Net.sw d up) v = v'
  | [], _, _, _, v', hv => ⟨v', hv, rfl⟩
  | a :: ps, bs, h, hp, v', hv => by
    have ha := hp a (by simp)
    obtain ⟨v1, h1, h2⟩ := back_fold c hs hd ps (splitB seq d up bs a) (h.split seq ha) (fun b hb => by rw [splitB_length]; exact hp b (by simp [hb])) v' hv
    obtain ⟨v, h3, h4⟩ := back_step seq c hs hd h ha h1
    exact ⟨v, h3, by rw [List.foldl_cons, h4, h2]⟩
def roundB (n : Nat) (bs : List (List R)) (st : Nat × Nat) : List (List R) := (Net.firsts (2 ^ (st.2 - 1)) n).foldl (splitB seq (2 ^ (st.2 - 1)) (Net.ups st.1)) bs
def roundV (n : Nat) (v : List Int) (st : Nat × Nat) : List Int := (Net.firsts (2 ^ (st.2 - 1)) n).foldl (Net.sw (2 ^ (st.2 - 1)) (Net.ups st.1)) v
theorem roundB_length (n : Nat) (bs : List (List R)) (st : Nat × Nat) : (roundB seq n bs st).length = bs.length := foldB_length seq _ _ _ _
theorem runB_length (n : Nat) : ∀ (sch : List (Nat × Nat)) (bs : List (List R)), (sch.foldl (roundB seq n) bs).length = bs.length
  | [], _ => rfl
  | st :: sch, bs => by rw [List.foldl_cons, runB_length n sch, roundB_length]
theorem foldV_length (d : Nat) (up : Nat → Bool) : ∀ (ps : List Nat) (v : List Int), (ps.foldl (Net.sw d up) v).length = v.length
  | [], _ => rfl
  | a :: ps, v => by rw [List.foldl_cons, foldV_length d up ps, Net.sw_length]
theorem round_places {S : Nat} {st : Nat × Nat} (h1 : 1 ≤ st.2) (h2 : st.2 ≤ S) : ∀ a ∈ Net.firsts (2 ^ (st.2 - 1)) (2 ^ S), a + 2 ^ (st.2 - 1) < 2 ^ S := fun a ha => Bi.pair_lt h1 h2 ha
theorem Even.round {s S : Nat} {st : Nat × Nat} (h1 : 1 ≤ st.2) (h2 : st.2 ≤ S) {bs : List (List R)} (h : Even seq s bs) (hl : bs.length = 2 ^ S) : Even seq s (roundB seq (2 ^ S) bs st) :=
  Even.fold seq _ _ h fun a ha => by rw [hl]; exact round_places h1 h2 a ha
theorem Even.run {s S : Nat} : ∀ (sch : List (Nat × Nat)) (bs : List (List R)), (∀ st ∈ sch, 1 ≤ st.2 ∧ st.2 ≤ S) → Even seq s bs → bs.length = 2 ^ S → Even seq s (sch.foldl (roundB seq (2 ^ S)) bs)
  | [], _, _, h, _ => h
  | st :: sch, bs, hst, h, hl => by
    rw [List.foldl_cons]
    obtain ⟨h1, h2⟩ := hst st (by simp)
    exact Even.run sch _ (fun st' h' => hst st' (by simp [h'])) (h.round seq h1 h2 hl) (by rw [roundB_length, hl])
theorem back_run (c : R) {s S : Nat} (hs : 0 < s) : ∀ (sch : List (Nat × Nat)) (bs : List (List R)), (∀ st ∈ sch, 1 ≤ st.2 ∧ st.2 ≤ S) → Even seq s bs → bs.length = 2 ^ S → ∀ v', Cmp seq c (sch.foldl (roundB seq (2 ^ S)) bs) v' → ∃ v, Cmp seq c bs v ∧ sch.foldl (roundV (2 ^ S)) v = v'
  | [], _, _, _, _, v', hv => ⟨v', hv, rfl⟩
  | st :: sch, bs, hst, h, hl, v', hv => by
    obtain ⟨h1, h2⟩ := hst st (by simp)
    obtain ⟨v1, h3, h4⟩ := back_run c hs sch (roundB seq (2 ^ S) bs st) (fun st' h' => hst st' (by simp [h'])) (h.round seq h1 h2 hl) (by rw [roundB_length, hl]) v' hv
    obtain ⟨v, h5, h6⟩ := back_fold seq c hs (Nat.two_pow_pos _) _ bs h (fun a ha => by rw [hl]; exact round_places h1 h2 a ha) v1 h3
    exact ⟨v, h5, by rw [List.foldl_cons, ← h4, ← h6]; rfl⟩
theorem behind_run {f0 : Nat → Int} {S : Nat} : ∀ (sch : List (Nat × Nat)) (r : Nat) (v : List Int), Bi.Behind f0 r v → v.length = 2 ^ S → (∀ i, i < sch.length → Bi.Stp S ((r + i : Nat) : Int) (sch.getD i (0, 0)).1 (sch.getD i (0, 0)).2) → Bi.Behind f0 (r + sch.length) (sch.foldl (roundV (2 ^ S)) v)
  | [], _, _, h, _, _ => h
  | st :: sch, r, v, h, hl, hst => by
    have h0 := hst 0 (by simp)
    have h1 := Bi.behind_round h (by simpa using h0) hl rfl
    have := behind_run sch (r + 1) _ h1 (by rw [foldV_length, hl]) (fun i hi => by
      have := hst (i + 1) (by simpa using hi)
      rw [List.getD_cons_succ] at this
      rwa [show r + 1 + i = r + (i + 1) by omega])
    rw [List.foldl_cons, List.length_cons, show r + (sch.length + 1) = r + 1 + sch.length by omega]
    exact this
theorem run_sorts {s S : Nat} (hs : 0 < s) {sch : List (Nat × Nat)} (hn : sch.length = Bi.tri S) (hst : ∀ i, i < sch.length → Bi.Stp S (i : Int) (sch.getD i (0, 0)).1 (sch.getD i (0, 0)).2) {bs : List (List R)} (h : Even seq s bs) (hl : bs.length = 2 ^ S) :
    Srt seq (sch.foldl (roundB seq (2 ^ S)) bs).flatten := by
  have hst' : ∀ st ∈ sch, 1 ≤ st.2 ∧ st.2 ≤ S := fun st hm => by
    obtain ⟨i, hi, rfl⟩ := List.mem_iff_getElem.1 hm
    have := hst i hi
    rw [List.getD_eq_getElem?_getD, List.getElem?_eq_getElem hi, Option.getD_some] at this
    obtain ⟨k1, k2, k3, _⟩ := this
    exact ⟨k1, by omega⟩
  have he := Even.run seq sch bs hst' h hl
  have hlen := runB_length seq (2 ^ S) sch bs
  have hb := fun c => back_run seq c hs sch bs hst' h hl
  generalize sch.foldl (roundB seq (2 ^ S)) bs = zs at *
  rw [srt_pair, List.pairwise_flatten]
  refine ⟨fun l hm => (srt_pair seq l).1 (he l hm).2, ?_⟩
  rw [List.pairwise_iff_getElem]
  intro i j hi hj hij x hx y hy
  cases hL : lead seq y x with
  | false => rfl
  | true =>
    exfalso
    have blk_get : ∀ b (hb : b < zs.length), blk zs b = zs[b] := fun b hb => by unfold blk; rw [List.getD_eq_getElem?_getD, List.getElem?_eq_getElem hb]; rfl
    let w : List Int := (List.range zs.length).map fun b => if b = i then 1 else if b = j then 0 else if (blk zs b).any (lead seq y) then 1 else 0
    have hw : ∀ b, b < zs.length → w.getD b 0 = if b = i then 1 else if b = j then 0 else if (blk zs b).any (lead seq y) then 1 else 0 := fun b hb => by
      show ((List.range zs.length).map _).getD b 0 = _
      rw [List.getD_eq_getElem?_getD, List.getElem?_map, List.getElem?_range hb]
      rfl
    have hc : Cmp seq y zs w := by
      refine ⟨by simp [w], fun b hb' => ?_⟩
      rw [hw b hb']
      by_cases e1 : b = i
      · rw [if_pos e1]
        refine ⟨.inr rfl, x, ?_, by rw [hL]; rfl⟩
        rw [e1, blk_get i hi]; exact hx
      · rw [if_neg e1]
        by_cases e2 : b = j
        · rw [if_pos e2]
          refine ⟨.inl rfl, y, ?_, by rw [lead_irr]; rfl⟩
          rw [e2, blk_get j hj]; exact hy
        · rw [if_neg e2]
          by_cases e3 : (blk zs b).any (lead seq y) = true
          · rw [if_pos e3]
            obtain ⟨u, hu, hu1⟩ := List.any_eq_true.1 e3
            exact ⟨.inr rfl, u, hu, by rw [hu1]; rfl⟩
          · rw [if_neg e3]
            have hlb := (he _ (blk_mem hb')).1
            have h0 : 0 < (blk zs b).length := by omega
            refine ⟨.inl rfl, (blk zs b)[0], List.getElem_mem h0, ?_⟩
            have : (blk zs b).any (lead seq y) = false := by simpa using e3
            rw [List.any_eq_false] at this
            have := this _ (List.getElem_mem h0)
            rw [Bool.not_eq_true] at this
            rw [this]; rfl
    obtain ⟨v, hv, hv2⟩ := hb y w hc
    have hbe := behind_run (S := S) sch 0 v (Bi.behind_start v) (by rw [hv.1, hl]) (fun i hi => by simpa using hst i hi)
    rw [hv2, Nat.zero_add, hn] at hbe
    have := Bi.behind_end hbe (x := i) (y := j) (by omega) (by omega)
    rw [hw i hi, hw j hj, if_pos rfl, if_neg (by omega), if_pos rfl] at this
    omega
end
end Go.Proofs.Ytbhgonnonhiocaa.Mg
namespace Go.Proofs.Ytbhgonnonhiocaa.Mg
open Go.RowKit Go.Shelf Go.Proofs.Ytbhgonnonhiocaa Mem Held Rc Rs Sl
def slV (p : Option Addr × Nat × Nat) : Value := .slice p.1 p.2.1 p.2.2
def kS : St (Option Addr × Nat × Nat) := ⟨1, fun p => [slV p], fun _ => True, (none, 0, 0), fun _ => rfl, fun p u hu => by rw [List.mem_singleton.1 hu]; rfl, by omega⟩
theorem info_kS : (Try.prog.info? 22).map (fun i => (i.zero, i.size, i.bytes)) = some (some (.slice none 0 0), kS.s, 24) := info_lists
theorem flat_kS (vs : List (Option Addr × Nat × Nat)) : Sl.flat kS vs = vs.map slV := by
  unfold Sl.flat
  induction vs with
  | nil => rfl
  | cons p vs ih => rw [List.flatMap_cons, ih]; rfl
section
variable {t : TypeId} {w : World} {base g n cap : Nat} {vs : List (Option Addr × Nat × Nat)}
theorem slot_cell (h : OwnL kS t w base (.slice (some ⟨g, 0, none⟩) n cap) vs) {j : Nat} (hj : j < n) : w.cell? ⟨g, j, none⟩ = some (slV (vs.getD j kS.d)) ∧ g < w.heap.size := by
  obtain ⟨b, off, e, hb, hr⟩ := (OwnL.lst h (fun _ _ => trivial)).at_ hj
  injection e with e
  injection e with e1 e2
  subst e1
  subst e2
  have := hr 0 _ rfl
  have hm : kS.s = 1 := rfl
  rw [hm, Nat.mul_one, Nat.zero_add, Nat.add_zero] at this
  exact ⟨this, hb⟩
theorem slot_set (h : OwnL kS t w base (.slice (some ⟨g, 0, none⟩) n cap) vs) {j : Nat} (hj : j < vs.length) (p : Option Addr × Nat × Nat) :
    (∃ u, w.cell? ⟨g, j, none⟩ = some u) ∧ w.frozen? ⟨g, j, none⟩ = false ∧ OwnL kS t (w.setCell ⟨g, j, none⟩ (slV p)) base (.slice (some ⟨g, 0, none⟩) n cap) (vs.set j p) := by
  rcases h.2 with ⟨e, _⟩ | ⟨g', cap', cur, e, hb, hg, hnc, hcm, hcs, ht⟩
  · cases e
  · injection e with e1 e2 e3
    injection e1 with e1
    injection e1 with e1
    subst e1
    subst e3
    have hcs : cur.size = cap * 1 := hcs
    have ht : cur.toList.take (vs.length * 1) = Sl.flat kS vs := ht
    have hlt : j < cur.size := by omega
    have hb' : Blk (w.setCell ⟨g, j, none⟩ (slV p)) g t (cur.setIfInBounds j (slV p)) := Blk.set (w := w) (cs := cur) hg _ _
    refine ⟨⟨cur[j], by rw [cell_of_row w g _ _ _ (0, 0) hg]; exact Array.getElem?_eq_getElem hlt⟩, by simp [World.frozen?, hg], Sl.flat_length kS _, .inr ⟨g, cap, _, by rw [List.length_set]; exact congrArg (fun n => Value.slice (some ⟨g, 0, none⟩) n cap) e2, hb, hb', by rw [List.length_set]; exact hnc, hcm, by rw [Array.size_setIfInBounds]; exact hcs, ?_⟩⟩
    rw [List.length_set, Array.toList_setIfInBounds]
    show (cur.toList.set j (slV p)).take (vs.length * 1) = _
    rw [List.take_set, ht, flat_kS, flat_kS, List.map_set]
end
section
variable {ops : Array Oper} {rest : List Oper} {o : Oper} {a : Act} {w : World} {Q : Exit → Act → World → Prop}
theorem wpList_store_slot (hw : Region.wanted o (yielded ops a.tmps) = true) (x y : Operand) (ho : o.op = .store 22 x y) (base g n cap j : Nat) (vs : List (Option Addr × Nat × Nat)) (p : Option Addr × Nat × Nat) (hx : a.eval x = .pointer (some ⟨g, j, none⟩)) (hy : a.eval y = slV p)
    (hown : OwnL kS 22 w base (.slice (some ⟨g, 0, none⟩) n cap) vs) (hj : j < vs.length)
    (h : ∀ w', OwnL kS 22 w' base (.slice (some ⟨g, 0, none⟩) n cap) (vs.set j p) → w.grownBy w' (some g) → wpList Try.prog ops Q rest (a.put o.dst undef) w') : wpList Try.prog ops Q (o :: rest) a w := by
  have hsz : (Try.prog.info? 22).map (·.size) = some 1 := by kernel_rfl
  obtain ⟨⟨u, h1⟩, h2, h3⟩ := slot_set hown hj p
  refine wpList_step fun _ hK => ?_
  rw [if_pos hw]
  unfold Oper.wp execOp
  simp only [ho, hx, hy, Instr.storeAt, Instr.sureAddr, Sem.run_bind, Sem.run_pure, Result.andThen_ok, run_store_elem 22 g _ u (slV p) h1 h2 hsz rfl rfl]
  exact hK _ _ (h _ h3 (grown_setCell _ _ _ _))
theorem wpList_build_slot (hgd : o.guard = none) (x : Operand) (ho : o.op = .buildSlice 36 1 #[(0, x)]) (p : Option Addr × Nat × Nat) (hx : a.eval x = slV p)
    (h : ∀ w', Lst kS w' w'.heap.size (some ⟨w.heap.size, 0, none⟩) 1 [p] → w.grownBy w' none → wpList Try.prog ops Q rest (a.put o.dst (.slice (some ⟨w.heap.size, 0, none⟩) 1 1)) w') : wpList Try.prog ops Q (o :: rest) a w := by
  obtain ⟨ie, hie, hz, hs, _⟩ := info_parts info_lists
  refine Go.wpList_buildSlice hgd 36 22 1 #[(0, x)] ho #[slV p] ie _ Try.underlying36 hie hz (by rw [hs]; omega) (by rw [hs]; omega) ?_ (h _ (lst_whole (k := kS) (t := 22) (heap_alloc_new w _) rfl (fun _ _ => trivial)) (World.grownBy_alloc w _ none))
  rw [hs]
  simp only [List.map_toArray, List.map_cons, List.map_nil, hx]
  refine (Great.fill_whole (s := 1) (by omega) [slV p] _ (fun v hv => ?_) (by simp)).trans ?_
  · rw [List.mem_singleton.1 hv]; rfl
  · rfl
end
def Tb (w : World) (base : Nat) (vs : List (Option Addr × Nat × Nat)) (bs : List (List R)) : Prop :=
  vs.length = bs.length ∧ ∀ i, i < vs.length → OwnL kRec 26 w base (slV (vs.getD i kS.d)) (bs.getD i [])
section
variable {w w' : World} {base : Nat} {vs : List (Option Addr × Nat × Nat)} {bs : List (List R)}
theorem Tb.nil (w : World) (base : Nat) : Tb w base [] [] := ⟨rfl, fun i h => absurd h (by simp)⟩
theorem Tb.below (h : Tb w base vs bs) (hb : Below w.heap.size w w') : Tb w' base vs bs := ⟨h.1, fun i hi => OwnL.below (h.2 i hi) hb⟩
theorem Tb.grown {row : Option Nat} (h : Tb w base vs bs) (hg : w.grownBy w' row) (hr : ∀ r, row = some r → ∃ cs, w.heap[r]? = some (.cells cs 22 (0, 0))) : Tb w' base vs bs := by
  refine ⟨h.1, fun i hi => ?_⟩
  have ho := h.2 i hi
  refine own_new ho hg fun r e b hb e2 => ?_
  obtain ⟨cs, hcs⟩ := hr r e
  obtain ⟨cs2, hcs2⟩ := own_cells ho hb
  rw [e2, hcs] at hcs2
  injection hcs2 with hcs2
  injection hcs2 with _ hcs2
  exact absurd hcs2 (by decide)
theorem Tb.snoc (h : Tb w base vs bs) {p : Option Addr × Nat × Nat} {X : List R} (ho : OwnL kRec 26 w base (slV p) X) : Tb w base (vs ++ [p]) (bs ++ [X]) := by
  refine ⟨by simp [h.1], fun i hi => ?_⟩
  have hl := h.1
  simp only [List.getD_eq_getElem?_getD]
  by_cases hlt : i < vs.length
  · rw [List.getElem?_append_left hlt, List.getElem?_append_left (by omega)]
    have := h.2 i hlt
    simpa only [List.getD_eq_getElem?_getD] using this
  · have : i = vs.length := by simp at hi; omega
    subst this
    rw [List.getElem?_append_right (Nat.le_refl _), List.getElem?_append_right (by omega), Nat.sub_self, show vs.length - bs.length = 0 by omega]
    exact ho
theorem Tb.set (h : Tb w base vs bs) {j : Nat} {p : Option Addr × Nat × Nat} {X : List R} (hj : j < vs.length) (ho : OwnL kRec 26 w base (slV p) X) : Tb w base (vs.set j p) (bs.set j X) := by
  have hl := h.1
  refine ⟨by simp [hl], fun i hi => ?_⟩
  rw [getD_set hj, getD_set (by omega)]
  by_cases e : j = i
  · rw [if_pos e, if_pos e]; exact ho
  · rw [if_neg e, if_neg e]; exact h.2 i (by simpa using hi)
end
end Go.Proofs.Ytbhgonnonhiocaa.Mg
namespace Go.Proofs.Ytbhgonnonhiocaa.Bi
open Go.RowKit Go.Shelf Go.Proofs.Ytbhgonnonhiocaa Mem Held Help Go.Proofs.Ytbhgonnonhiocaa.Range
attribute [local go_sem] Oper.semAt_some
attribute [local irreducible] wpList wpListIn Calls
set_option maxRecDepth 100000 in
set_option maxHeartbeats 4000000 in
theorem rround_own (n r : Int) (s t : Nat) (ok : Bool) (w : World) (h0 : -9223372036854775808 ≤ n) (h1 : n ≤ 9223372036854775807) (hF : Found (stg n) r s t ok) :
    Calls Try.prog 19 #[.int .i64 n, .int .i64 r] w fun e w' => ∃ A c, e = .returned (.tuple #[.slice A (pairsOf n t ok).length c, .int .i64 (if ok then 2 ^ (t - 1) else 0)]) ∧ Mem.Own w' w.heap.size 3 .i64 (.slice A (pairsOf n t ok).length c) (xsOf (pairsOf n t ok)) ∧ Below w.heap.size w w' := by
  have H := rof_any n r s t ok w h0 h1 hF
  have hI := hF.is
  have hz : ok = false → s = 0 := fun h => by
    rcases hF with ⟨h2, _⟩ | ⟨_, h2, _⟩
    · rw [h] at h2; cases h2
    · exact h2
  clear hF h0 h1
  cases ok with
  | false =>
    obtain rfl := hz rfl
    have hp : pairsOf n t false = [] := rfl
    rw [hp]
    go_enter Try.func19, Try.ntmps19
    go_wp2_with fail
    refine H.mono ?_
    rintro e w1 ⟨rfl, rfl⟩
    go_wp2_with fail
    go_ret2
    exact ⟨none, 0, rfl, Mem.Own.nil _ _ _ _, Below.refl _ _⟩
  | true =>
    obtain ⟨hn, t1, t2, t3, t4⟩ := hI rfl
    have hd := two_nat (t - 1)
    have hd1 := two_pos (t - 1)
    have hd2 := two_16 (show t - 1 ≤ 16 by omega)
    obtain ⟨M, hM⟩ : ∃ M : Nat, 2 ^ stg n = M := ⟨_, rfl⟩
    have hM16 : M ≤ 65536 := by rw [← hM]; exact Nat.pow_le_pow_right (by omega) t4
    rw [hM] at hn
    obtain ⟨dN, hdN⟩ : ∃ dN : Nat, 2 ^ (t - 1) = dN := ⟨_, rfl⟩
    have HP := Lib.hid (show pairsOf n t true = Net.firsts dN M by unfold pairsOf; rw [if_pos rfl, hdN, hn]; rfl)
    rw [hdN] at hd
    have hsh := fun W : World => Rc.run_shl_ (P := Try.prog) 3 .i64 .u64 (a := 1) (t - 1) (by show t - 1 ≤ 64; omega) W
    rw [show (1 : Int) * 2 ^ (t - 1) = 2 ^ (t - 1) by omega, hd] at hsh
    rw [hd] at hd1 hd2
    rw [show IntKind.i64.wrap (dN : Int) = (dN : Int) by rw [IntKind.wrap_i64]; omega] at hsh
    have hsub : IntKind.i64.wrap ((t : Int) - 1) = ((t - 1 : Nat) : Int) := by rw [IntKind.wrap_i64]; omega
    have hc1 : IntKind.u64.wrap ((t - 1 : Nat) : Int) = ((t - 1 : Nat) : Int) := by rw [IntKind.wrap_u64]; omega
    have hs0 : ¬ (s : Int) = 0 := by omega
    have HFS := Lib.hid (fun k => show xsOf (Net.firsts dN (k + 1)) = xsOf (Net.firsts dN k) ++ (if k / dN % 2 = 0 then [(k : Int)] else []) by rw [Net.firsts_succ]; simp only [xsOf, List.map_append]; split <;> simp)
    have HFL := Lib.hid (fun k => show (xsOf (Net.firsts dN k)).length ≤ k by simp only [xsOf, List.length_map]; exact firsts_length_le dN k)
    have HEL := Lib.hid (show (xsOf (Net.firsts dN M)).length = (Net.firsts dN M).length by simp [xsOf])
    have hdi : (if true = true then (2 : Int) ^ (t - 1) else 0) = (dN : Int) := by rw [if_pos rfl, hd]
    rw [HP.out, hdi]
    subst hn
    clear hI hz hd hdi hdN hM HP t3 t4 t2
    go_enter Try.func19, Try.ntmps19
    go_wp2_with fail
    refine H.mono ?_
    rintro e w1 ⟨rfl, rfl⟩
    clear H
    go_wp2_with (first
      | (refine Held.wpList_run (w := w) rfl (v := .int .i64 ((t - 1 : Nat) : Int)) (y_sub (S := fun _ => True) (t : Int) 1 rfl rfl rfl hsub _ trivial) ?_)
      | (refine Held.wpList_run (w := w) rfl (v := .int .u64 ((t - 1 : Nat) : Int)) (Held.y_convert (S := fun _ => True) rfl rfl (by kernel_rfl) Try.underlying35 hc1 _ trivial) ?_)
      | (refine Held.wpList_run (w := w) rfl (v := .int .i64 (dN : Int)) (y_shl (S := fun _ => True) 1 ((t - 1 : Nat) : Int) rfl rfl rfl hsh _ trivial) ?_))
    clear hsh hsub hc1
    go_loopw [9, 10] (fun v i wr => ∃ k : Nat, k ≤ M ∧ i = .int .i64 k ∧ Mem.Own wr w.heap.size 3 .i64 v (xsOf (Net.firsts dN k)) ∧ Below w.heap.size w wr) (fun _ i _ => M - (intOf i).toNat)
    case atStart => exact ⟨0, by omega, rfl, Mem.Own.nil _ _ _ _, Below.refl _ _⟩
    case round =>
      obtain ⟨k, hk, rfl, hown, hb⟩ := hrel
      obtain ⟨A1, c1, rfl, _, _, _⟩ := hown.form
      have hsz := hb.size
      by_cases hlt : k < M
      · have hlt' : (k : Int) < (M : Int) := by omega
        obtain ⟨m, hm⟩ : ∃ m, (xsOf (Net.firsts dN k)).length = m := ⟨_, rfl⟩
        have hm2 := HFL.out k
        have HST := Lib.hid (HFS.out k)
        rw [hm] at hown hm2 ⊢
        have HM := Lib.hid hm
        obtain ⟨qa, qb⟩ := quo_of (show 0 ≤ (k : Int) by omega) hd1 (by omega)
        have rb := rem_of qb
        have hbit : ((k : Int) / (dN : Int) % 2 = 0) ↔ k / dN % 2 = 0 := by rw [← Int.natCast_ediv]; omega
        have hq := fun W => Held.run_quo (P := Try.prog) 3 .i64 (a := (k : Int)) (b := (dN : Int)) (r := (k : Int) / dN) (by omega) qa W
        have hr := fun W => Held.run_rem (P := Try.prog) 3 .i64 (a := (k : Int) / dN) (b := 2) (r := (k : Int) / dN % 2) (by omega) rb W
        generalize (k : Int) / dN = q at *
        generalize q % 2 = z at *
        have wk : ∀ x ∈ [(k : Int)], (Lit.int .i64 x).wf = true := by intro x hx; rw [List.mem_singleton] at hx; rw [hx]; exact wf_i64 (by omega) (by omega)
        clear qa qb rb hm
        by_cases hz : z = 0
        · have hst := HST.out
          rw [if_pos (hbit.1 hz)] at hst
          have HS2 := Lib.hid hst
          subst hz
          clear hst hbit
          go_wp2_with (first
            | (refine Held.wpList_run (w := wr) rfl (v := .int .i64 q) (y_quo (S := fun _ => True) (k : Int) (dN : Int) rfl rfl rfl hq _ trivial) ?_)
            | (refine Held.wpList_run (w := wr) rfl (v := .int .i64 0) (y_rem (S := fun _ => True) q 2 rfl rfl rfl hr _ trivial) ?_)
            | (refine Held.wpList_build_row (w := wr) rfl 38 3 1 _ rfl .i64 8 [(k : Int)] Try.underlying38 info_int (by simp [Act.eval]) rfl (by omega) (by omega) wk ?_; intro w3 r3 g3 z3; have o3 := hown.kept g3 (by cases (Value.slice A1 m c1).ownBlock <;> simp); have i3 : Ints w3 .i64 w3.heap.size (some ⟨wr.heap.size, 0, none⟩) 1 [(k : Int)] := r3.ints (n := 1) (by simp))
            | (at_builtin; refine wpList_append_ints w3 rfl _ _ 38 rfl w.heap.size 3 .i64 8 Try.underlying38 info_int (.slice A1 m c1) _ rfl o3 w3.heap.size (some ⟨wr.heap.size, 0, none⟩) 1 1 [(k : Int)] rfl i3 (by rw [HM.out]; omega) (by omega) (by have := g3.size; omega) ?_; intro v4 w4 o4 g4 t4))
          obtain ⟨A4, c4, rfl, _, _, _⟩ := o4.form
          go_roundw
          case rel => exact ⟨k + 1, by omega, by go_num, by rw [HS2.out]; exact o4, (hb.grown g3 hb.size (by simp)).grown g4 (by have := g3.size; have := hb.size; omega) (fun r e => (o3.2.lt r e).1)⟩
          case measure => simp [intOf]; omega
        · have hst := HST.out
          rw [if_neg (fun h => hz (hbit.2 h)), List.append_nil] at hst
          have HS2 := Lib.hid hst
          have hzb : (z == 0) = false := by simpa using hz
          clear hst hbit
          go_wp2_with (first
            | (refine Held.wpList_run (w := wr) rfl (v := .int .i64 q) (y_quo (S := fun _ => True) (k : Int) (dN : Int) rfl rfl rfl hq _ trivial) ?_)
            | (refine Held.wpList_run (w := wr) rfl (v := .int .i64 z) (y_rem (S := fun _ => True) q 2 rfl rfl rfl hr _ trivial) ?_))
          go_roundw
          case rel => exact ⟨k + 1, by omega, by go_num, by rw [HS2.out]; exact hown, hb⟩
          case measure => simp [intOf]; omega
      · have hkM : k = M := by omega
        subst hkM
        rw [HEL.out] at hown ⊢
        go_wp2_with fail
        go_ret2
        exact ⟨A1, c1, rfl, hown, hb⟩
end Go.Proofs.Ytbhgonnonhiocaa.Bi
namespace Go.Proofs.Ytbhgonnonhiocaa.Rs
open Go.RowKit Go.ChangeShapes Go.WideShapes Mem Rc
theorem cells_four {w : World} {base : Nat} {a : Addr} {cs : List Value} (h : w.cells? base a 4 = some cs) : cs.length = 4 ∧ ∀ j, j < 4 → w.cell? (a.add j) = cs[j]? := by
  obtain ⟨h1, h2, h3⟩ := World.cells?_some h
  exact ⟨h2, h3⟩
section
variable {H : Type} {enc : TypeId × Value → H} {w : World} {base : Nat} {held : Bool}
theorem open_one {n : Nat} {cs : List Value} {x : DataW H × List MemPlace} (h : DataW.trod enc Try.prog w base (fun _ => true) held n 26 cs = some x) : ∃ r : R, cs = r.cells ∧ r.wf := by
  obtain ⟨f0, f1, f2, f3, hu, ⟨o0, t0⟩, ⟨o1, t1⟩, ⟨o2, t2⟩, ⟨o3, t3⟩⟩ := rec_fields
  obtain ⟨xs, m, _, _, hl, hxl, hel⟩ := DataW.trod_struct hu h
  have cb : Try.prog.cellsOf 4 = 1 := by kernel_rfl
  have ci : Try.prog.cellsOf 2 = 1 := by kernel_rfl
  have c4 : Try.prog.cellsOf 26 = 4 := by kernel_rfl
  rw [c4] at hl
  have hx4 : xs.length = 4 := hxl
  have e0 := hel 0 f0 rfl
  have e1 := hel 1 f1 rfl
  have e2 := hel 2 f2 rfl
  have e3 := hel 3 f3 rfl
  rw [o0, t0, cb] at e0
  rw [o1, t1, ci] at e1
  rw [o2, t2, ci] at e2
  rw [o3, t3, ci] at e3
  obtain ⟨z0, q0⟩ := field_bool (by omega) Try.underlying4 e0 (by simp [hx4])
  obtain ⟨z1, q1, w1⟩ := field_int (by omega) Try.underlying2 e1 (by simp [hx4])
  obtain ⟨z2, q2, w2⟩ := field_int (by omega) Try.underlying2 e2 (by simp [hx4])
  obtain ⟨z3, q3, w3⟩ := field_int (by omega) Try.underlying2 e3 (by simp [hx4])
  refine ⟨⟨z0, z1, z2, z3⟩, ?_, w1, w2, w3⟩
  apply List.ext_getElem?
  intro i
  match i with
  | 0 => exact q0
  | 1 => exact q1
  | 2 => exact q2
  | 3 => exact q3
  | i + 4 => rw [List.getElem?_eq_none (by omega), List.getElem?_eq_none (by simp [R.cells])]
set_option maxRecDepth 100000 in
theorem open_recs {A : Option Addr} {m c : Nat} {d : DataW H} {p : List MemPlace} (h : DataW.Trod enc Try.prog w base (fun _ => true) held 22 (.slice A m c) d p) : ∃ rs, Recs w w.heap.size A m rs ∧ m ≤ c ∧ c ≤ maxLen := by
  obtain ⟨fuel, hf⟩ := h
  simp only [Value.cells] at hf
  rcases DataW.trod_slice Try.underlying22 hf with ⟨hcs, _⟩ | ⟨a, len, cap, elems, rest, n, _, hcs, _, hb, hl, hm, hlen, hel, _, _⟩
  · simp at hcs
    obtain ⟨rfl, rfl, rfl⟩ := hcs
    exact ⟨[], Recs.nil _ _ _, Nat.le_refl _, by simp [maxLen]⟩
  · simp at hcs
    obtain ⟨rfl, rfl, rfl⟩ := hcs
    have c4 : Try.prog.cellsOf 26 = 4 := by kernel_rfl
    have each : ∀ i, i < m → ∃ r : R, r.wf ∧ ∀ j, j < 4 → w.cell? ((a.add (i * 4)).add j) = r.cells[j]? := fun i hi => by
      have hi' : i < elems.length := by rw [hlen]; exact hi
      have e := hel i hi
      rw [c4, List.getElem?_eq_getElem hi', Option.bind_eq_some_iff] at e
      obtain ⟨cs, hc, ht⟩ := e
      obtain ⟨r, rfl, hw⟩ := open_one ht
      exact ⟨r, hw, (cells_four hc).2⟩
    have hch : ∃ F : Nat → R, ∀ i, i < m → (F i).wf ∧ ∀ j, j < 4 → w.cell? ((a.add (i * 4)).add j) = (F i).cells[j]? :=
      ⟨fun i => if h : i < m then Classical.choose (each i h) else R0, fun i hi => by
        have := Classical.choose_spec (each i hi)
        simp only [hi, dif_pos]
        exact this⟩
    obtain ⟨F, hF⟩ := hch
    refine ⟨(List.range m).map F, ⟨by simp, fun r hr => ?_, fun h0 => ?_⟩, hl, hm⟩
    · obtain ⟨i, hi, rfl⟩ := List.mem_map.1 hr
      exact (hF i (List.mem_range.1 hi)).1
    · have h00 := (hF 0 h0).2 0 (by omega)
      have hsome : ∃ u, w.cell? (a.add 0) = some u := ⟨_, by simpa [R.cells, Addr.add] using h00⟩
      obtain ⟨u, hu⟩ := hsome
      obtain ⟨b, off, spot⟩ := a
      have hspot : spot = none := by simpa [Addr.add] using World.cell?_spot hu
      subst hspot
      have hlt : b < w.heap.size := by simpa [Addr.add] using World.block_lt_of_cell? w _ hu
      have ea : ∀ o j : Nat, (Addr.mk b o none).add j = ⟨b, o + j, none⟩ := fun o j => by unfold Addr.add; split <;> simp_all
      refine ⟨b, off, rfl, hlt, fun q v hv => ?_⟩
      have hq := (List.getElem?_eq_some_iff.1 hv).1
      rw [flat_length] at hq
      simp only [List.length_map, List.length_range] at hq
      have hv' := hv
      rw [show q = q / 4 * 4 + q % 4 by omega, flat_at _ (q / 4) (q % 4) (by omega) (by simp; omega)] at hv'
      have hg : ((List.range m).map F).getD (q / 4) R0 = F (q / 4) := by
        rw [List.getD_eq_getElem?_getD, List.getElem?_map, List.getElem?_range (by omega)]
        rfl
      rw [hg, ← (hF (q / 4) (by omega)).2 (q % 4) (by omega), ea, ea, Nat.add_assoc, show q / 4 * 4 + q % 4 = q by omega] at hv'
      exact hv'
end
end Go.Proofs.Ytbhgonnonhiocaa.Rs
