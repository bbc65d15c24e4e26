/-
  A job's blocks, stage by stage, as plain functions; what comes out in the end is each key, by rising keys, with its values folded in the order in which they came, and finished: whatever the blocks' size.
  A round of a network whose blocks go into a new list of blocks, pair by pair, is the round in place; blocks whose records fit their kinds stay such.
-/
import Derived.Test.YtlinmcgmkpkpaaaDoorB11
set_option linter.unusedVariables false
namespace Go.Proofs.YtlinmcgmkpkpaaaDoor.Pi
open Go.RowKit Rc Rs Vm Mg Cn
def nextS (p : Nat × Nat) : Nat × Nat := if p.2 = 1 then (p.1 + 1, p.1 + 1) else (p.1, p.2 - 1)
def stp : Nat → Nat × Nat
  | 0 => (1, 1)
  | r + 1 => nextS (stp r)
theorem stp_at : ∀ r, 1 ≤ (stp r).2 ∧ (stp r).2 ≤ (stp r).1 ∧ r = Bi.tri ((stp r).1 - 1) + ((stp r).1 - (stp r).2)
  | 0 => by simp [stp, Bi.tri]
  | r + 1 => by
    obtain ⟨h1, h2, h3⟩ := stp_at r
    rw [stp]
    generalize stp r = p at *
    obtain ⟨s, t⟩ := p
    dsimp only at *
    unfold nextS
    dsimp only
    by_cases ht : t = 1
    · rw [if_pos ht]
      dsimp only
      refine ⟨by omega, by omega, ?_⟩
      have := Bi.tri_succ (s - 1)
      rw [show s - 1 + 1 = s by omega] at this
      rw [show s + 1 - 1 = s by omega]
      omega
    · rw [if_neg ht]
      dsimp only
      exact ⟨by omega, by omega, by omega⟩
theorem stp_is {S r : Nat} (h : r < Bi.tri S) : Bi.Stp S (r : Int) (stp r).1 (stp r).2 := by
  obtain ⟨h1, h2, h3⟩ := stp_at r
  refine ⟨h1, h2, ?_, by exact_mod_cast h3⟩
  rcases Nat.lt_or_ge S (stp r).1 with h4 | h4
  · have := Bi.tri_mono (show S ≤ (stp r).1 - 1 by omega)
    omega
  · exact h4
def behB (seq : Bool) (M : Nat) (bs : List (List R)) : Nat → List (List R)
  | 0 => bs
  | r + 1 => roundB seq M (behB seq M bs r) (stp r)
theorem behB_fold (seq : Bool) (M : Nat) (bs : List (List R)) : ∀ r, behB seq M bs r = ((List.range r).map stp).foldl (roundB seq M) bs
  | 0 => rfl
  | r + 1 => by rw [behB, behB_fold seq M bs r, List.range_succ, List.map_append, List.foldl_append]; rfl
theorem behB_length (seq : Bool) (M : Nat) (bs : List (List R)) : ∀ r, (behB seq M bs r).length = bs.length
  | 0 => rfl
  | r + 1 => by rw [behB, roundB_length, behB_length seq M bs r]
def atI (K : Int) (m f e : List O) (ps : List (Int × Int)) (i : Nat) : List R := mapR K m f e i (ps.getD i (0, 0)).1 (ps.getD i (0, 0)).2
def flatTo (K : Int) (m f e : List O) (ps : List (Int × Int)) (n : Nat) : List R := (List.range n).flatMap (atI K m f e ps)
theorem flatTo_succ (K : Int) (m f e : List O) (ps : List (Int × Int)) (n : Nat) : flatTo K m f e ps (n + 1) = flatTo K m f e ps n ++ mapR K m f e n (ps.getD n (0, 0)).1 (ps.getD n (0, 0)).2 := by simp [flatTo, List.range_succ, atI]
def flatIn (K : Int) (m f e : List O) (ps : List (Int × Int)) : List R := flatTo K m f e ps ps.length
def chunk (B : Nat) : Nat → List R → List (List R)
  | 0, _ => []
  | c + 1, l => l.take B :: chunk B c (l.drop B)
def padded (K : Int) (m f e : List O) (ps : List (Int × Int)) (L : Nat) : List R := flatIn K m f e ps ++ List.replicate (L - (flatIn K m f e ps).length) RD
def mapB (K : Int) (m f e : List O) (ps : List (Int × Int)) (B M : Nat) : List (List R) := (chunk B M (padded K m f e ps (M * B))).map (sortR true)
def foldC (F G : Int → Int → Int) : R → List (List R) → List (List R)
  | _, [] => []
  | so, b :: bs => sortR false (outs F G so b) :: foldC F G (ends F so b) bs
def stgB (K : Int) (m f e : List O) (ps : List (Int × Int)) (B M T n : Nat) : List (List R) :=
  if n = 0 then [] else if n ≤ 1 + T then behB true M (mapB K m f e ps B M) (n - 1)
  else behB false M (foldC (foldV K m f e) (finishV K m f e) RD (behB true M (mapB K m f e ps B M) T)) (n - 2 - T)
def tellP (bs : List (List R)) : List (Int × Int) := (bs.flatten.filter fun r => !r.d).map fun r => (r.k, r.v)
theorem chunk_length (B : Nat) : ∀ (c : Nat) (l : List R), (chunk B c l).length = c
  | 0, _ => rfl
  | c + 1, l => by rw [chunk, List.length_cons, chunk_length B c]
theorem chunk_mem (B : Nat) : ∀ (c : Nat) (l : List R), l.length = c * B → ∀ x ∈ chunk B c l, x.length = B
  | 0, _, _ => fun x hx => by cases hx
  | c + 1, l, h => fun x hx => by
    rw [Nat.succ_mul] at h
    rw [chunk] at hx
    rcases List.mem_cons.1 hx with rfl | hx
    · rw [List.length_take]; omega
    · exact chunk_mem B c _ (by rw [List.length_drop]; omega) x hx
theorem chunk_flat (B : Nat) : ∀ (c : Nat) (l : List R), l.length = c * B → (chunk B c l).flatten = l
  | 0, l, h => by
    rw [Nat.zero_mul] at h
    rw [List.eq_nil_of_length_eq_zero h]; rfl
  | c + 1, l, h => by
    rw [Nat.succ_mul] at h
    rw [chunk, List.flatten_cons, chunk_flat B c _ (by rw [List.length_drop]; omega), List.take_append_drop]
theorem chunk_get (B : Nat) : ∀ (c : Nat) (l : List R) (i : Nat), i < c → (chunk B c l).getD i [] = (l.drop (i * B)).take B
  | 0, _, _, h => absurd h (by omega)
  | c + 1, l, 0, _ => by simp [chunk]
  | c + 1, l, i + 1, h => by
    rw [chunk, List.getD_cons_succ, chunk_get B c _ i (by omega), List.drop_drop, Nat.succ_mul]
    congr 2
    omega
theorem sort_flat (seq : Bool) : ∀ bs : List (List R), ((bs.map (sortR seq)).flatten).Perm bs.flatten
  | [] => .refl _
  | b :: bs => by
    rw [List.map_cons, List.flatten_cons, List.flatten_cons]
    exact (sortR_perm seq b).append (sort_flat seq bs)
theorem mapR_len {K : Nat} {m f e : List O} (hC : checkB (K : Int) m f e = true) (n key val : Int) : (mapR (K : Int) m f e n key val).length = K := by
  rw [mapR, if_pos hC, runOut_length, List.length_replicate]; omega
theorem flatTo_length {K : Nat} {m f e : List O} (hC : checkB (K : Int) m f e = true) (ps : List (Int × Int)) : ∀ n, (flatTo (K : Int) m f e ps n).length = n * K
  | 0 => by simp [flatTo]
  | n + 1 => by rw [flatTo_succ, List.length_append, flatTo_length hC ps n, mapR_len hC, Nat.succ_mul]
theorem flatIn_length {K : Nat} {m f e : List O} (hC : checkB (K : Int) m f e = true) (ps : List (Int × Int)) : (flatIn (K : Int) m f e ps).length = ps.length * K := flatTo_length hC ps _
theorem padded_length {K : Nat} {m f e : List O} (hC : checkB (K : Int) m f e = true) (ps : List (Int × Int)) {L : Nat} (h : ps.length * K ≤ L) : (padded (K : Int) m f e ps L).length = L := by
  rw [padded, List.length_append, List.length_replicate, flatIn_length hC]; omega
theorem foldC_length (F G : Int → Int → Int) : ∀ (so : R) (bs : List (List R)), (foldC F G so bs).length = bs.length
  | _, [] => rfl
  | so, b :: bs => by rw [foldC, List.length_cons, foldC_length F G, List.length_cons]
theorem foldC_even (F G : Int → Int → Int) {s : Nat} : ∀ (so : R) (bs : List (List R)), (∀ x ∈ bs, x.length = s) → Even false s (foldC F G so bs)
  | _, [], _ => fun x hx => by cases hx
  | so, b :: bs, h => fun x hx => by
    rw [foldC] at hx
    rcases List.mem_cons.1 hx with rfl | hx
    · exact ⟨by rw [sortR_length, outs_length]; exact h b (by simp), sortR_sorts false _⟩
    · exact foldC_even F G _ bs (fun y hy => h y (by simp [hy])) x hx
theorem foldC_flat (F G : Int → Int → Int) : ∀ (so : R) (bs : List (List R)), ((foldC F G so bs).flatten).Perm (outs F G so bs.flatten)
  | _, [] => .refl _
  | so, b :: bs => by
    rw [foldC, List.flatten_cons, List.flatten_cons, outs_append]
    exact (sortR_perm false _).append (foldC_flat F G _ bs)
theorem behB_even {seq : Bool} {s S : Nat} {bs : List (List R)} (h : Even seq s bs) (hl : bs.length = 2 ^ S) {r : Nat} (hr : r ≤ Bi.tri S) : Even seq s (behB seq (2 ^ S) bs r) := by
  rw [behB_fold]
  refine Even.run seq _ bs (fun st hst => ?_) h hl
  obtain ⟨i, hi, rfl⟩ := List.mem_map.1 hst
  have := stp_is (S := S) (r := i) (by have := List.mem_range.1 hi; omega)
  exact ⟨this.t1, Nat.le_trans this.ts this.sS⟩
theorem behB_sorts {seq : Bool} {s S : Nat} (hs : 0 < s) {bs : List (List R)} (h : Even seq s bs) (hl : bs.length = 2 ^ S) : Srt seq (behB seq (2 ^ S) bs (Bi.tri S)).flatten := by
  rw [behB_fold]
  refine run_sorts seq hs (by simp) (fun i hi => ?_) h hl
  simp only [List.length_map, List.length_range] at hi
  rw [List.getD_eq_getElem?_getD, List.getElem?_map, List.getElem?_range hi]
  exact stp_is hi
theorem set_flat : ∀ (l : List (List R)) (i : Nat) (u : List R), i < l.length → ((l.set i u).flatten ++ l.getD i []).Perm (l.flatten ++ u)
  | [], i, u, h => absurd h (by simp)
  | x :: l, 0, u, _ => by
    simp only [List.set_cons_zero, List.flatten_cons, List.getD_cons_zero]
    have h1 : (x ++ (u ++ l.flatten)).Perm (x ++ (l.flatten ++ u)) := List.Perm.append_left x List.perm_append_comm
    rw [List.append_assoc x]
    exact List.perm_append_comm.trans h1
  | x :: l, i + 1, u, h => by
    simp only [List.set_cons_succ, List.flatten_cons, List.getD_cons_succ]
    rw [List.append_assoc, List.append_assoc]
    exact List.Perm.append_left x (set_flat l i u (by simpa using h))
theorem split_perm (seq : Bool) {d : Nat} (hd : 0 < d) (up : Nat → Bool) {bs : List (List R)} {a : Nat} (h : a + d < bs.length) : ((splitB seq d up bs a).flatten).Perm bs.flatten := by
  unfold splitB
  generalize hu : (if up a then lowB seq bs a d else highB seq bs a d) = u
  generalize hv : (if up a then highB seq bs a d else lowB seq bs a d) = v
  have huv : (u ++ v).Perm (blk bs a ++ blk bs (a + d)) := by
    have h1 : (lowB seq bs a d ++ highB seq bs a d).Perm (blk bs a ++ blk bs (a + d)) := by
      unfold lowB highB
      rw [List.take_append_drop]
      exact sortR_perm seq _
    rw [← hu, ← hv]
    cases up a
    · exact List.perm_append_comm.trans h1
    · exact h1
  have e1 := set_flat bs a u (by omega)
  have e2 := set_flat (bs.set a u) (a + d) v (by simpa using h)
  rw [getD_set (by omega), if_neg (by omega)] at e2
  have e3 : (((bs.set a u).set (a + d) v).flatten ++ (blk bs (a + d) ++ blk bs a)).Perm (bs.flatten ++ (u ++ v)) := by
    rw [← List.append_assoc]
    refine (List.Perm.append_right _ e2).trans ?_
    rw [List.append_assoc]
    refine (List.Perm.append_left _ List.perm_append_comm).trans ?_
    rw [← List.append_assoc, ← List.append_assoc]
    exact List.Perm.append_right v e1
  refine (List.perm_append_right_iff (blk bs (a + d) ++ blk bs a)).1 (e3.trans (List.Perm.append_left _ (huv.trans List.perm_append_comm)))
theorem round_perm (seq : Bool) {S : Nat} {st : Nat × Nat} (h1 : 1 ≤ st.2) (h2 : st.2 ≤ S) {bs : List (List R)} (hl : bs.length = 2 ^ S) : ((roundB seq (2 ^ S) bs st).flatten).Perm bs.flatten := by
  unfold roundB
  have : ∀ (qs : List Nat) (bs : List (List R)), bs.length = 2 ^ S → (∀ a ∈ qs, a + 2 ^ (st.2 - 1) < 2 ^ S) → ((qs.foldl (splitB seq (2 ^ (st.2 - 1)) (Net.ups st.1)) bs).flatten).Perm bs.flatten := fun qs => by
    induction qs with
    | nil => intro bs _ _; exact .refl _
    | cons q qs ih =>
      intro bs hl hq
      rw [List.foldl_cons]
      exact (ih _ (by rw [splitB_length, hl]) (fun a ha => hq a (by simp [ha]))).trans (split_perm seq (Nat.two_pow_pos _) _ (by rw [hl]; exact hq q (by simp)))
  exact this _ bs hl (round_places h1 h2)
theorem behB_perm (seq : Bool) {S : Nat} {bs : List (List R)} (hl : bs.length = 2 ^ S) : ∀ r, r ≤ Bi.tri S → ((behB seq (2 ^ S) bs r).flatten).Perm bs.flatten
  | 0, _ => .refl _
  | r + 1, h => by
    have := stp_is (S := S) (r := r) (by omega)
    rw [behB]
    exact (round_perm seq this.t1 (Nat.le_trans this.ts this.sS) (by rw [behB_length, hl])).trans (behB_perm seq hl r (by omega))
theorem lead_alive (seq : Bool) {a b : R} (ha : a.d = true) (hb : b.d = false) : lead seq b a = true := by
  unfold lead Rc.bef Rc.ahd
  cases seq <;> simp [ha, hb]
theorem srt_split {seq : Bool} : ∀ {l : List R}, Srt seq l → l = (l.filter fun r => !r.d) ++ (l.filter fun r => r.d)
  | [], _ => rfl
  | a :: l, h => by
    have ih := srt_split h.tail
    cases hd : a.d with
    | false =>
      rw [List.filter_cons_of_pos (by simp [hd]), List.filter_cons_of_neg (by simp [hd]), List.cons_append, ← ih]
    | true =>
      have hall : ∀ x ∈ l, x.d = true := fun x hx => by
        cases hx2 : x.d
        · have h1 := Srt.head (seq := seq) h x hx
          rw [lead_alive seq hd hx2] at h1
          cases h1
        · rfl
      have h0 : (l.filter fun r => !r.d) = [] := List.filter_eq_nil_iff.2 fun x hx => by simp [hall x hx]
      rw [List.filter_cons_of_neg (by simp [hd]), List.filter_cons_of_pos (by simp [hd]), h0, List.nil_append]
      rw [h0, List.nil_append] at ih
      rw [← ih]
theorem uniq_by {α : Type} (f : α → Int) : ∀ (X Y : List α), X.Perm Y → X.Pairwise (fun a b => f a ≤ f b) → Y.Pairwise (fun a b => f a < f b) → X = Y
  | [], Y, h, _, _ => by rw [List.nil_perm.1 h]
  | x :: X, [], h, _, _ => absurd h.length_eq (by simp)
  | x :: X, y :: Y, h, hx, hy => by
    obtain ⟨hx1, hx2⟩ := List.pairwise_cons.1 hx
    obtain ⟨hy1, hy2⟩ := List.pairwise_cons.1 hy
    have exy : x = y := by
      rcases List.mem_cons.1 (h.mem_iff.1 (List.mem_cons_self (a := x))) with e | e
      · exact e
      · rcases List.mem_cons.1 (h.mem_iff.2 (List.mem_cons_self (a := y))) with e' | e'
        · exact e'.symm
        · have h1 := hy1 x e
          have h2 := hx1 y e'
          omega
    subst exy
    rw [uniq_by f X Y ((List.perm_cons x).1 h) hx2 hy2]
theorem runOut_says {first : Int} : ∀ (l : List O) (r : List Int) (out : List R), (∀ o ∈ l, o.code = 12 → 0 ≤ o.n) → (∀ (j : Nat) x, out[j]? = some x → x = RD ∨ (x.d = false ∧ x.s = wrap64 (first + j))) →
    ∀ (j : Nat) x, (runOut first l r out)[j]? = some x → x = RD ∨ (x.d = false ∧ x.s = wrap64 (first + j))
  | [], _, _, _, h => h
  | o :: l, r, out, hl, h => by
    refine runOut_says l _ _ (fun o' ho' => hl o' (by simp [ho'])) fun j x hx => ?_
    unfold stepOut at hx
    split at hx
    · rename_i hc
      have h0 := hl o (by simp) hc
      rw [List.getElem?_set] at hx
      split at hx
      · rename_i hj
        split at hx
        · injection hx with hx
          subst hx
          unfold emitR
          split
          · exact .inl rfl
          · refine .inr ⟨rfl, ?_⟩
            show wrap64 (first + o.n) = wrap64 (first + (j : Int))
            rw [← hj, Int.toNat_of_nonneg h0]
        · cases hx
      · exact h j x hx
    · exact h j x hx
theorem may_emits {m : List O} {K : Int} (h : mayP m K = true) : ∀ o ∈ m, o.code = 12 → 0 ≤ o.n := fun o ho hc => by
  simp only [mayP, Bool.and_eq_true, List.all_eq_true, decide_eq_true_eq] at h
  have := h.2 o ho
  simp [mayO, hc] at this
  exact this.2.1
theorem mapR_says {K : Nat} {m f e : List O} (hC : checkB (K : Int) m f e = true) {i : Nat} (hi : i ≤ 64) (key val : Int) (j : Nat) (x : R) (hx : (mapR (K : Int) m f e i key val)[j]? = some x) : x = RD ∨ (x.d = false ∧ x.s = (i * K + j : Nat)) := by
  have hlen := mapR_len hC i key val
  have hj : j < K := by rw [← hlen]; exact (List.getElem?_eq_some_iff.1 hx).1
  have hC' := hC
  simp only [checkB, Bool.and_eq_true, decide_eq_true_eq] at hC'
  have hm := may_emits hC'.1.1.2
  have hK : (K : Int) ≤ 4 := hC'.1.1.1.2
  rw [mapR, if_pos hC] at hx
  have := runOut_says m _ _ hm (fun j x hx => by
    rw [List.getElem?_replicate] at hx
    split at hx
    · injection hx with hx; exact .inl hx.symm
    · cases hx) j x hx
  have hiK : i * K ≤ 64 * 4 := Nat.mul_le_mul hi (by omega)
  have hiK' : (i : Int) * (K : Int) = ((i * K : Nat) : Int) := by push_cast; rfl
  have e : wrap64 (wrap64 ((i : Int) * (K : Int)) + (j : Int)) = ((i * K + j : Nat) : Int) := by
    rw [hiK']
    unfold wrap64
    omega
  rw [e] at this
  exact this
theorem mapR_mem {K : Nat} {m f e : List O} (hC : checkB (K : Int) m f e = true) {i : Nat} (hi : i ≤ 64) (key val : Int) {x : R} (hx : x ∈ mapR (K : Int) m f e i key val) : x = RD ∨ (x.d = false ∧ ((i * K : Nat) : Int) ≤ x.s ∧ x.s < ((i * K + K : Nat) : Int)) := by
  obtain ⟨j, hj, rfl⟩ := List.mem_iff_getElem.1 hx
  have hlen := mapR_len hC i key val
  rcases mapR_says hC hi key val j _ (List.getElem?_eq_getElem hj) with h | ⟨h1, h2⟩
  · exact .inl h
  · exact .inr ⟨h1, by rw [h2]; omega, by rw [h2]; omega⟩
theorem mapR_rises {K : Nat} {m f e : List O} (hC : checkB (K : Int) m f e = true) {i : Nat} (hi : i ≤ 64) (key val : Int) : ((mapR (K : Int) m f e i key val).filter fun r => !r.d).Pairwise (fun a b => a.s < b.s) := by
  rw [List.pairwise_filter, List.pairwise_iff_getElem]
  intro p q hp hq hpq ha hb
  rcases mapR_says hC hi key val p _ (List.getElem?_eq_getElem hp) with h | ⟨h1, h2⟩
  · rw [h] at ha; cases ha
  · rcases mapR_says hC hi key val q _ (List.getElem?_eq_getElem hq) with h' | ⟨h1', h2'⟩
    · rw [h'] at hb; cases hb
    · rw [h2, h2']; omega
theorem flatTo_alive (K : Int) (m f e : List O) (ps : List (Int × Int)) (n : Nat) : (flatTo K m f e ps n).filter (fun r => !r.d) = Sp.liveTo K m f e ps n := by
  induction n with
  | zero => rfl
  | succ n ih => rw [flatTo_succ, Sp.liveTo_snoc, List.filter_append, ih]; rfl
theorem flatTo_dead {K : Nat} {m f e : List O} (hC : checkB (K : Int) m f e = true) (ps : List (Int × Int)) : ∀ n, n ≤ 65 → ∀ x ∈ flatTo (K : Int) m f e ps n, x.d = true → x = RD
  | 0, _ => fun x hx => by cases hx
  | n + 1, h => fun x hx hd => by
    rw [flatTo_succ] at hx
    rcases List.mem_append.1 hx with hx | hx
    · exact flatTo_dead hC ps n (by omega) x hx hd
    · rcases mapR_mem hC (by omega) _ _ hx with h | ⟨h, _⟩
      · exact h
      · rw [h] at hd; cases hd
theorem liveTo_rises {K : Nat} {m f e : List O} (hC : checkB (K : Int) m f e = true) (ps : List (Int × Int)) : ∀ n, n ≤ 65 → (Sp.liveTo (K : Int) m f e ps n).Pairwise (fun a b => a.s < b.s) ∧ ∀ x ∈ Sp.liveTo (K : Int) m f e ps n, x.s < ((n * K : Nat) : Int)
  | 0, _ => ⟨.nil, fun x hx => by cases hx⟩
  | n + 1, h => by
    obtain ⟨h1, h2⟩ := liveTo_rises hC ps n (by omega)
    have hm : ∀ x ∈ Sp.liveAt (K : Int) m f e ps n, ((n * K : Nat) : Int) ≤ x.s ∧ x.s < ((n * K + K : Nat) : Int) := fun x hx => by
      obtain ⟨hx1, hx2⟩ := List.mem_filter.1 hx
      rcases mapR_mem hC (by omega) _ _ hx1 with h | ⟨_, h⟩
      · rw [h] at hx2; cases hx2
      · exact h
    rw [Sp.liveTo_snoc]
    refine ⟨List.pairwise_append.2 ⟨h1, mapR_rises hC (by omega) _ _, fun a ha b hb => ?_⟩, fun x hx => ?_⟩
    · have := h2 a ha
      have := (hm b hb).1
      omega
    · rw [Nat.succ_mul]
      rcases List.mem_append.1 hx with hx | hx
      · have := h2 x hx; omega
      · exact (hm x hx).2
def val (F : Int → Int → Int) : List Int → Option Int
  | [] => none
  | v :: l => some (l.foldl F v)
def valsOf (l : List R) (c : Int) : List Int := (l.filter fun r => decide (r.k = c)).map (·.v)
theorem valsOf_pos {r : R} {l : List R} {c : Int} (h : r.k = c) : valsOf (r :: l) c = r.v :: valsOf l c := by simp [valsOf, h]
theorem valsOf_neg {r : R} {l : List R} {c : Int} (h : ¬ r.k = c) : valsOf (r :: l) c = valsOf l c := by simp [valsOf, h]
theorem valsOf_none {l : List R} {c : Int} (h : ∀ x ∈ l, x.k ≠ c) : valsOf l c = [] := by
  rw [valsOf, List.filter_eq_nil_iff.2 (fun x hx => by simpa using h x hx)]; rfl
structure IsTold (F : Int → Int → Int) (L : List R) (X : List (Int × Int)) : Prop where
  rise : X.Pairwise (fun a b => a.1 < b.1)
  mem : ∀ p : Int × Int, p ∈ X ↔ val F (valsOf L p.1) = some p.2
theorem told_unique {F : Int → Int → Int} {L : List R} {X Y : List (Int × Int)} (h : IsTold F L X) (k : IsTold F L Y) : X = Y := by
  have go : ∀ (X Y : List (Int × Int)), X.Pairwise (fun a b => a.1 < b.1) → Y.Pairwise (fun a b => a.1 < b.1) → (∀ p, p ∈ X ↔ p ∈ Y) → X = Y := fun X => by
    induction X with
    | nil =>
      intro Y _ _ h
      cases Y with
      | nil => rfl
      | cons y Y => exact absurd ((h y).2 (by simp)) (by simp)
    | cons x X ih =>
      intro Y hx hy h
      cases Y with
      | nil => exact absurd ((h x).1 (by simp)) (by simp)
      | cons y Y =>
        obtain ⟨hx1, hx2⟩ := List.pairwise_cons.1 hx
        obtain ⟨hy1, hy2⟩ := List.pairwise_cons.1 hy
        have exy : x = y := by
          rcases List.mem_cons.1 ((h x).1 (by simp)) with e | e
          · exact e
          · rcases List.mem_cons.1 ((h y).2 (by simp)) with e' | e'
            · exact e'.symm
            · have h1 := hy1 x e
              have h2 := hx1 y e'
              omega
        subst exy
        congr 1
        refine ih Y hx2 hy2 fun p => ⟨fun hp => ?_, fun hp => ?_⟩
        · rcases List.mem_cons.1 ((h p).1 (by simp [hp])) with e | e
          · have := hx1 p hp
            rw [e] at this
            omega
          · exact e
        · rcases List.mem_cons.1 ((h p).2 (by simp [hp])) with e | e
          · have := hy1 p hp
            rw [e] at this
            omega
          · exact e
  exact go X Y h.rise k.rise fun p => (h.mem p).trans (k.mem p).symm
def tell (F : Int → Int → Int) : Int → Int → List R → List (Int × Int)
  | k0, v0, [] => [(k0, v0)]
  | k0, v0, r :: l => if r.k = k0 then tell F k0 (F v0 r.v) l else (k0, v0) :: tell F r.k r.v l
def tells (F : Int → Int → Int) : List R → List (Int × Int)
  | [] => []
  | r :: l => tell F r.k r.v l
theorem tell_from (F : Int → Int → Int) : ∀ (l : List R) (k0 v0 : Int), (∀ x ∈ l, k0 ≤ x.k) → l.Pairwise (fun a b => a.k ≤ b.k) → ∀ p ∈ tell F k0 v0 l, k0 ≤ p.1
  | [], k0, v0, _, _ => fun p hp => by rw [tell, List.mem_singleton] at hp; subst hp; exact Int.le_refl _
  | r :: l, k0, v0, h, hp => fun p hp' => by
    obtain ⟨h1, h2⟩ := List.pairwise_cons.1 hp
    rw [tell] at hp'
    split at hp'
    · exact tell_from F l k0 _ (fun x hx => h x (by simp [hx])) h2 p hp'
    · rcases List.mem_cons.1 hp' with rfl | hp'
      · exact Int.le_refl _
      · have := tell_from F l r.k r.v h1 h2 p hp'
        have := h r (by simp)
        omega
theorem tell_rises (F : Int → Int → Int) : ∀ (l : List R) (k0 v0 : Int), (∀ x ∈ l, k0 ≤ x.k) → l.Pairwise (fun a b => a.k ≤ b.k) → (tell F k0 v0 l).Pairwise (fun a b => a.1 < b.1)
  | [], k0, v0, _, _ => by simp [tell]
  | r :: l, k0, v0, h, hp => by
    obtain ⟨h1, h2⟩ := List.pairwise_cons.1 hp
    rw [tell]
    split
    · exact tell_rises F l k0 _ (fun x hx => h x (by simp [hx])) h2
    · rename_i hne
      refine List.pairwise_cons.2 ⟨fun p hp' => ?_, tell_rises F l r.k r.v h1 h2⟩
      have h3 := tell_from F l r.k r.v h1 h2 p hp'
      have h4 := h r (by simp)
      show k0 < p.1
      omega
theorem tell_mem (F : Int → Int → Int) : ∀ (l : List R) (k0 v0 : Int), (∀ x ∈ l, k0 ≤ x.k) → l.Pairwise (fun a b => a.k ≤ b.k) → ∀ p : Int × Int, p ∈ tell F k0 v0 l ↔ val F (valsOf (⟨false, k0, v0, 0⟩ :: l) p.1) = some p.2
  | [], k0, v0, _, _ => fun p => by
    rw [tell, List.mem_singleton]
    obtain ⟨a, b⟩ := p
    by_cases h : k0 = a
    · rw [valsOf_pos (by exact h)]
      simp [val, valsOf, h]
      exact eq_comm
    · rw [valsOf_neg (by exact h)]
      simp [val, valsOf]
      intro e
      exact absurd e.symm h
  | r :: l, k0, v0, h, hp => fun p => by
    obtain ⟨h1, h2⟩ := List.pairwise_cons.1 hp
    have h3 := h r (by simp)
    rw [tell]
    split
    · rename_i he
      rw [tell_mem F l k0 _ (fun x hx => h x (by simp [hx])) h2 p]
      by_cases hk : k0 = p.1
      · rw [valsOf_pos (by exact hk), valsOf_pos (r := ⟨false, k0, v0, 0⟩) (by exact hk), valsOf_pos (show r.k = p.1 by omega)]
        rfl
      · rw [valsOf_neg (by exact hk), valsOf_neg (r := ⟨false, k0, v0, 0⟩) (by exact hk), valsOf_neg (show ¬ r.k = p.1 by omega)]
    · rename_i he
      rw [List.mem_cons, tell_mem F l r.k r.v h1 h2 p]
      by_cases hk : k0 = p.1
      · have hno : ∀ x ∈ r :: l, x.k ≠ p.1 := fun x hx => by
          rcases List.mem_cons.1 hx with rfl | hx
          · omega
          · have := h1 x hx; omega
        rw [valsOf_neg (r := ⟨false, r.k, r.v, 0⟩) (hno r (by simp)), valsOf_none (fun x hx => hno x (by simp [hx])), valsOf_pos (r := ⟨false, k0, v0, 0⟩) (by exact hk), valsOf_none hno]
        obtain ⟨a, b⟩ := p
        simp only at hk
        subst hk
        simp [val]
        exact eq_comm
      · rw [valsOf_neg (r := ⟨false, k0, v0, 0⟩) (by exact hk)]
        have hne : ¬ p = (k0, v0) := fun e => hk (by rw [e])
        by_cases hr : r.k = p.1
        · rw [valsOf_pos (r := ⟨false, r.k, r.v, 0⟩) (by exact hr), valsOf_pos hr]
          simp [hne]
        · rw [valsOf_neg (r := ⟨false, r.k, r.v, 0⟩) (by exact hr), valsOf_neg hr]
          simp [hne]
theorem tells_told (F : Int → Int → Int) {l : List R} (hp : l.Pairwise (fun a b => a.k ≤ b.k)) : IsTold F l (tells F l) := by
  cases l with
  | nil => exact ⟨.nil, fun p => by simp [tells, valsOf, val]⟩
  | cons r l =>
    obtain ⟨h1, h2⟩ := List.pairwise_cons.1 hp
    refine ⟨tell_rises F l r.k r.v h1 h2, fun p => ?_⟩
    rw [tells, tell_mem F l r.k r.v h1 h2 p]
    by_cases hr : r.k = p.1
    · rw [valsOf_pos (r := ⟨false, r.k, r.v, 0⟩) (by exact hr), valsOf_pos hr]
    · rw [valsOf_neg (r := ⟨false, r.k, r.v, 0⟩) (by exact hr), valsOf_neg hr]
def recG (G : Int → Int → Int) (p : Int × Int) : R := ⟨false, p.1, G p.1 p.2, 0⟩
theorem outs_dead (F G : Int → Int → Int) : ∀ {l : List R}, (∀ r ∈ l, r.d = true) → (outs F G RD l).filter (fun r => !r.d) = []
  | [], _ => rfl
  | r :: l, h => by
    have hr := h r (by simp)
    have e1 : nextR F RD r = RD := by simp [nextR, goesB, bareR, hr, RD]
    have e2 : outR G RD r = RD := by simp [outR, goesB, finR, RD]
    rw [outs, e1, e2, List.filter_cons_of_neg (by simp [RD])]
    exact outs_dead F G fun x hx => h x (by simp [hx])
theorem outs_tell (F G : Int → Int → Int) {ds : List R} (hd : ∀ r ∈ ds, r.d = true) (h0 : ds ≠ []) : ∀ (l : List R) (k0 v0 : Int), (∀ r ∈ l, r.d = false) → (outs F G ⟨false, k0, v0, 0⟩ (l ++ ds)).filter (fun r => !r.d) = (tell F k0 v0 l).map (recG G)
  | [], k0, v0, _ => by
    cases ds with
    | nil => exact absurd rfl h0
    | cons r ds =>
      have hr := hd r (by simp)
      have e1 : nextR F ⟨false, k0, v0, 0⟩ r = RD := by simp [nextR, goesB, bareR, hr]
      have e2 : outR G ⟨false, k0, v0, 0⟩ r = recG G (k0, v0) := by simp [outR, goesB, finR, hr, recG]
      rw [List.nil_append, outs, e1, e2, List.filter_cons_of_pos (by simp [recG]), outs_dead F G fun x hx => hd x (by simp [hx])]
      rfl
  | r :: l, k0, v0, h => by
    have hr := h r (by simp)
    have hl := fun x (hx : x ∈ l) => h x (by simp [hx])
    rw [List.cons_append, outs, tell]
    by_cases hk : r.k = k0
    · have e1 : nextR F ⟨false, k0, v0, 0⟩ r = ⟨false, k0, F v0 r.v, 0⟩ := by simp [nextR, goesB, joinR, hr, hk]
      have e2 : outR G ⟨false, k0, v0, 0⟩ r = RD := by simp [outR, goesB, hr, hk]
      rw [e1, e2, if_pos hk, List.filter_cons_of_neg (by simp [RD])]
      exact outs_tell F G hd h0 l k0 _ hl
    · have e1 : nextR F ⟨false, k0, v0, 0⟩ r = ⟨false, r.k, r.v, 0⟩ := by simp [nextR, goesB, bareR, hr, hk]
      have e2 : outR G ⟨false, k0, v0, 0⟩ r = recG G (k0, v0) := by simp [outR, goesB, finR, hr, hk, recG]
      rw [e1, e2, if_neg hk, List.filter_cons_of_pos (by simp [recG]), List.map_cons, outs_tell F G hd h0 l r.k r.v hl]
theorem outs_tells (F G : Int → Int → Int) {l ds : List R} (hd : ∀ r ∈ ds, r.d = true) (h0 : ds ≠ []) (hl : ∀ r ∈ l, r.d = false) : (outs F G RD (l ++ ds)).filter (fun r => !r.d) = (tells F l).map (recG G) := by
  cases l with
  | nil => rw [List.nil_append, outs_dead F G hd]; rfl
  | cons r l =>
    have hr := hl r (by simp)
    have e1 : nextR F RD r = ⟨false, r.k, r.v, 0⟩ := by simp [nextR, goesB, bareR, hr, RD]
    have e2 : outR G RD r = RD := by simp [outR, goesB, finR, RD]
    rw [List.cons_append, outs, e1, e2, List.filter_cons_of_neg (by simp [RD]), tells]
    exact outs_tell F G hd h0 l r.k r.v fun x hx => hl x (by simp [hx])
section
variable {K : Nat} {m f e : List O} {ps : List (Int × Int)} {B S : Nat}
theorem mapB_even (hC : checkB (K : Int) m f e = true) (hL : ps.length * K ≤ 2 ^ S * B) : Even true B (mapB (K : Int) m f e ps B (2 ^ S)) := fun x hx => by
  obtain ⟨y, hy, rfl⟩ := List.mem_map.1 hx
  exact ⟨by rw [sortR_length]; exact chunk_mem B _ _ (padded_length hC ps hL) y hy, sortR_sorts true y⟩
theorem mapB_length : (mapB (K : Int) m f e ps B (2 ^ S)).length = 2 ^ S := by rw [mapB, List.length_map, chunk_length]
theorem mapB_perm (hC : checkB (K : Int) m f e = true) (hL : ps.length * K ≤ 2 ^ S * B) : ((mapB (K : Int) m f e ps B (2 ^ S)).flatten).Perm (padded (K : Int) m f e ps (2 ^ S * B)) :=
  (sort_flat true _).trans (by rw [chunk_flat B _ _ (padded_length hC ps hL)])
theorem first_half (hC : checkB (K : Int) m f e = true) (hB : 0 < B) (hn : ps.length ≤ 64) (hL : ps.length * K < 2 ^ S * B) :
    ∃ A1 ds, (behB true (2 ^ S) (mapB (K : Int) m f e ps B (2 ^ S)) (Bi.tri S)).flatten = A1 ++ ds ∧ (∀ r ∈ ds, r.d = true) ∧ ds ≠ [] ∧ (∀ r ∈ A1, r.d = false) ∧ A1.Pairwise (fun a b => a.k ≤ b.k) ∧ ∀ c, valsOf A1 c = valsOf (Sp.live (K : Int) m f e ps) c := by
  have hsrt := behB_sorts (S := S) hB (mapB_even hC (Nat.le_of_lt hL)) mapB_length
  have hperm := (behB_perm true (S := S) (mapB_length (K := K) (m := m) (f := f) (e := e) (ps := ps) (B := B)) (Bi.tri S) (Nat.le_refl _)).trans (mapB_perm hC (Nat.le_of_lt hL))
  generalize (behB true (2 ^ S) (mapB (K : Int) m f e ps B (2 ^ S)) (Bi.tri S)).flatten = A at *
  have hpa := hperm.filter (fun r => !r.d)
  have hal : (padded (K : Int) m f e ps (2 ^ S * B)).filter (fun r => !r.d) = Sp.live (K : Int) m f e ps := by
    rw [padded, List.filter_append, flatIn, flatTo_alive, List.filter_eq_nil_iff.2 (fun x hx => by rw [List.eq_of_mem_replicate hx]; simp [RD]), List.append_nil]; rfl
  rw [hal] at hpa
  refine ⟨A.filter (fun r => !r.d), A.filter (fun r => r.d), srt_split hsrt, fun r hr => (List.mem_filter.1 hr).2, fun h => ?_, fun r hr => by simpa using (List.mem_filter.1 hr).2, ?_, fun c => ?_⟩
  · have hm : RD ∈ A := by
      rw [hperm.mem_iff, padded, List.mem_append]
      refine .inr (List.mem_replicate.2 ⟨?_, rfl⟩)
      rw [flatIn_length hC]; omega
    have : RD ∈ A.filter (fun r => r.d) := List.mem_filter.2 ⟨hm, rfl⟩
    rw [h] at this
    cases this
  · have := (srt_pair true A).1 hsrt
    rw [List.pairwise_filter]
    refine this.imp fun {a b} h ha hb => ?_
    have ha : a.d = false := by simpa using ha
    have hb : b.d = false := by simpa using hb
    unfold lead at h
    rw [if_pos rfl] at h
    simp only [Rc.bef, ha, hb, Bool.not_false, Bool.true_and, Bool.false_or, Bool.or_eq_false_iff, decide_eq_false_iff_not] at h
    omega
  · have h1 := hpa.filter (fun r => decide (r.k = c))
    have hr := (liveTo_rises hC ps ps.length (by omega)).1
    have h2 : ((A.filter (fun r => !r.d)).filter fun r => decide (r.k = c)).Pairwise (fun a b => a.s ≤ b.s) := by
      have := (srt_pair true A).1 hsrt
      rw [List.pairwise_filter, List.pairwise_filter]
      refine this.imp fun {a b} h ha hb hc hd => ?_
      have ha : a.d = false := by simpa using ha
      have hb : b.d = false := by simpa using hb
      have hc : a.k = c := by simpa using hc
      have hd : b.k = c := by simpa using hd
      unfold lead at h
      rw [if_pos rfl] at h
      simp only [Rc.bef, ha, hb, hc, hd, Bool.not_false, Bool.true_and, Bool.false_or, Bool.or_eq_false_iff, decide_eq_false_iff_not] at h
      have h := h.2
      simp at h
      exact h
    have h3 : ((Sp.live (K : Int) m f e ps).filter fun r => decide (r.k = c)).Pairwise (fun a b => a.s < b.s) := by
      rw [List.pairwise_filter]
      exact List.Pairwise.imp (fun h _ _ => h) hr
    unfold valsOf
    rw [uniq_by (·.s) _ _ h1 h2 h3]
theorem pipe_told (hC : checkB (K : Int) m f e = true) (hB : 0 < B) (hn : ps.length ≤ 64) (hL : ps.length * K < 2 ^ S * B) :
    ∃ X, IsTold (foldV (K : Int) m f e) (Sp.live (K : Int) m f e ps) X ∧ tellP (stgB (K : Int) m f e ps B (2 ^ S) (Bi.tri S) (2 + 2 * Bi.tri S)) = X.map fun p => (p.1, finishV (K : Int) m f e p.1 p.2) := by
  obtain ⟨A1, ds, hA, hds, h0, hal, hk, hv⟩ := first_half (S := S) hC hB hn hL
  have hT := tells_told (foldV (K : Int) m f e) hk
  refine ⟨tells (foldV (K : Int) m f e) A1, ⟨hT.rise, fun p => by rw [hT.mem p, hv]⟩, ?_⟩
  rw [tellP, stgB, if_neg (by omega), if_neg (by omega), show 2 + 2 * Bi.tri S - 2 - Bi.tri S = Bi.tri S by omega]
  have he := behB_even (S := S) (mapB_even (S := S) (B := B) hC (Nat.le_of_lt hL)) mapB_length (Nat.le_refl (Bi.tri S))
  have hl1 := behB_length true (2 ^ S) (mapB (K : Int) m f e ps B (2 ^ S)) (Bi.tri S)
  rw [mapB_length] at hl1
  generalize behB true (2 ^ S) (mapB (K : Int) m f e ps B (2 ^ S)) (Bi.tri S) = bs at *
  have hfl : (foldC (foldV (K : Int) m f e) (finishV (K : Int) m f e) RD bs).length = 2 ^ S := by rw [foldC_length, hl1]
  have hsrt := behB_sorts (S := S) hB (foldC_even (foldV (K : Int) m f e) (finishV (K : Int) m f e) RD bs fun x hx => (he x hx).1) hfl
  have hperm := (behB_perm false hfl (Bi.tri S) (Nat.le_refl _)).trans (foldC_flat (foldV (K : Int) m f e) (finishV (K : Int) m f e) RD bs)
  rw [hA] at hperm
  generalize (behB false (2 ^ S) (foldC (foldV (K : Int) m f e) (finishV (K : Int) m f e) RD bs) (Bi.tri S)).flatten = D at *
  have hpa := hperm.filter (fun r => !r.d)
  rw [outs_tells _ _ hds h0 hal] at hpa
  have h2 : (D.filter fun r => !r.d).Pairwise (fun a b => a.k ≤ b.k) := by
    have := (srt_pair false D).1 hsrt
    rw [List.pairwise_filter]
    refine this.imp fun {a b} h ha hb => ?_
    have ha : a.d = false := by simpa using ha
    have hb : b.d = false := by simpa using hb
    unfold lead at h
    rw [if_neg (by simp)] at h
    simp only [Rc.ahd, ha, hb, Bool.not_false, Bool.true_and, Bool.false_or, decide_eq_false_iff_not] at h
    omega
  have h3 : ((tells (foldV (K : Int) m f e) A1).map (recG (finishV (K : Int) m f e))).Pairwise (fun a b => a.k < b.k) := by
    rw [List.pairwise_map]
    exact hT.rise
  rw [uniq_by (·.k) _ _ hpa h2 h3, List.map_map]
  rfl
end
end Go.Proofs.YtlinmcgmkpkpaaaDoor.Pi
namespace Go.Proofs.YtlinmcgmkpkpaaaDoor.Pi
open Go.RowKit Rc Rs Vm Mg Cn
def intoB (seq : Bool) (d : Nat) (up : Nat → Bool) (bs : List (List R)) (dst : List (List R)) (a : Nat) : List (List R) := (dst.set a (if up a then lowB seq bs a d else highB seq bs a d)).set (a + d) (if up a then highB seq bs a d else lowB seq bs a d)
theorem intoB_length (seq : Bool) (d : Nat) (up : Nat → Bool) (bs dst : List (List R)) (a : Nat) : (intoB seq d up bs dst a).length = dst.length := by simp [intoB]
theorem intos_length (seq : Bool) (d : Nat) (up : Nat → Bool) (bs : List (List R)) : ∀ (qs : List Nat) (dst : List (List R)), (qs.foldl (intoB seq d up bs) dst).length = dst.length
  | [], _ => rfl
  | a :: qs, dst => by rw [List.foldl_cons, intos_length seq d up bs qs, intoB_length]
theorem set2_get {α : Type} {l : List α} {a b : Nat} {u v z : α} (ha : a < l.length) (hb : b < l.length) (j : Nat) : ((l.set a u).set b v).getD j z = if b = j then v else if a = j then u else l.getD j z := by
  rw [getD_set (by simpa using hb), getD_set ha]
theorem low_cong {seq : Bool} {bs bs' : List (List R)} {a d : Nat} (h1 : blk bs a = blk bs' a) (h2 : blk bs (a + d) = blk bs' (a + d)) : lowB seq bs a d = lowB seq bs' a d ∧ highB seq bs a d = highB seq bs' a d := by
  unfold lowB highB
  rw [h1, h2]
  exact ⟨rfl, rfl⟩
theorem into_all {seq : Bool} {d n : Nat} {up : Nat → Bool} (hd : 0 < d) {bs dst : List (List R)} (hl : bs.length = n) (hl' : dst.length = n) : ∀ k, k ≤ n → (∀ a, a < n → a / d % 2 = 0 → a + d < n) →
    (∀ j, Net.lead d j < k → j < n → ((Net.firsts d k).foldl (intoB seq d up bs) dst).getD j [] = ((Net.firsts d k).foldl (splitB seq d up) bs).getD j []) ∧ (∀ j, k ≤ Net.lead d j → ((Net.firsts d k).foldl (splitB seq d up) bs).getD j [] = bs.getD j [])
  | 0, _, _ => ⟨fun j h _ => absurd h (by omega), fun j _ => rfl⟩
  | k + 1, hk, hn => by
    obtain ⟨h1, h2⟩ := into_all hd (up := up) (seq := seq) hl hl' k (by omega) hn
    rw [Net.firsts_succ]
    have e1 := foldB_length seq d up (Net.firsts d k) bs
    have e2 := intos_length seq d up bs (Net.firsts d k) dst
    by_cases hb : k / d % 2 = 0
    · rw [if_pos hb, List.foldl_append, List.foldl_append]
      have hkd := hn k (by omega) hb
      have hlk : Net.lead d k = k := by unfold Net.lead; rw [if_pos hb]
      have hlkd := Net.lead_of_high hd hb
      have b1 := h2 k (by omega)
      have b2 := h2 (k + d) (by omega)
      obtain ⟨c1, c2⟩ := low_cong (seq := seq) (bs := (Net.firsts d k).foldl (splitB seq d up) bs) (bs' := bs) (a := k) (d := d) b1 b2
      generalize (Net.firsts d k).foldl (splitB seq d up) bs = xs at *
      generalize (Net.firsts d k).foldl (intoB seq d up bs) dst = ys at *
      simp only [List.foldl_cons, List.foldl_nil]
      unfold splitB intoB
      rw [c1, c2]
      constructor
      · intro j hj hjn
        rw [set2_get (by omega) (by omega), set2_get (by omega) (by omega)]
        by_cases q1 : k + d = j
        · rw [if_pos q1, if_pos q1]
        · rw [if_neg q1, if_neg q1]
          by_cases q2 : k = j
          · rw [if_pos q2, if_pos q2]
          · rw [if_neg q2, if_neg q2]
            refine h1 j ?_ hjn
            rcases Nat.lt_or_ge (Net.lead d j) k with h | h
            · exact h
            · have := Net.lead_eq hd (show Net.lead d j = k by omega)
              omega
      · intro j hj
        rw [set2_get (by omega) (by omega), if_neg (by rintro rfl; omega), if_neg (by rintro rfl; omega)]
        exact h2 j (by omega)
    · rw [if_neg hb, List.append_nil]
      refine ⟨fun j hj hjn => h1 j ?_ hjn, fun j hj => h2 j (by omega)⟩
      rcases Nat.lt_or_ge (Net.lead d j) k with h | h
      · exact h
      · have hb2 := Net.lead_bit hd j
        rw [show Net.lead d j = k by omega] at hb2
        exact absurd hb2 hb
theorem ext_blk {l m : List (List R)} (h : l.length = m.length) (he : ∀ i, i < l.length → l.getD i [] = m.getD i []) : l = m := by
  refine List.ext_getElem h fun i h1 h2 => ?_
  have := he i h1
  rwa [List.getD_eq_getElem?_getD, List.getD_eq_getElem?_getD, List.getElem?_eq_getElem h1, List.getElem?_eq_getElem h2] at this
theorem into_is {seq : Bool} {S : Nat} {st : Nat × Nat} (h1 : 1 ≤ st.2) (h2 : st.2 ≤ S) {bs dst : List (List R)} (hl : bs.length = 2 ^ S) (hl' : dst.length = 2 ^ S) :
    (Net.firsts (2 ^ (st.2 - 1)) (2 ^ S)).foldl (intoB seq (2 ^ (st.2 - 1)) (Net.ups st.1) bs) dst = roundB seq (2 ^ S) bs st := by
  unfold roundB
  have hd := Nat.two_pow_pos (st.2 - 1)
  have hn : ∀ a, a < 2 ^ S → a / 2 ^ (st.2 - 1) % 2 = 0 → a + 2 ^ (st.2 - 1) < 2 ^ S := fun a ha hb => round_places h1 h2 a (Bi.mem_firsts.2 ⟨ha, hb⟩)
  obtain ⟨k1, _⟩ := into_all (seq := seq) (up := Net.ups st.1) hd hl hl' (2 ^ S) (Nat.le_refl _) hn
  refine ext_blk (by rw [intos_length, foldB_length, hl, hl']) fun j hj => ?_
  rw [intos_length, hl'] at hj
  exact k1 j (Nat.lt_of_le_of_lt (Net.lead_le _ _) hj) hj
def Wf (bs : List (List R)) : Prop := ∀ X ∈ bs, ∀ x ∈ X, x.wf
theorem wf_iff {bs : List (List R)} : Wf bs ↔ ∀ x ∈ bs.flatten, x.wf := by
  constructor
  · intro h x hx
    obtain ⟨X, hX, hx⟩ := List.mem_flatten.1 hx
    exact h X hX x hx
  · intro h X hX x hx
    exact h x (List.mem_flatten.2 ⟨X, hX, hx⟩)
theorem Wf.perm {cs bs : List (List R)} (h : Wf bs) (hp : cs.flatten.Perm bs.flatten) : Wf cs := wf_iff.2 fun x hx => wf_iff.1 h x (hp.mem_iff.1 hx)
theorem Wf.blk {bs : List (List R)} (h : Wf bs) (a : Nat) : ∀ x ∈ blk bs a, x.wf := by
  unfold Mg.blk
  rw [List.getD_eq_getElem?_getD]
  cases ha : bs[a]? with
  | none => intro x hx; cases hx
  | some X => exact h X (List.mem_of_getElem? ha)
theorem outs_wfs {F G : Int → Int → Int} (hF : ∀ a b : Int, (Lit.int .i64 a).wf = true → (Lit.int .i64 b).wf = true → (Lit.int .i64 (F a b)).wf = true) (hG : ∀ a b : Int, (Lit.int .i64 a).wf = true → (Lit.int .i64 b).wf = true → (Lit.int .i64 (G a b)).wf = true) {bs : List (List R)} (h : Wf bs) : Wf (foldC F G RD bs) :=
  wf_iff.2 fun x hx => outs_wf hF hG RD bs.flatten wf_dead (wf_iff.1 h) x ((foldC_flat F G RD bs).mem_iff.1 hx)
theorem flatTo_wf {K : Int} {m f e : List O} {ps : List (Int × Int)} (hm : ∀ o ∈ m, o.wf) (hps : ∀ x ∈ ps, Sp.pwf x) : ∀ n, n ≤ ps.length → n ≤ 1048576 → ∀ r ∈ flatTo K m f e ps n, r.wf
  | 0, _, _ => fun r hr => by cases hr
  | n + 1, h, h2 => fun r hr => by
    rw [flatTo_succ] at hr
    rcases List.mem_append.1 hr with hr | hr
    · exact flatTo_wf hm hps n (by omega) (by omega) r hr
    · have hp : Sp.pwf (ps.getD n (0, 0)) := hps _ (by rw [List.getD_eq_getElem?_getD, List.getElem?_eq_getElem (by omega)]; exact List.getElem_mem _)
      exact Sp.mapR_wf hm (Sp.nat_wf (by omega)) hp.1 hp.2 r hr
theorem padded_wf {K : Int} {m f e : List O} {ps : List (Int × Int)} (hm : ∀ o ∈ m, o.wf) (hps : ∀ x ∈ ps, Sp.pwf x) (hn : ps.length ≤ 1048576) (L : Nat) : ∀ r ∈ padded K m f e ps L, r.wf := fun r hr => by
  rcases List.mem_append.1 hr with hr | hr
  · exact flatTo_wf hm hps _ (Nat.le_refl _) hn r hr
  · rw [List.eq_of_mem_replicate hr]; exact ⟨rfl, rfl, rfl⟩
theorem mapB_wf {K : Nat} {m f e : List O} {ps : List (Int × Int)} {B S : Nat} (hC : checkB (K : Int) m f e = true) (hL : ps.length * K ≤ 2 ^ S * B) (hm : ∀ o ∈ m, o.wf) (hps : ∀ x ∈ ps, Sp.pwf x) (hn : ps.length ≤ 1048576) : Wf (mapB (K : Int) m f e ps B (2 ^ S)) :=
  wf_iff.2 fun x hx => padded_wf hm hps hn _ x ((mapB_perm hC hL).mem_iff.1 hx)
theorem behB_wf {seq : Bool} {S : Nat} {bs : List (List R)} (h : Wf bs) (hl : bs.length = 2 ^ S) {r : Nat} (hr : r ≤ Bi.tri S) : Wf (behB seq (2 ^ S) bs r) := h.perm (behB_perm seq hl r hr)
end Go.Proofs.YtlinmcgmkpkpaaaDoor.Pi
