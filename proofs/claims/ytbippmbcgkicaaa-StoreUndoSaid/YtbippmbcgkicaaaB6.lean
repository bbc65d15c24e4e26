/-
  Package store's calls, by what they make of what the store says; what is asked of a store first (awake).
-/
import Derived.Test.YtbippmbcgkicaaaB5
set_option linter.unusedVariables false
namespace Go.Proofs.Ytbippmbcgkicaaa.Sto
open Go.RowKit Go.Shelf Go.Proofs.Ytbippmbcgkicaaa Mem Held Sl Go.Proofs.Ytbippmbcgkicaaa.Range
attribute [local irreducible] wpList wpListIn Calls
def flipP (t : Int) (k : List UInt8) (bit : Int) (L : Lp) : Bool × Lp := if bit < 0 ∨ ((shwP L k).2.length : Int) ≤ bit / 8 then (false, L) else (true, modP k (shwF t ⟨0, true, flipZ (shwP L k).2 bit.toNat⟩) L)
structure SI (ow : Nat → Nat) (w : World) (s : Nat) (W : Int) (N : Nat) (es : List Ent) : Prop where
  sto : Sto ow w s W N es
  good : GoodL (absL es) W
section
variable {ow : Nat → Nat} {w : World} {s N : Nat} {W : Int} {es : List Ent} {k k' : Nm}
theorem SI.some (H : SI ow w s W N es) : ∀ e ∈ es, e.us ≠ [] := fun e he h => by
  have := (H.good.2 e.p (abs_mem he)).ne
  simp [Ent.p, h] at this
theorem SI.below {w' : World} (H : SI ow w s W N es) (hb : Below w.heap.size w w') : SI ow w' s W N es := ⟨H.sto.below hb, H.good⟩
theorem SI.keep {w' : World} (H : SI ow w s W N es) (hk : KeepsP (fun r => ow r ≠ 0) w w') : SI ow w' s W N es := ⟨H.sto.keep hk, H.good⟩
theorem SI.more {N' : Nat} (H : SI ow w s W N es) (hN : N ≤ N') : SI ow w s W N' es := ⟨H.sto.more hN, H.good⟩
theorem put_si (H : SI ow w s W N es) (hk : k.length ≤ maxLen) {x : Bs} (hx : Rd (fun b => ow b ≤ 1) w x) (hN : N ≤ 900000) :
    Calls Try.prog 20 #[.pointer (some ⟨s, 0, none⟩), encStr k, .slice x.A x.n x.c] w fun r w' => r = .returned (.tuple #[]) ∧ ∃ ow' es', SI ow' w' s (W + 1) (N + 3) es' ∧ Chg ow ow' w w' ∧ absL es' = putP (W + 1) k x.zs (absL es) := by
  refine (put_any H.sto hk hx hN).mono ?_
  rintro r w' ⟨rfl, ow', es', h1, h2, h3⟩
  exact ⟨rfl, ow', es', ⟨h1, by rw [h3]; exact good_put H.good⟩, h2, h3⟩
theorem get_si (H : SI ow w s W N es) (hk : k.length ≤ maxLen) (hN : N ≤ 900000) :
    Calls Try.prog 26 #[.pointer (some ⟨s, 0, none⟩), encStr k] w fun r w' => ∃ y : Bs, r = .returned (.tuple #[.slice y.A y.n y.c, .bool (shwP (absL es) k).1]) ∧ y.zs = (shwP (absL es) k).2 ∧ Mem.Own w' w.heap.size 5 .u8 (.slice y.A y.n y.c) y.zs ∧ Rd (fun b => w.heap.size ≤ b) w' y ∧ Below w.heap.size w w' := by
  obtain ⟨p, v, HS, hsh, hp⟩ := shows_any H.sto hk H.some (by omega)
  refine (get_core HS).mono ?_
  rintro r w' ⟨y, rfl, h1, h2, h3, h4⟩
  rw [hsh]
  exact ⟨y, rfl, h1, by rw [h1]; exact h2, h3, h4⟩
theorem versions_si (H : SI ow w s W N es) (hk : k.length ≤ maxLen) :
    Calls Try.prog 29 #[.pointer (some ⟨s, 0, none⟩), encStr k] w fun r w' => r = .returned (.int .i64 ((verP (absL es) k).length : Int)) ∧ w = w' := by
  by_cases hm : ∃ e ∈ es, e.k = k
  · obtain ⟨e, he, rfl⟩ := hm
    have hv : (verP (absL es) e.k).length = e.vs.length := by
      unfold verP
      rw [H.sto.ent he]
      simp [Ent.p]
    rw [hv]
    exact versions_some H.sto he
  · have hne : ∀ e ∈ es, e.k ≠ k := fun e he h => hm ⟨e, he, h⟩
    have hv : (verP (absL es) k).length = 0 := by
      unfold verP
      rw [ent_no hne]
      rfl
    rw [hv]
    exact versions_none H.sto hk hne
theorem at_p {p : Option Nat} {v : Vw} (hsh : shwP (absL es) k = (v.is, v.x.zs)) (hp : (p = none ∧ entP (absL es) k = none) ∨ ∃ (i : Nat) (e : Ent), es[i]? = some e ∧ e.k = k ∧ p = some e.h) (hv : v.is = true) : ∃ (i : Nat) (e : Ent), es[i]? = some e ∧ e.k = k ∧ p = some e.h := by
  rcases hp with ⟨_, h0⟩ | h
  · unfold shwP at hsh
    rw [h0] at hsh
    have := congrArg Prod.fst hsh
    simp [hv] at this
  · exact h
theorem delete_si (H : SI ow w s W N es) (hk : k.length ≤ maxLen) (hN : N ≤ 900000) :
    Calls Try.prog 13 #[.pointer (some ⟨s, 0, none⟩), encStr k] w fun r w' => r = .returned (.bool (delP W k (absL es)).1) ∧ ∃ ow' es', SI ow' w' s W (N + 3) es' ∧ Chg ow ow' w w' ∧ absL es' = (delP W k (absL es)).2 := by
  obtain ⟨p, v, HS, hsh, hp⟩ := shows_any H.sto hk H.some (by omega)
  unfold delP
  rw [hsh]
  cases hv : v.is
  · refine (delete_no HS hv).mono ?_
    rintro r w' ⟨rfl, hb⟩
    exact ⟨rfl, ow, es, (H.below hb).more (by omega), Chg.below hb ow, rfl⟩
  · obtain ⟨i, e, hi, rfl, rfl⟩ := at_p hsh hp hv
    refine (delete_yes H.sto HS hi hv (by omega)).mono ?_
    rintro r w' ⟨rfl, ow', es', h1, h2, h3⟩
    exact ⟨rfl, ow', es', ⟨h1.more (by omega), by rw [h3]; exact good_show H.good (fun _ => rfl)⟩, h2, h3⟩
theorem swap_si (H : SI ow w s W N es) (hk : k.length ≤ maxLen) (hk' : k'.length ≤ maxLen) (hN : N ≤ 900000) :
    Calls Try.prog 11 #[.pointer (some ⟨s, 0, none⟩), encStr k, encStr k'] w fun r w' => r = .returned (.bool (swapP W k k' (absL es)).1) ∧ ∃ ow' es', SI ow' w' s W (N + 3) es' ∧ Chg ow ow' w w' ∧ absL es' = (swapP W k k' (absL es)).2 := by
  obtain ⟨p, v, HS, hsh, hp⟩ := shows_any H.sto hk H.some (by omega)
  obtain ⟨p', v', HS', hsh', hp'⟩ := shows_any H.sto hk' H.some (by omega)
  unfold swapP
  rw [hsh, hsh']
  have no : v.is = false ∨ v'.is = false → Calls Try.prog 11 #[.pointer (some ⟨s, 0, none⟩), encStr k, encStr k'] w fun r w' => r = .returned (.bool false) ∧ ∃ ow' es', SI ow' w' s W (N + 3) es' ∧ Chg ow ow' w w' ∧ absL es' = absL es := fun hv => by
    refine (swap_no HS HS' hv).mono ?_
    rintro r w' ⟨rfl, hb⟩
    exact ⟨rfl, ow, es, (H.below hb).more (by omega), Chg.below hb ow, rfl⟩
  cases hv : v.is
  · simp only [Bool.false_and, Bool.false_eq_true, if_false]
    exact no (.inl hv)
  · cases hv' : v'.is
    · simp only [Bool.and_false, Bool.false_eq_true, if_false]
      exact no (.inr hv')
    · obtain ⟨i, e, hi, rfl, rfl⟩ := at_p hsh hp hv
      obtain ⟨j, e', hj, rfl, rfl⟩ := at_p hsh' hp' hv'
      refine (swap_yes H.sto HS HS' hi hj hv hv' (by omega)).mono ?_
      rintro r w' ⟨rfl, ow', es', h1, h2, h3⟩
      have e1 : shwF W v.p = shwF W ⟨0, true, v.x.zs⟩ := by unfold shwF showP Vw.p; simp only [hv]
      have e2 : shwF W v'.p = shwF W ⟨0, true, v'.x.zs⟩ := by unfold shwF showP Vw.p; simp only [hv']
      rw [e1, e2] at h3
      exact ⟨rfl, ow', es', ⟨h1.more (by omega), by rw [h3]; exact good_show (good_show H.good (fun h => by cases h)) (fun h => by cases h)⟩, h2, h3⟩
theorem replay_si (H : SI ow w s W N es) (hk : k.length ≤ maxLen) {n : Int} (hN : N ≤ 900000) :
    Calls Try.prog 9 #[.pointer (some ⟨s, 0, none⟩), encStr k, .int .i64 n] w fun r w' => r = .returned (.bool (replayP W k n (absL es)).1) ∧ ∃ ow' es', SI ow' w' s W (N + 3) es' ∧ Chg ow ow' w w' ∧ absL es' = (replayP W k n (absL es)).2 := by
  have no : n < 0 ∨ ((verP (absL es) k).length : Int) ≤ n → Calls Try.prog 9 #[.pointer (some ⟨s, 0, none⟩), encStr k, .int .i64 n] w fun r w' => r = .returned (.bool false) ∧ ∃ ow' es', SI ow' w' s W (N + 3) es' ∧ Chg ow ow' w w' ∧ absL es' = absL es := fun hn => by
    refine (replay_no (versions_si H hk) hn).mono ?_
    rintro r w' ⟨rfl, rfl⟩
    exact ⟨rfl, ow, es, H.more (by omega), Chg.refl _ _, rfl⟩
  unfold replayP
  by_cases h0 : n < 0
  · rw [if_pos h0]
    exact no (.inl h0)
  · rw [if_neg h0]
    obtain ⟨m, rfl⟩ : ∃ m : Nat, n = (m : Int) := ⟨n.toNat, by omega⟩
    rw [Int.toNat_natCast]
    cases hv : (verP (absL es) k)[m]? with
    | none => exact no (.inr (by have := List.getElem?_eq_none_iff.1 hv; omega))
    | some zs =>
      have hkk := ver_key hv
      rw [abs_keys] at hkk
      obtain ⟨e, he, rfl⟩ := List.mem_map.1 hkk
      obtain ⟨i, hi⟩ := List.getElem?_of_mem he
      have hx : ∃ x : Bs, e.vs[m]? = some x ∧ x.zs = zs := by
        unfold verP at hv
        rw [H.sto.ent he] at hv
        have hv : (e.vs.map (·.zs))[m]? = some zs := hv
        rw [List.getElem?_map] at hv
        obtain ⟨x, h1, h2⟩ := Option.map_eq_some_iff.1 hv
        exact ⟨x, h1, h2⟩
      obtain ⟨x, hx, rfl⟩ := hx
      refine (replay_yes H.sto hi hx hN).mono ?_
      rintro r w' ⟨rfl, ow', es', h1, h2, h3⟩
      exact ⟨rfl, ow', es', ⟨h1.more (by omega), by rw [h3]; exact good_show H.good (fun h => by cases h)⟩, h2, h3⟩
theorem flip_si (H : SI ow w s W N es) (hk : k.length ≤ maxLen) {bit : Int} (hw : (Lit.int .i64 bit).wf = true) (hN : N ≤ 900000) :
    Calls Try.prog 17 #[.pointer (some ⟨s, 0, none⟩), encStr k, .int .i64 bit] w fun r w' => r = .returned (.bool (flipP W k bit (absL es)).1) ∧ ∃ ow' es', SI ow' w' s W (N + 3) es' ∧ Chg ow ow' w w' ∧ absL es' = (flipP W k bit (absL es)).2 := by
  obtain ⟨p, v, HS, hsh, hp⟩ := shows_any H.sto hk H.some (by omega)
  have hoff := shw_off H.good (x := k)
  unfold flipP
  rw [hsh] at hoff ⊢
  have hlen : v.x.zs.length = v.x.n := HS.rd.len
  by_cases hb : bit < 0 ∨ (v.x.zs.length : Int) ≤ bit / 8
  · rw [if_pos hb]
    refine (flip_no HS hw (by rw [← hlen]; exact hb)).mono ?_
    rintro r w' ⟨rfl, hb⟩
    exact ⟨rfl, ow, es, (H.below hb).more (by omega), Chg.below hb ow, rfl⟩
  · rw [if_neg hb]
    obtain ⟨b, rfl⟩ : ∃ b : Nat, bit = (b : Int) := ⟨bit.toNat, by omega⟩
    have hv : v.is = true := by
      cases hv : v.is
      · have h1 : v.x.zs = [] := hoff hv
        rw [h1] at hb
        simp at hb
        omega
      · rfl
    obtain ⟨i, e, hi, rfl, rfl⟩ := at_p hsh hp hv
    refine (flip_yes H.sto HS hi hw (by omega) (by omega)).mono ?_
    rintro r w' ⟨rfl, ow', es', h1, h2, h3⟩
    exact ⟨rfl, ow', es', ⟨h1.more (by omega), by rw [h3]; exact good_show H.good (fun h => by cases h)⟩, h2, by rw [h3]; rfl⟩
theorem writes_si (H : SI ow w s W N es) : Calls Try.prog 30 #[.pointer (some ⟨s, 0, none⟩)] w fun r w' => r = .returned (.int .i64 W) ∧ w = w' := writes_any H.sto
end
theorem new_si (w : World) : Calls Try.prog 7 #[] w fun r w' => ∃ s ow, r = .returned (.pointer (some ⟨s, 0, none⟩)) ∧ SI ow w' s 0 0 [] ∧ Below w.heap.size w w' ∧ (∀ b, ow b ≠ 0 → w.heap.size ≤ b) := by
  refine (new_any w).mono ?_
  rintro r w' ⟨s, ow, rfl, h1, h2, h3⟩
  exact ⟨s, ow, rfl, ⟨h1, GoodL.nil 0⟩, h2, h3⟩
theorem chg_below {ow ow' : Nat → Nat} {B : Nat} {w w' : World} (h : Chg ow ow' w w') (hB : B ≤ w.heap.size) (hn : ∀ b, ow b ≠ 0 → B ≤ b) : Below B w w' :=
  h.keep.below hB fun r hr => by
    rcases Nat.eq_zero_or_pos (ow r) with h0 | h0
    · show ow r ≤ 1
      omega
    · have := hn r (by omega); omega
theorem chg_new {ow ow' : Nat → Nat} {B : Nat} {w w' : World} (h : Chg ow ow' w w') (hB : B ≤ w.heap.size) (hn : ∀ b, ow b ≠ 0 → B ≤ b) : ∀ b, ow' b ≠ 0 → B ≤ b := fun b hb => by
  rcases Nat.lt_or_ge b w.heap.size with h1 | h1
  · rw [h.same b h1] at hb
    exact hn b hb
  · omega
set_option maxRecDepth 100000 in
set_option maxHeartbeats 8000000 in
theorem awake18_any (w : World) : Calls Try.prog 8 #[] w fun r w' => r = .returned (.bool true) ∧ Below w.heap.size w w' := by
  go_enter Try.func8, Try.ntmps8
  go_wp2_with fail
  refine (new_si w).mono ?_
  rintro r1 w1 ⟨s, ow1, rfl, H1, b1, n1⟩
  go_wp2_with (refine wpList_build_row1 (w := w1) rfl 31 5 1 _ rfl Try.underlying31 .u8 1 Help.info_u8 [1] rfl (by simp [Act.eval]) (fun z hz => by rw [List.mem_singleton.1 hz]; rfl) (by omega) (by omega) ?_; intro w2 q2 g2 z2)
  have b12 : Below w1.heap.size w1 w2 := (Below.refl _ _).grown g2 (Nat.le_refl _) (by simp)
  have H2 := H1.below b12
  have hr2 : Rd (fun b => ow1 b ≤ 1) w2 (⟨some ⟨w1.heap.size, 0, none⟩, 1, 1, [1]⟩ : Bs) := ⟨q2.ints (n := 1) (by simp), by show (1 : Nat) ≤ 1099511627776; omega, fun b off p e _ => by injection e with e; injection e with e; rw [← e, H1.sto.free (Nat.le_refl _)]; omega⟩
  refine (put_si H2 (k := [97]) (by decide) hr2 (by omega)).mono ?_
  rintro r3 w3 ⟨rfl, ow3, es3, H3, C3, L3⟩
  have hsh : shwP (absL es3) [97] = (true, [1]) := by rw [L3, shw_put, if_pos rfl]
  have HG := Lib.hid (get_si H3 (k := [97]) (by decide) (by omega))
  rw [hsh] at HG
  clear L3 hsh hr2
  go_wp2_with fail
  refine HG.out.mono ?_
  rintro r4 w4 ⟨y, rfl, hyz, hyo, hyr, b4⟩
  obtain ⟨A, n, c, zs⟩ := y
  obtain rfl : zs = [1] := hyz
  obtain rfl : n = 1 := hyr.len.symm
  clear hyo hyr
  go_wp2_with fail
  refine (writes_si (H3.below b4)).mono ?_
  rintro r5 w5 ⟨rfl, rfl⟩
  go_wp2_with fail
  go_ret
  have n2 : ∀ b, ow1 b ≠ 0 → w.heap.size ≤ b := n1
  have c1 := b1.trans (b12.mono b1.size)
  have c3 := chg_below C3 c1.size n1
  exact ⟨rfl, (c1.trans c3).trans (b4.mono (c1.trans c3).size)⟩
end Go.Proofs.Ytbippmbcgkicaaa.Sto
