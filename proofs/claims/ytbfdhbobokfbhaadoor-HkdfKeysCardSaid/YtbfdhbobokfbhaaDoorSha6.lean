/-
  The function padded of package sha by its contract. Conditions: at most 2^30 parts, of at most 2^40 bytes together.
-/
import Derived.Test.YtbfdhbobokfbhaaDoorSha5
namespace Go.Proofs.YtbfdhbobokfbhaaDoor.Sha
open Go.RowKit Go.Proofs.YtbfdhbobokfbhaaDoor.Mem Go.Proofs.YtbfdhbobokfbhaaDoor.Help Go.Proofs.YtbfdhbobokfbhaaDoor.Sum
set_option linter.unusedVariables false

/-- the values vs are slices that read as the texts xss -/
def Texts (w : World) (B : Nat) (vs : List Value) (xss : List (List Int)) : Prop :=
  vs.length = xss.length ∧ ∀ i, i < vs.length → ∃ A n c, vs.getD i undef = .slice A n c ∧ n ≤ c ∧ c ≤ maxLen ∧ Ints w .u8 B A n (xss.getD i [])
section
variable {w w' : World} {B B' : Nat} {vs us : List Value} {xss yss : List (List Int)}
theorem Texts.below (h : Texts w B vs xss) (hb : Below B w w') : Texts w' B vs xss := ⟨h.1, fun i hi => by obtain ⟨A, n, c, e, h1, h2, hh⟩ := h.2 i hi; exact ⟨A, n, c, e, h1, h2, hh.below hb⟩⟩
theorem Texts.more (h : Texts w B vs xss) (hB : B ≤ B') : Texts w B' vs xss := ⟨h.1, fun i hi => by obtain ⟨A, n, c, e, h1, h2, hh⟩ := h.2 i hi; exact ⟨A, n, c, e, h1, h2, hh.more hB⟩⟩
theorem Texts.keep (h : Texts w B vs xss) (hk : ∀ p : Addr, p.block < B → w'.cell? p = w.cell? p) : Texts w' B vs xss := ⟨h.1, fun i hi => by obtain ⟨A, n, c, e, h1, h2, hh⟩ := h.2 i hi; exact ⟨A, n, c, e, h1, h2, hh.keep hk⟩⟩
theorem Texts.nil (w : World) (B : Nat) : Texts w B [] [] := ⟨rfl, fun i hi => by simp at hi⟩
theorem Texts.append (h : Texts w B vs xss) (k : Texts w B us yss) : Texts w B (vs ++ us) (xss ++ yss) := by
  refine ⟨by simp [h.1, k.1], fun i hi => ?_⟩
  by_cases q : i < vs.length
  · have := h.2 i q
    simp only [List.getD_eq_getElem?_getD] at this ⊢
    rw [List.getElem?_append_left q, List.getElem?_append_left (by rw [← h.1]; exact q)]
    exact this
  · rw [List.length_append] at hi
    have := k.2 (i - vs.length) (by omega)
    simp only [List.getD_eq_getElem?_getD] at this ⊢
    rw [List.getElem?_append_right (by omega), List.getElem?_append_right (by rw [← h.1]; omega), ← h.1]
    exact this
theorem Texts.one {A : Option Addr} {n c : Nat} {xs : List Int} (h : Ints w .u8 B A n xs) (h1 : n ≤ c) (h2 : c ≤ maxLen) : Texts w B [.slice A n c] [xs] :=
  ⟨rfl, fun i hi => by
    have : i = 0 := by simpa using hi
    subst this
    exact ⟨A, n, c, rfl, h1, h2, h⟩⟩
theorem Texts.one_cell (h : Texts w B vs xss) : ∀ v ∈ vs, v.oneCell' = true := fun v hv => by
  obtain ⟨i, hi, rfl⟩ := List.mem_iff_getElem.1 hv
  obtain ⟨A, n, c, e, _⟩ := h.2 i hi
  rw [List.getD_eq_getElem?_getD, List.getElem?_eq_getElem hi] at e
  simp only [Option.getD_some] at e
  rw [e]; rfl
end

theorem flat_take (xss : List (List Int)) {k : Nat} (h : k < xss.length) : (xss.take (k + 1)).flatten.length = (xss.take k).flatten.length + (xss.getD k []).length := by
  rw [List.take_add_one, List.getElem?_eq_getElem h, List.flatten_append, List.length_append]
  simp [List.getD_eq_getElem?_getD, h]
theorem flat_le (xss : List (List Int)) (k : Nat) : (xss.take k).flatten.length ≤ xss.flatten.length := by
  have := congrArg List.length (congrArg List.flatten (List.take_append_drop k xss))
  rw [List.flatten_append, List.length_append] at this
  omega

theorem padded_any (B : Nat) (A : Option Addr) (m c : Nat) (vs : List Value) (xss : List (List Int)) (w : World) (h : Vals w B A m vs) (ht : Texts w B vs xss) (hB : B ≤ w.heap.size) (hm : m ≤ 1073741824) (hn : xss.flatten.length ≤ 1099511627776) :
    Calls Tryd.prog 37 #[.slice A m c] w fun e w' => ∃ v, e = .returned v ∧ w'.ownsRow w.heap.size 22 1 v (m + 1) (vs ++ [.slice (some ⟨w.heap.size, 0, none⟩) (padI xss.flatten.length).length (padI xss.flatten.length).length]) ∧
      Row w' w.heap.size 5 .u8 (padI xss.flatten.length) ∧ Below w.heap.size w w' := by
  have hm' : (m : Int) ≤ 1073741824 := by omega
  have HV := Lib.hid h.1
  have HX := Lib.hid ht.1
  have HN := Lib.hid hn
  go_enter Tryd.func37, Tryd.ntmps37
  go_wp2_with fail
  go_loop [3, 8] (fun s i => ∃ k : Nat, k ≤ m ∧ i = .int .i64 k ∧ ∃ q : Nat, s = .int .i64 q ∧ Hid (q = (xss.take k).flatten.length)) (fun _ i => m - (intOf i).toNat)
  case atStart => exact ⟨0, by omega, rfl, 0, rfl, Lib.hid (by simp)⟩
  case round =>
    obtain ⟨k, hk, rfl, q, rfl, hq⟩ := hrel
    have hq0 : q ≤ 1099511627776 := by have := hq.out; have := flat_le xss k; omega
    by_cases hlt : k < m
    · obtain ⟨b, off, rfl, hb, hc⟩ := h.at_ hlt
      obtain ⟨A1, n1, c1, e1, hc1, hm1, hi1⟩ := ht.2 k (by rw [HV.out]; exact hlt)
      rw [e1] at hc
      have HQ := Lib.hid (show q + n1 = (xss.take (k + 1)).flatten.length by rw [flat_take xss (by have := HV.out; have := HX.out; omega), hi1.1, ← hq.out])
      have hq1 : q + n1 ≤ 1099511627776 := by have := HQ.out; have := flat_le xss (k + 1); omega
      have hlt' : (k : Int) < (m : Int) := by omega
      have hk0 : (0 : Int) ≤ (k : Int) := by omega
      have hq1' : (q : Int) + (n1 : Int) ≤ 1099511627776 := by omega
      clear e1 hi1
      go_wp2_with fail
      go_round
      case rel => exact ⟨k + 1, by omega, by go_num, q + n1, by go_num, HQ⟩
      case measure => simp [intOf]; omega
    · have hkm : k = m := by omega
      subst hkm
      have hqn : Hid (q = xss.flatten.length) := by
        have := hq.out
        rw [List.take_of_length_le (by have := HV.out; have := HX.out; omega)] at this
        exact Lib.hid this
      clear hq
      go_wp2_with fail
      refine (pad_any (q : Int) q _ (by omega) (by omega)).mono ?_
      rintro e w1 ⟨rfl, hr1, hb1⟩
      go_wp2_with fail
      have s1 := hb1.size
      have hw : w.heap.size < w1.heap.size := hr1.lt
      have p1 := (Vals.new w1 22 [.slice (some ⟨w.heap.size, 0, none⟩) (padI q).length (padI q).length] (by simp [Value.oneCell'])).alloc (by simp) (.cells #[.slice A k c, .slice (some ⟨w1.heap.size, 0, none⟩) 1 1] 43)
      have p2 := Vals.new (w1.alloc (.cells [.slice (some ⟨w.heap.size, 0, none⟩) (padI q).length (padI q).length].toArray 22)) 43 [.slice A k c, .slice (some ⟨w1.heap.size, 0, none⟩) 1 1] (by simp [Value.oneCell'])
      have b3 : Below w.heap.size w ((w1.alloc (.cells #[.slice (some ⟨w.heap.size, 0, none⟩) (padI q).length (padI q).length] 22)).alloc (.cells #[.slice A k c, .slice (some ⟨w1.heap.size, 0, none⟩) 1 1] 43)) := (hb1.alloc s1 _).alloc (by simp; omega) _
      have p0 := (h.below (b3.mono hB)).more (B' := w1.heap.size + 1 + 1) (by omega)
      have r3 := (hr1.alloc (.cells #[.slice (some ⟨w.heap.size, 0, none⟩) (padI q).length (padI q).length] 22)).alloc (.cells #[.slice A k c, .slice (some ⟨w1.heap.size, 0, none⟩) 1 1] 43)
      rw [World.size_alloc] at p2
      refine (concat_any (w1.heap.size + 1 + 1) _ A _ 2 k 1 c 1 vs _ _ p2 p0 (p1.more (by omega)) (by simp) (by omega) (by omega) (by omega)).mono ?_
      rintro e w4 ⟨v, rfl, hown, hb4⟩
      have hz4 := hb4.size
      rw [World.size_alloc, World.size_alloc] at hz4
      have hown' : w4.ownsRow w.heap.size 22 1 v (k + 1) (vs ++ [.slice (some ⟨w.heap.size, 0, none⟩) (padI q).length (padI q).length]) := by
        refine ⟨hown.1, ?_⟩
        rcases hown.2 with hh | ⟨g, cap, cur, e, hge, rest⟩
        · exact .inl hh
        · rw [World.size_alloc, World.size_alloc] at hge
          exact .inr ⟨g, cap, cur, e, by omega, rest⟩
      have T4 := r3.below hb4 (by simp; omega)
      rw [hqn.out] at T4 hown'
      have b4 := b3.trans (hb4.mono (by simp; omega))
      clear p0 p1 p2 r3 b3 hown hb4 hr1 hb1 h ht
      go_wp2_with fail
      go_ret
      exact ⟨v, rfl, hown', T4, b4⟩
end Go.Proofs.YtbfdhbobokfbhaaDoor.Sha

