/-
  append(s, make([]T, m)...) onto what the call owns, for numbers: no program here. No conditions beyond those stated.
-/
import Derived.Test.YtdfnacnklmmjhaaOwn
import Derived.Lib.AppendZerosOnto
import Derived.Maps.AppendAt
namespace Go.Proofs.Ytdfnacnklmmjhaa.Mem
open Go.RowKit
set_option linter.unusedVariables false

theorem zeroCells_one (z : Value) (hz : z.cells = #[z]) (n : Nat) : Builtin.zeroCells z.cells n = (List.replicate n z).toArray := by
  rw [hz]
  apply Array.ext
  · simp [Builtin.zeroCells]
  · intro i h1 h2
    simp [Builtin.zeroCells, Nat.mod_one]

theorem run_append_zeros {P : Program} (w : World) (base : Nat) (ts tn ty e : TypeId) (k kn kq : IntKind) (bytes : Nat) (ht : P.underlying ts = some (.slice e)) (htn : P.underlying tn = some (.int kn))
    (hinfo : (P.info? e).map (fun i => (i.zero, i.size, i.bytes)) = some (some (.int k 0), 1, bytes)) (v : Value) (zs : List Int) (hown : Own w base e k v zs)
    (m : Nat) (hlen : zs.length + m ≤ 17592186044416) (hby : bytes ≤ 8) (hbase : base ≤ w.heap.size) :
    ∃ v' w', (Builtin.append_ #[ts, tn] ty #[v, .int kq (m : Int)]).run P w = .ok v' w' ∧ Own w' base e k v' (zs ++ List.replicate m 0) ∧ w.grownBy w' v.ownBlock ∧ (v'.ownBlock = v.ownBlock ∨ v'.ownBlock = some w.heap.size) := by
  obtain ⟨i, hi, hz, hsz, hb⟩ := info_parts hinfo
  have hw0 : (Lit.int k 0).wf = true := by cases k <;> decide
  have hwf : ∀ z ∈ zs ++ List.replicate m 0, (Lit.int k z).wf = true := fun z hz' => by
    rcases List.mem_append.1 hz' with h | h
    · exact hown.1 z h
    · rw [List.eq_of_mem_replicate h]; exact hw0
  have hzc : (Value.int k 0).cells = #[Value.int k 0] := rfl
  have hwrap : IntKind.i64.wrap (m : Int) = (m : Int) := by rw [IntKind.wrap_i64]; omega
  have hw00 : IntKind.i64.wrap (0 : Int) = 0 := by decide
  have hmb : (m : Int) * (bytes : Int) ≤ 281474976710656 := by
    have h2 : m * bytes ≤ 140737488355328 := Nat.le_trans (Nat.mul_le_mul (by omega : m ≤ 17592186044416) hby) (by decide)
    rw [← Int.natCast_mul]
    omega
  have hll : (zs ++ List.replicate m (0 : Int)).length = zs.length + m := by simp
  -- what the growing arm leaves
  have grown : ∀ (old : Nat), old < zs.length + m → ∀ (row : Option Nat),
      (w.drew.alloc (.cells ((zs.map (Value.int k)).toArray ++ Builtin.zeroCells (Value.int k 0).cells m ++ Builtin.zeroCells (Value.int k 0).cells (grownCap w (zs.length + m) old e - (zs.length + m))) e)).ownsRow base e 1
        (.slice (some ⟨w.heap.size, 0, none⟩) (zs.length + m) (grownCap w (zs.length + m) old e)) (zs.length + m) ((zs ++ List.replicate m 0).map (Value.int k)) ∧
      w.grownBy (w.drew.alloc (.cells ((zs.map (Value.int k)).toArray ++ Builtin.zeroCells (Value.int k 0).cells m ++ Builtin.zeroCells (Value.int k 0).cells (grownCap w (zs.length + m) old e - (zs.length + m))) e)) row := by
    intro old ho row
    have hge := grownCap_ge w (zs.length + m) old e
    have hcm : grownCap w (zs.length + m) old e ≤ maxLen := grownCap_le_maxLen w (zs.length + m) old e (by simp only [maxLen]; omega)
    refine ⟨⟨by simp, .inr ⟨w.heap.size, _, _, rfl, hbase, heap_alloc_new w.drew _, hge, hcm, ?_, ?_⟩⟩, ⟨rfl, rfl, rfl, by simp, fun k hk _ => heap_alloc_old w.drew _ hk⟩⟩
    · simp only [Array.size_append, List.size_toArray, size_zeroCells, hzc, List.length_map, List.size_toArray, List.length_cons, List.length_nil]
      omega
    · rw [zeroCells_one _ hzc m]
      simp only [Array.toList_append, List.append_assoc, List.map_append, List.map_replicate]
      rw [← List.append_assoc, show (zs.length + m) * 1 = (zs.map (Value.int k) ++ List.replicate m (Value.int k 0)).length by simp]
      exact List.take_left
  rcases hown.2.2 with ⟨rfl, h0⟩ | ⟨g, cap, cur, rfl, hbg, hg, hnc, hcm, hcs, htake⟩
  · have hx : zs = [] := List.eq_nil_of_length_eq_zero h0
    subst hx
    by_cases hm : m = 0
    · subst hm
      refine ⟨.slice none 0 0, w, ?_, by simpa using Own.nil w base e k, ⟨rfl, rfl, rfl, Nat.le_refl _, fun _ _ _ => rfl⟩, .inl rfl⟩
      simp [Builtin.append_, run_underlying ht, run_underlying htn, sizeOf, typeInfo, hi, asInt, asIntOf, hw00]
    · have hr := Lib.run_append_nil_zeros (P := P) w ts tn ty e i (.int k 0) kq kn ht htn hi hz m (by omega) (by omega) (by omega) (by rw [hb]; exact Nat.le_trans (Nat.mul_le_mul (by simpa using hlen) hby) (by omega))
      have hgr := grown 0 (by simp; omega) (Value.ownBlock (.slice none 0 0))
      simp only [List.length_nil, Nat.zero_add, List.map_nil, List.nil_append] at hgr hlen ⊢
      have ea : ((#[] : Array Value) ++ Builtin.zeroCells (Value.int k 0).cells m) = Builtin.zeroCells (Value.int k 0).cells m := by simp
      simp only [ea] at hgr
      exact ⟨_, _, hr, ⟨by simpa using hwf, by simpa using hgr.1⟩, hgr.2, .inr rfl⟩
  · by_cases hroom : zs.length + m ≤ cap
    · have hcs' : cur.size = cap := by simpa using hcs
      have hst := run_storeCells_at P g zs.length e (List.replicate m (Value.int k 0)) 0 cur w hg (by simp; omega) (fun v hv => by rw [List.eq_of_mem_replicate hv]; rfl)
      simp only [Nat.add_zero, List.length_replicate] at hst
      have hrun : (Builtin.append_ #[ts, tn] ty #[.slice (some ⟨g, 0, none⟩) zs.length cap, .int kq (m : Int)]).run P w =
          .ok (.slice (some ⟨g, 0, none⟩) (zs.length + m) cap) (w.setRow g (cur.toList.take zs.length ++ List.replicate m (Value.int k 0) ++ cur.toList.drop (zs.length + m)).toArray) := by
        by_cases hm : m = 0
        · subst hm
          have e1 : cur.toList.take zs.length ++ List.replicate 0 (Value.int k 0) ++ cur.toList.drop (zs.length + 0) = cur.toList := by simp
          rw [e1]
          simp only [List.replicate_zero] at hst
          simp [Builtin.append_, run_underlying ht, run_underlying htn, sizeOf, typeInfo, hi, asInt, asIntOf, hw00, hnc, Addr.add_lit, storeCells] at hst ⊢
          first | exact hst | simpa using hst
        · have hmi : ¬ ((m : Int) < 0) := by omega
          have hb2 : ¬ (281474976710656 < (m : Int) * (bytes : Int)) := by omega
          have hmz : ¬ m = 0 := hm
          simp [Builtin.append_, run_underlying ht, run_underlying htn, sizeOf, typeInfo, zeroValue, hi, hz, hsz, hb, asInt, asIntOf, hwrap, hmi, hb2, hmz, hroom, zeroCells_one _ hzc, Addr.add_lit, hst]
      refine ⟨_, _, hrun, ⟨hwf, by rw [hll]; simp, .inr ⟨g, cap, _, by rw [hll], hbg, setRow_heap w g cur _ e _ hg, by rw [hll]; exact hroom, hcm, ?_, ?_⟩⟩, ⟨rfl, rfl, rfl, by simp, fun k _ hk => setRow_other w g k _ (fun e => hk (by simp [Value.ownBlock, e]))⟩, .inl rfl⟩
      · simp only [List.size_toArray, List.length_append, List.length_take, List.length_drop, Array.length_toList, List.length_replicate]
        omega
      · have ht' : cur.toList.take zs.length = zs.map (Value.int k) := by simpa using htake
        rw [ht', hll, show (zs.length + m) * 1 = (zs.map (Value.int k) ++ List.replicate m (Value.int k 0)).length by simp, List.map_append, List.map_replicate]
        exact List.take_left
    · have holds := hown.2.cells (g := g) rfl
      have hf := run_firstCells_some (P := P) w.drew i.size zs.length ⟨g, 0, none⟩ zs.length cap (zs.map (Value.int k)) (by simp [hsz]) (by simpa using holds)
      have hr := Lib.run_append_grow_zeros (P := P) w ts tn ty e i (.int k 0) kq kn ht htn hi hz (some ⟨g, 0, none⟩) zs.length cap _ hf m (by omega) (by omega) (by omega) (by omega)
        (by rw [hb]; exact Nat.le_trans (Nat.mul_le_mul (by omega : m ≤ 17592186044416) hby) (by omega)) (growslice_fits (by omega) (by rw [hb]; exact Nat.le_trans (Nat.mul_le_mul hlen hby) (by omega)))
      have hgr := grown cap (by omega) (Value.ownBlock (.slice (some ⟨g, 0, none⟩) zs.length cap))
      exact ⟨_, _, hr, ⟨hwf, by rw [hll]; exact hgr.1⟩, hgr.2, .inr rfl⟩
end Go.Proofs.Ytdfnacnklmmjhaa.Mem

