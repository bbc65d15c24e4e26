/-
  copy within a region that draws its order: no program here. No conditions beyond those stated.
-/
import Derived.Test.YtdfnacnklmmjhaaRnd
namespace Go.Proofs.Ytdfnacnklmmjhaa.Held
open Go.RowKit Go.Proofs.Ytdfnacnklmmjhaa.Mem
set_option linter.unusedVariables false
theorem op_copy_Row {P : Program} {ops : Array Oper} {Q : Exit → Act → World → Prop} (i : Nat) (dst : Option Tmp) {o : Oper} {a : Act} {w : World} {K : Act → World → Prop} {d s : Operand} (dT sT : TypeId) (hi : ops[i]? = some o) (hdst : o.dst = dst) (hw : Region.wanted o (yielded ops a.tmps) = true)
    (ho : o.op = .call { callee := .builtin .copy, args := #[d, s], argTypes := #[dT, sT] }) (e : TypeId) (hu : P.underlying dT = some (.slice e)) (hsz : (P.info? e).map (·.size) = some 1)
    (g off dLen dCap : Nat) (B : Nat) (A : Option Addr) (sLen sCap : Nat) (hd : a.eval d = .slice (some ⟨g, off, none⟩) dLen dCap) (hs : a.eval s = .slice A sLen sCap)
    (t : TypeId) (k : IntKind) (cur xs : List Int) (hr : Row w g t k cur) (hx : Ints w k B A sLen xs) (hfit : off + dLen ≤ cur.length)
    (h : ∀ w', Row w' g t k (laidOver cur off (xs.take (min sLen dLen))) → w.grownBy w' (some g) → K (a.put dst (.int .i64 ((min sLen dLen : Nat) : Int))) w') : wpOp P ops Q i K a w := by
  subst hdst
  refine op_wp i hi hw ?_
  obtain ⟨m, hm⟩ : ∃ m, min sLen dLen = m := ⟨_, rfl⟩
  rw [hm] at h
  have hlen : (xs.take m).length = m := by rw [List.length_take, hx.1]; omega
  by_cases h0 : m = 0
  · subst h0
    have hrun := run_copy_none (P := P) w dT sT o.type e (some ⟨g, off, none⟩) A dLen dCap sLen sCap hu hsz hm
    unfold Oper.wp
    simp [execOp, ho, resolve, invoke, builtin, hd, hs, hrun, Result.andThen]
    exact h w (by rw [List.take_zero, laidOver_nil]; exact hr) (World.grownBy.refl _ _)
  · obtain ⟨b, o2, rfl, _, hc⟩ := hx.2.2 (by omega)
    have hrun := run_copy_row (P := P) w dT sT o.type e g off dLen dCap ⟨b, o2, none⟩ sLen sCap (cur.map (Value.int k)).toArray t ((xs.take m).map (Value.int k)) hu hsz hr.2 (by rw [List.length_map, hlen]; exact hm.symm)
      (fun j v hv => by
        have hj : j < m := by
          have := (List.getElem?_eq_some_iff.1 hv).1
          rw [List.length_map, hlen] at this
          exact this
        have e1 : (Addr.mk b o2 none).add j = ⟨b, o2 + j, none⟩ := by unfold Addr.add; split <;> simp_all
        rw [e1, hc j (by omega), ← hv]
        simp [List.getD_eq_getElem?_getD, hj, show j < xs.length by have := hx.1; omega])
      (by simp [hx.1]; omega) (by intro v hv; obtain ⟨z, _, rfl⟩ := List.mem_map.1 hv; rfl)
    have hcells : (((cur.map (Value.int k)).toArray.toList.take off ++ ((xs.take m).map (Value.int k) ++ (cur.map (Value.int k)).toArray.toList.drop (off + ((xs.take m).map (Value.int k)).length)))).toArray = arr k (laidOver cur off (xs.take m)) := by
      rw [List.length_map, hlen]
      simp [arr, laidOver, List.map_take, List.map_drop, hlen]
    have hrun' : (Builtin.copy_ #[dT, sT] o.type #[.slice (some ⟨g, off, none⟩) dLen dCap, .slice (some ⟨b, o2, none⟩) sLen sCap]).run P w = .ok (.int .i64 (m : Int)) (w.setRow g (arr k (laidOver cur off (xs.take m)))) := by
      rw [← hcells]
      have := hrun
      rw [List.length_map, hlen, List.append_assoc] at this
      rw [List.length_map, hlen]
      exact this
    unfold Oper.wp
    simp [execOp, ho, resolve, invoke, builtin, hd, hs, hrun', Result.andThen]
    exact h _ (hr.setRow (fun z hz => by
      rcases laidOver_mem hz with h1 | h1
      · exact hr.1 z h1
      · exact hx.2.1 z (List.mem_of_mem_take h1))) (grown_setRow _ _ _)
end Go.Proofs.Ytdfnacnklmmjhaa.Held

