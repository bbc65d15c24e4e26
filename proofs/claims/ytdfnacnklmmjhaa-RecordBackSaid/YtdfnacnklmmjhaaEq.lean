/-
  Two arrays of the same integers are alike, by the model's own '=='.
-/
import Derived.Test.YtdfnacnklmmjhaaArr
import Derived.Laws.StructEq
import Derived.ChangeKeysEq
namespace Go
namespace Proofs.Ytdfnacnklmmjhaa.Mem

theorem eql_arr {P : Program} (w : World) (t e : TypeId) (n : Nat) (k : IntKind) (zs : List Int) (ht : P.underlying t = some (.array n e)) (he : P.underlying e = some (.int k)) (hs : (P.info? e).map (·.size) = some 1) (hx : zs.length = n) :
    (binOp .eql t (.agg (arr k zs)) (.agg (arr k zs))).run P w = .ok (.bool true) w := by
  obtain ⟨inf, hi, h1⟩ := Option.map_eq_some_iff.1 hs
  have hc : P.cellsOf e = 1 := by simp [Program.cellsOf, hi, h1]
  have key : (Op.equalIn (9998 + 1 + 1) t (.agg (arr k zs)) (.agg (arr k zs))).run P w = .ok true w := by
    rw [run_equalIn_array w (9998 + 1) _ _ ht hi, hc]
    have hl : ∀ i ∈ List.range n, i < n := fun i hi => List.mem_range.1 hi
    generalize List.range n = l at hl ⊢
    induction l with
    | nil => simp [Op.eqItems]
    | cons i l ih =>
      have hi : i < n := hl i (by simp)
      have px : (part e (arr k zs) (i * 1)).run P w = .ok (.int k (zs.getD i 0)) w := by
        have := arr_get k zs (i := i) (by omega)
        simp [part, isAgg, run_underlying he, this]
      have pe : (Op.equalIn (9998 + 1) e (.int k (zs.getD i 0)) (.int k (zs.getD i 0))).run P w = .ok true w := by
        rw [run_equalIn_int w 9998 e k k _ _ he]
        simp
      rw [Op.eqItems]
      simp only [Sem.run_bind, px, pe, Result.andThen_ok, Bool.not_true, Bool.false_eq_true, if_false]
      exact ih fun j hj => hl j (by simp [hj])
  rw [run_eql_struct, show (10000 : Nat) = 9998 + 1 + 1 from rfl, key]
  rfl

end Proofs.Ytdfnacnklmmjhaa.Mem
end Go

