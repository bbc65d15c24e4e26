/-
  The document's own check of programs, by its contract, of any program.
  The document's own check of programs, by its contract, of any program.
-/
import Derived.Test.YtkiempdpfmolfaaB7
set_option linter.unusedVariables false
namespace Go.Proofs.Ytkiempdpfmolfaa.Cn
open Go.RowKit Go.Shelf Go.Proofs.Ytkiempdpfmolfaa Mem Held Rc Rs Sl Vm
attribute [local irreducible] wpList wpListIn Calls
set_option maxRecDepth 100000 in
set_option maxHeartbeats 32000000 in
theorem rpart_any (B : Nat) (A : Option Addr) (n c : Nat) (xs : List O) (k : Int) (w : World) (h : Lst kO w B A n xs) (hB : B ≤ w.heap.size) (hn : n ≤ 9223372036854775807) :
    Calls Try.prog 31 #[.slice A n c, .int .i64 k] w fun e w' => e = .returned (.bool (mayP xs k)) ∧ Below w.heap.size w w' := by
  have HL := Lib.hid h.1
  have HSET := Lib.hid (fun i (hi : i < n) (hb : mayO (xs.getD i O0) k = false) => bad_all (l := xs) (k := k) (by rw [h.1]; exact hi) hb)
  go_enter Try.func31, Try.ntmps31
  go_wp2_with fail
  go_loopw [5] (fun t wr => ∃ i : Nat, i ≤ n ∧ t = .int .i64 i ∧ Below w.heap.size w wr ∧ Hid (∀ j, j < i → mayO (xs.getD j O0) k = true)) (fun t _ => n - (intOf t).toNat)
  case atStart => exact ⟨0, by omega, rfl, Below.refl _ _, Lib.hid (fun j hj => absurd hj (by omega))⟩
  case round =>
    obtain ⟨i, hi, rfl, bw, HALL⟩ := hrel
    by_cases hlt : i < n
    · obtain ⟨b, off, rfl, hb1, hx⟩ := (h.below (bw.mono hB)).at_ hlt
      have hx : wr.rangeAt b (off + i * 6) (xs.getD i O0).cells := hx
      have HB := Lib.hid (HSET.out i hlt)
      have HG := Lib.hid (fun hg : mayO (xs.getD i O0) k = true => (Lib.hid (fun j (hj : j < i + 1) => if ej : j = i then (by rw [ej]; exact hg) else HALL.out j (by omega)) : Hid (∀ j, j < i + 1 → mayO (xs.getD j O0) k = true)))
      generalize xs.getD i O0 = x at hx HB HG
      obtain ⟨code, rd, ra, rb, rc, nn⟩ := x
      have hx : wr.rangeAt b (off + i * 6) [.int .i64 code, .int .i64 rd, .int .i64 ra, .int .i64 rb, .int .i64 rc, .int .i64 nn] := hx
      have hlt' : (i : Int) < (n : Int) := by omega
      have hi0 : (0 : Int) ≤ (i : Int) := by omega
      by_cases k1 : code < 1
      · have HBAD := Lib.hid (HB.out (by unfold mayO isReg; simp; omega))
        clear HB HG
        go_wp2_with (first
          | (refine wpList_run (w := wr) rfl (v := .pointer (some ⟨b, off + i * 6, none⟩)) (Held.y_addr (S := fun _ => True) rfl rfl rfl (run_addr_of (P := Try.prog) 22 50 b off n c i 6 .i64 Try.underlying22 size_op hlt) _ trivial) ?_)
          | (refine wpList_run (w := wr) rfl (v := .agg #[.int .i64 code, .int .i64 rd, .int .i64 ra, .int .i64 rb, .int .i64 rc, .int .i64 nn]) (y_load_range (S := fun W => W = wr) (n := 6) (cs := [.int .i64 code, .int .i64 rd, .int .i64 ra, .int .i64 rb, .int .i64 rc, .int .i64 nn]) rfl rfl Try.underlying50 rfl size_op rfl (fun W hW => by rw [hW]; exact hx) _ rfl) ?_)
          | (refine wpList_alloc_blk (w := wr) rfl 50 rfl _ zero_op ?_; intro v2 q2 g2 z2)
          | (refine wpList_store_blk (w := v2) rfl 50 _ _ rfl wr.heap.size 6 rfl 50 _ #[.int .i64 code, .int .i64 rd, .int .i64 ra, .int .i64 rb, .int .i64 rc, .int .i64 nn] rfl q2 size_op rfl rfl (by kernel_rfl) ?_; intro w8 q8 g3 z3; have b8 : Below wr.heap.size wr w8 := ((Below.refl _ wr).grown g2 (Nat.le_refl _) (by simp)).grown g3 g2.size (fun r e => by cases e; exact Nat.le_refl _); have d0 := q8.cell (i := 0) rfl; have d1 := q8.cell (i := 1) rfl; have d2 := q8.cell (i := 2) rfl; have d3 := q8.cell (i := 3) rfl; have d4 := q8.cell (i := 4) rfl; have d5 := q8.cell (i := 5) rfl; clear g2 g3 z2 z3 q2)
          | (refine wpList_run (w := w8) rfl (v := .pointer (some ⟨wr.heap.size, 0, none⟩)) (Held.y_field (S := fun _ => True) (k := 0) (s := 0) rfl rfl Try.underlying50 rfl (by kernel_rfl) rfl _ trivial) ?_)
          | (refine wpList_run (w := w8) rfl (v := .pointer (some ⟨wr.heap.size, 1, none⟩)) (Held.y_field (S := fun _ => True) (k := 1) (s := 0) rfl rfl Try.underlying50 rfl (by kernel_rfl) rfl _ trivial) ?_)
          | (refine wpList_run (w := w8) rfl (v := .pointer (some ⟨wr.heap.size, 2, none⟩)) (Held.y_field (S := fun _ => True) (k := 2) (s := 0) rfl rfl Try.underlying50 rfl (by kernel_rfl) rfl _ trivial) ?_)
          | (refine wpList_run (w := w8) rfl (v := .pointer (some ⟨wr.heap.size, 3, none⟩)) (Held.y_field (S := fun _ => True) (k := 3) (s := 0) rfl rfl Try.underlying50 rfl (by kernel_rfl) rfl _ trivial) ?_)
          | (refine wpList_run (w := w8) rfl (v := .pointer (some ⟨wr.heap.size, 4, none⟩)) (Held.y_field (S := fun _ => True) (k := 4) (s := 0) rfl rfl Try.underlying50 rfl (by kernel_rfl) rfl _ trivial) ?_)
          | (refine wpList_run (w := w8) rfl (v := .pointer (some ⟨wr.heap.size, 5, none⟩)) (Held.y_field (S := fun _ => True) (k := 5) (s := 0) rfl rfl Try.underlying50 rfl (by kernel_rfl) rfl _ trivial) ?_))
        go_ret
        exact ⟨Mem.ret_bool HBAD.out.symm, bw.trans (b8.mono bw.size)⟩
      · by_cases k2 : code > 12
        · have HBAD := Lib.hid (HB.out (by unfold mayO isReg; simp; omega))
          clear HB HG
          go_wp2_with (first
            | (refine wpList_run (w := wr) rfl (v := .pointer (some ⟨b, off + i * 6, none⟩)) (Held.y_addr (S := fun _ => True) rfl rfl rfl (run_addr_of (P := Try.prog) 22 50 b off n c i 6 .i64 Try.underlying22 size_op hlt) _ trivial) ?_)
            | (refine wpList_run (w := wr) rfl (v := .agg #[.int .i64 code, .int .i64 rd, .int .i64 ra, .int .i64 rb, .int .i64 rc, .int .i64 nn]) (y_load_range (S := fun W => W = wr) (n := 6) (cs := [.int .i64 code, .int .i64 rd, .int .i64 ra, .int .i64 rb, .int .i64 rc, .int .i64 nn]) rfl rfl Try.underlying50 rfl size_op rfl (fun W hW => by rw [hW]; exact hx) _ rfl) ?_)
            | (refine wpList_alloc_blk (w := wr) rfl 50 rfl _ zero_op ?_; intro v2 q2 g2 z2)
            | (refine wpList_store_blk (w := v2) rfl 50 _ _ rfl wr.heap.size 6 rfl 50 _ #[.int .i64 code, .int .i64 rd, .int .i64 ra, .int .i64 rb, .int .i64 rc, .int .i64 nn] rfl q2 size_op rfl rfl (by kernel_rfl) ?_; intro w8 q8 g3 z3; have b8 : Below wr.heap.size wr w8 := ((Below.refl _ wr).grown g2 (Nat.le_refl _) (by simp)).grown g3 g2.size (fun r e => by cases e; exact Nat.le_refl _); have d0 := q8.cell (i := 0) rfl; have d1 := q8.cell (i := 1) rfl; have d2 := q8.cell (i := 2) rfl; have d3 := q8.cell (i := 3) rfl; have d4 := q8.cell (i := 4) rfl; have d5 := q8.cell (i := 5) rfl; clear g2 g3 z2 z3 q2)
            | (refine wpList_run (w := w8) rfl (v := .pointer (some ⟨wr.heap.size, 0, none⟩)) (Held.y_field (S := fun _ => True) (k := 0) (s := 0) rfl rfl Try.underlying50 rfl (by kernel_rfl) rfl _ trivial) ?_)
            | (refine wpList_run (w := w8) rfl (v := .pointer (some ⟨wr.heap.size, 1, none⟩)) (Held.y_field (S := fun _ => True) (k := 1) (s := 0) rfl rfl Try.underlying50 rfl (by kernel_rfl) rfl _ trivial) ?_)
            | (refine wpList_run (w := w8) rfl (v := .pointer (some ⟨wr.heap.size, 2, none⟩)) (Held.y_field (S := fun _ => True) (k := 2) (s := 0) rfl rfl Try.underlying50 rfl (by kernel_rfl) rfl _ trivial) ?_)
            | (refine wpList_run (w := w8) rfl (v := .pointer (some ⟨wr.heap.size, 3, none⟩)) (Held.y_field (S := fun _ => True) (k := 3) (s := 0) rfl rfl Try.underlying50 rfl (by kernel_rfl) rfl _ trivial) ?_)
            | (refine wpList_run (w := w8) rfl (v := .pointer (some ⟨wr.heap.size, 4, none⟩)) (Held.y_field (S := fun _ => True) (k := 4) (s := 0) rfl rfl Try.underlying50 rfl (by kernel_rfl) rfl _ trivial) ?_)
            | (refine wpList_run (w := w8) rfl (v := .pointer (some ⟨wr.heap.size, 5, none⟩)) (Held.y_field (S := fun _ => True) (k := 5) (s := 0) rfl rfl Try.underlying50 rfl (by kernel_rfl) rfl _ trivial) ?_))
          go_ret
          exact ⟨Mem.ret_bool HBAD.out.symm, bw.trans (b8.mono bw.size)⟩
        · by_cases k3 : rd < 0
          · have HBAD := Lib.hid (HB.out (by unfold mayO isReg; simp; omega))
            clear HB HG
            go_wp2_with (first
              | (refine wpList_run (w := wr) rfl (v := .pointer (some ⟨b, off + i * 6, none⟩)) (Held.y_addr (S := fun _ => True) rfl rfl rfl (run_addr_of (P := Try.prog) 22 50 b off n c i 6 .i64 Try.underlying22 size_op hlt) _ trivial) ?_)
              | (refine wpList_run (w := wr) rfl (v := .agg #[.int .i64 code, .int .i64 rd, .int .i64 ra, .int .i64 rb, .int .i64 rc, .int .i64 nn]) (y_load_range (S := fun W => W = wr) (n := 6) (cs := [.int .i64 code, .int .i64 rd, .int .i64 ra, .int .i64 rb, .int .i64 rc, .int .i64 nn]) rfl rfl Try.underlying50 rfl size_op rfl (fun W hW => by rw [hW]; exact hx) _ rfl) ?_)
              | (refine wpList_alloc_blk (w := wr) rfl 50 rfl _ zero_op ?_; intro v2 q2 g2 z2)
              | (refine wpList_store_blk (w := v2) rfl 50 _ _ rfl wr.heap.size 6 rfl 50 _ #[.int .i64 code, .int .i64 rd, .int .i64 ra, .int .i64 rb, .int .i64 rc, .int .i64 nn] rfl q2 size_op rfl rfl (by kernel_rfl) ?_; intro w8 q8 g3 z3; have b8 : Below wr.heap.size wr w8 := ((Below.refl _ wr).grown g2 (Nat.le_refl _) (by simp)).grown g3 g2.size (fun r e => by cases e; exact Nat.le_refl _); have d0 := q8.cell (i := 0) rfl; have d1 := q8.cell (i := 1) rfl; have d2 := q8.cell (i := 2) rfl; have d3 := q8.cell (i := 3) rfl; have d4 := q8.cell (i := 4) rfl; have d5 := q8.cell (i := 5) rfl; clear g2 g3 z2 z3 q2)
              | (refine wpList_run (w := w8) rfl (v := .pointer (some ⟨wr.heap.size, 0, none⟩)) (Held.y_field (S := fun _ => True) (k := 0) (s := 0) rfl rfl Try.underlying50 rfl (by kernel_rfl) rfl _ trivial) ?_)
              | (refine wpList_run (w := w8) rfl (v := .pointer (some ⟨wr.heap.size, 1, none⟩)) (Held.y_field (S := fun _ => True) (k := 1) (s := 0) rfl rfl Try.underlying50 rfl (by kernel_rfl) rfl _ trivial) ?_)
              | (refine wpList_run (w := w8) rfl (v := .pointer (some ⟨wr.heap.size, 2, none⟩)) (Held.y_field (S := fun _ => True) (k := 2) (s := 0) rfl rfl Try.underlying50 rfl (by kernel_rfl) rfl _ trivial) ?_)
              | (refine wpList_run (w := w8) rfl (v := .pointer (some ⟨wr.heap.size, 3, none⟩)) (Held.y_field (S := fun _ => True) (k := 3) (s := 0) rfl rfl Try.underlying50 rfl (by kernel_rfl) rfl _ trivial) ?_)
              | (refine wpList_run (w := w8) rfl (v := .pointer (some ⟨wr.heap.size, 4, none⟩)) (Held.y_field (S := fun _ => True) (k := 4) (s := 0) rfl rfl Try.underlying50 rfl (by kernel_rfl) rfl _ trivial) ?_)
              | (refine wpList_run (w := w8) rfl (v := .pointer (some ⟨wr.heap.size, 5, none⟩)) (Held.y_field (S := fun _ => True) (k := 5) (s := 0) rfl rfl Try.underlying50 rfl (by kernel_rfl) rfl _ trivial) ?_))
            go_ret
            exact ⟨Mem.ret_bool HBAD.out.symm, bw.trans (b8.mono bw.size)⟩
          · by_cases k4 : rd ≥ 8
            · have HBAD := Lib.hid (HB.out (by unfold mayO isReg; simp; omega))
              clear HB HG
              go_wp2_with (first
                | (refine wpList_run (w := wr) rfl (v := .pointer (some ⟨b, off + i * 6, none⟩)) (Held.y_addr (S := fun _ => True) rfl rfl rfl (run_addr_of (P := Try.prog) 22 50 b off n c i 6 .i64 Try.underlying22 size_op hlt) _ trivial) ?_)
                | (refine wpList_run (w := wr) rfl (v := .agg #[.int .i64 code, .int .i64 rd, .int .i64 ra, .int .i64 rb, .int .i64 rc, .int .i64 nn]) (y_load_range (S := fun W => W = wr) (n := 6) (cs := [.int .i64 code, .int .i64 rd, .int .i64 ra, .int .i64 rb, .int .i64 rc, .int .i64 nn]) rfl rfl Try.underlying50 rfl size_op rfl (fun W hW => by rw [hW]; exact hx) _ rfl) ?_)
                | (refine wpList_alloc_blk (w := wr) rfl 50 rfl _ zero_op ?_; intro v2 q2 g2 z2)
                | (refine wpList_store_blk (w := v2) rfl 50 _ _ rfl wr.heap.size 6 rfl 50 _ #[.int .i64 code, .int .i64 rd, .int .i64 ra, .int .i64 rb, .int .i64 rc, .int .i64 nn] rfl q2 size_op rfl rfl (by kernel_rfl) ?_; intro w8 q8 g3 z3; have b8 : Below wr.heap.size wr w8 := ((Below.refl _ wr).grown g2 (Nat.le_refl _) (by simp)).grown g3 g2.size (fun r e => by cases e; exact Nat.le_refl _); have d0 := q8.cell (i := 0) rfl; have d1 := q8.cell (i := 1) rfl; have d2 := q8.cell (i := 2) rfl; have d3 := q8.cell (i := 3) rfl; have d4 := q8.cell (i := 4) rfl; have d5 := q8.cell (i := 5) rfl; clear g2 g3 z2 z3 q2)
                | (refine wpList_run (w := w8) rfl (v := .pointer (some ⟨wr.heap.size, 0, none⟩)) (Held.y_field (S := fun _ => True) (k := 0) (s := 0) rfl rfl Try.underlying50 rfl (by kernel_rfl) rfl _ trivial) ?_)
                | (refine wpList_run (w := w8) rfl (v := .pointer (some ⟨wr.heap.size, 1, none⟩)) (Held.y_field (S := fun _ => True) (k := 1) (s := 0) rfl rfl Try.underlying50 rfl (by kernel_rfl) rfl _ trivial) ?_)
                | (refine wpList_run (w := w8) rfl (v := .pointer (some ⟨wr.heap.size, 2, none⟩)) (Held.y_field (S := fun _ => True) (k := 2) (s := 0) rfl rfl Try.underlying50 rfl (by kernel_rfl) rfl _ trivial) ?_)
                | (refine wpList_run (w := w8) rfl (v := .pointer (some ⟨wr.heap.size, 3, none⟩)) (Held.y_field (S := fun _ => True) (k := 3) (s := 0) rfl rfl Try.underlying50 rfl (by kernel_rfl) rfl _ trivial) ?_)
                | (refine wpList_run (w := w8) rfl (v := .pointer (some ⟨wr.heap.size, 4, none⟩)) (Held.y_field (S := fun _ => True) (k := 4) (s := 0) rfl rfl Try.underlying50 rfl (by kernel_rfl) rfl _ trivial) ?_)
                | (refine wpList_run (w := w8) rfl (v := .pointer (some ⟨wr.heap.size, 5, none⟩)) (Held.y_field (S := fun _ => True) (k := 5) (s := 0) rfl rfl Try.underlying50 rfl (by kernel_rfl) rfl _ trivial) ?_))
              go_ret
              exact ⟨Mem.ret_bool HBAD.out.symm, bw.trans (b8.mono bw.size)⟩
            · by_cases k5 : ra < 0
              · have HBAD := Lib.hid (HB.out (by unfold mayO isReg; simp; omega))
                clear HB HG
                go_wp2_with (first
                  | (refine wpList_run (w := wr) rfl (v := .pointer (some ⟨b, off + i * 6, none⟩)) (Held.y_addr (S := fun _ => True) rfl rfl rfl (run_addr_of (P := Try.prog) 22 50 b off n c i 6 .i64 Try.underlying22 size_op hlt) _ trivial) ?_)
                  | (refine wpList_run (w := wr) rfl (v := .agg #[.int .i64 code, .int .i64 rd, .int .i64 ra, .int .i64 rb, .int .i64 rc, .int .i64 nn]) (y_load_range (S := fun W => W = wr) (n := 6) (cs := [.int .i64 code, .int .i64 rd, .int .i64 ra, .int .i64 rb, .int .i64 rc, .int .i64 nn]) rfl rfl Try.underlying50 rfl size_op rfl (fun W hW => by rw [hW]; exact hx) _ rfl) ?_)
                  | (refine wpList_alloc_blk (w := wr) rfl 50 rfl _ zero_op ?_; intro v2 q2 g2 z2)
                  | (refine wpList_store_blk (w := v2) rfl 50 _ _ rfl wr.heap.size 6 rfl 50 _ #[.int .i64 code, .int .i64 rd, .int .i64 ra, .int .i64 rb, .int .i64 rc, .int .i64 nn] rfl q2 size_op rfl rfl (by kernel_rfl) ?_; intro w8 q8 g3 z3; have b8 : Below wr.heap.size wr w8 := ((Below.refl _ wr).grown g2 (Nat.le_refl _) (by simp)).grown g3 g2.size (fun r e => by cases e; exact Nat.le_refl _); have d0 := q8.cell (i := 0) rfl; have d1 := q8.cell (i := 1) rfl; have d2 := q8.cell (i := 2) rfl; have d3 := q8.cell (i := 3) rfl; have d4 := q8.cell (i := 4) rfl; have d5 := q8.cell (i := 5) rfl; clear g2 g3 z2 z3 q2)
                  | (refine wpList_run (w := w8) rfl (v := .pointer (some ⟨wr.heap.size, 0, none⟩)) (Held.y_field (S := fun _ => True) (k := 0) (s := 0) rfl rfl Try.underlying50 rfl (by kernel_rfl) rfl _ trivial) ?_)
                  | (refine wpList_run (w := w8) rfl (v := .pointer (some ⟨wr.heap.size, 1, none⟩)) (Held.y_field (S := fun _ => True) (k := 1) (s := 0) rfl rfl Try.underlying50 rfl (by kernel_rfl) rfl _ trivial) ?_)
                  | (refine wpList_run (w := w8) rfl (v := .pointer (some ⟨wr.heap.size, 2, none⟩)) (Held.y_field (S := fun _ => True) (k := 2) (s := 0) rfl rfl Try.underlying50 rfl (by kernel_rfl) rfl _ trivial) ?_)
                  | (refine wpList_run (w := w8) rfl (v := .pointer (some ⟨wr.heap.size, 3, none⟩)) (Held.y_field (S := fun _ => True) (k := 3) (s := 0) rfl rfl Try.underlying50 rfl (by kernel_rfl) rfl _ trivial) ?_)
                  | (refine wpList_run (w := w8) rfl (v := .pointer (some ⟨wr.heap.size, 4, none⟩)) (Held.y_field (S := fun _ => True) (k := 4) (s := 0) rfl rfl Try.underlying50 rfl (by kernel_rfl) rfl _ trivial) ?_)
                  | (refine wpList_run (w := w8) rfl (v := .pointer (some ⟨wr.heap.size, 5, none⟩)) (Held.y_field (S := fun _ => True) (k := 5) (s := 0) rfl rfl Try.underlying50 rfl (by kernel_rfl) rfl _ trivial) ?_))
                go_ret
                exact ⟨Mem.ret_bool HBAD.out.symm, bw.trans (b8.mono bw.size)⟩
              · by_cases k6 : ra ≥ 8
                · have HBAD := Lib.hid (HB.out (by unfold mayO isReg; simp; omega))
                  clear HB HG
                  go_wp2_with (first
                    | (refine wpList_run (w := wr) rfl (v := .pointer (some ⟨b, off + i * 6, none⟩)) (Held.y_addr (S := fun _ => True) rfl rfl rfl (run_addr_of (P := Try.prog) 22 50 b off n c i 6 .i64 Try.underlying22 size_op hlt) _ trivial) ?_)
                    | (refine wpList_run (w := wr) rfl (v := .agg #[.int .i64 code, .int .i64 rd, .int .i64 ra, .int .i64 rb, .int .i64 rc, .int .i64 nn]) (y_load_range (S := fun W => W = wr) (n := 6) (cs := [.int .i64 code, .int .i64 rd, .int .i64 ra, .int .i64 rb, .int .i64 rc, .int .i64 nn]) rfl rfl Try.underlying50 rfl size_op rfl (fun W hW => by rw [hW]; exact hx) _ rfl) ?_)
                    | (refine wpList_alloc_blk (w := wr) rfl 50 rfl _ zero_op ?_; intro v2 q2 g2 z2)
                    | (refine wpList_store_blk (w := v2) rfl 50 _ _ rfl wr.heap.size 6 rfl 50 _ #[.int .i64 code, .int .i64 rd, .int .i64 ra, .int .i64 rb, .int .i64 rc, .int .i64 nn] rfl q2 size_op rfl rfl (by kernel_rfl) ?_; intro w8 q8 g3 z3; have b8 : Below wr.heap.size wr w8 := ((Below.refl _ wr).grown g2 (Nat.le_refl _) (by simp)).grown g3 g2.size (fun r e => by cases e; exact Nat.le_refl _); have d0 := q8.cell (i := 0) rfl; have d1 := q8.cell (i := 1) rfl; have d2 := q8.cell (i := 2) rfl; have d3 := q8.cell (i := 3) rfl; have d4 := q8.cell (i := 4) rfl; have d5 := q8.cell (i := 5) rfl; clear g2 g3 z2 z3 q2)
                    | (refine wpList_run (w := w8) rfl (v := .pointer (some ⟨wr.heap.size, 0, none⟩)) (Held.y_field (S := fun _ => True) (k := 0) (s := 0) rfl rfl Try.underlying50 rfl (by kernel_rfl) rfl _ trivial) ?_)
                    | (refine wpList_run (w := w8) rfl (v := .pointer (some ⟨wr.heap.size, 1, none⟩)) (Held.y_field (S := fun _ => True) (k := 1) (s := 0) rfl rfl Try.underlying50 rfl (by kernel_rfl) rfl _ trivial) ?_)
                    | (refine wpList_run (w := w8) rfl (v := .pointer (some ⟨wr.heap.size, 2, none⟩)) (Held.y_field (S := fun _ => True) (k := 2) (s := 0) rfl rfl Try.underlying50 rfl (by kernel_rfl) rfl _ trivial) ?_)
                    | (refine wpList_run (w := w8) rfl (v := .pointer (some ⟨wr.heap.size, 3, none⟩)) (Held.y_field (S := fun _ => True) (k := 3) (s := 0) rfl rfl Try.underlying50 rfl (by kernel_rfl) rfl _ trivial) ?_)
                    | (refine wpList_run (w := w8) rfl (v := .pointer (some ⟨wr.heap.size, 4, none⟩)) (Held.y_field (S := fun _ => True) (k := 4) (s := 0) rfl rfl Try.underlying50 rfl (by kernel_rfl) rfl _ trivial) ?_)
                    | (refine wpList_run (w := w8) rfl (v := .pointer (some ⟨wr.heap.size, 5, none⟩)) (Held.y_field (S := fun _ => True) (k := 5) (s := 0) rfl rfl Try.underlying50 rfl (by kernel_rfl) rfl _ trivial) ?_))
                  go_ret
                  exact ⟨Mem.ret_bool HBAD.out.symm, bw.trans (b8.mono bw.size)⟩
                · by_cases k7 : rb < 0
                  · have HBAD := Lib.hid (HB.out (by unfold mayO isReg; simp; omega))
                    clear HB HG
                    go_wp2_with (first
                      | (refine wpList_run (w := wr) rfl (v := .pointer (some ⟨b, off + i * 6, none⟩)) (Held.y_addr (S := fun _ => True) rfl rfl rfl (run_addr_of (P := Try.prog) 22 50 b off n c i 6 .i64 Try.underlying22 size_op hlt) _ trivial) ?_)
                      | (refine wpList_run (w := wr) rfl (v := .agg #[.int .i64 code, .int .i64 rd, .int .i64 ra, .int .i64 rb, .int .i64 rc, .int .i64 nn]) (y_load_range (S := fun W => W = wr) (n := 6) (cs := [.int .i64 code, .int .i64 rd, .int .i64 ra, .int .i64 rb, .int .i64 rc, .int .i64 nn]) rfl rfl Try.underlying50 rfl size_op rfl (fun W hW => by rw [hW]; exact hx) _ rfl) ?_)
                      | (refine wpList_alloc_blk (w := wr) rfl 50 rfl _ zero_op ?_; intro v2 q2 g2 z2)
                      | (refine wpList_store_blk (w := v2) rfl 50 _ _ rfl wr.heap.size 6 rfl 50 _ #[.int .i64 code, .int .i64 rd, .int .i64 ra, .int .i64 rb, .int .i64 rc, .int .i64 nn] rfl q2 size_op rfl rfl (by kernel_rfl) ?_; intro w8 q8 g3 z3; have b8 : Below wr.heap.size wr w8 := ((Below.refl _ wr).grown g2 (Nat.le_refl _) (by simp)).grown g3 g2.size (fun r e => by cases e; exact Nat.le_refl _); have d0 := q8.cell (i := 0) rfl; have d1 := q8.cell (i := 1) rfl; have d2 := q8.cell (i := 2) rfl; have d3 := q8.cell (i := 3) rfl; have d4 := q8.cell (i := 4) rfl; have d5 := q8.cell (i := 5) rfl; clear g2 g3 z2 z3 q2)
                      | (refine wpList_run (w := w8) rfl (v := .pointer (some ⟨wr.heap.size, 0, none⟩)) (Held.y_field (S := fun _ => True) (k := 0) (s := 0) rfl rfl Try.underlying50 rfl (by kernel_rfl) rfl _ trivial) ?_)
                      | (refine wpList_run (w := w8) rfl (v := .pointer (some ⟨wr.heap.size, 1, none⟩)) (Held.y_field (S := fun _ => True) (k := 1) (s := 0) rfl rfl Try.underlying50 rfl (by kernel_rfl) rfl _ trivial) ?_)
                      | (refine wpList_run (w := w8) rfl (v := .pointer (some ⟨wr.heap.size, 2, none⟩)) (Held.y_field (S := fun _ => True) (k := 2) (s := 0) rfl rfl Try.underlying50 rfl (by kernel_rfl) rfl _ trivial) ?_)
                      | (refine wpList_run (w := w8) rfl (v := .pointer (some ⟨wr.heap.size, 3, none⟩)) (Held.y_field (S := fun _ => True) (k := 3) (s := 0) rfl rfl Try.underlying50 rfl (by kernel_rfl) rfl _ trivial) ?_)
                      | (refine wpList_run (w := w8) rfl (v := .pointer (some ⟨wr.heap.size, 4, none⟩)) (Held.y_field (S := fun _ => True) (k := 4) (s := 0) rfl rfl Try.underlying50 rfl (by kernel_rfl) rfl _ trivial) ?_)
                      | (refine wpList_run (w := w8) rfl (v := .pointer (some ⟨wr.heap.size, 5, none⟩)) (Held.y_field (S := fun _ => True) (k := 5) (s := 0) rfl rfl Try.underlying50 rfl (by kernel_rfl) rfl _ trivial) ?_))
                    go_ret
                    exact ⟨Mem.ret_bool HBAD.out.symm, bw.trans (b8.mono bw.size)⟩
                  · by_cases k8 : rb ≥ 8
                    · have HBAD := Lib.hid (HB.out (by unfold mayO isReg; simp; omega))
                      clear HB HG
                      go_wp2_with (first
                        | (refine wpList_run (w := wr) rfl (v := .pointer (some ⟨b, off + i * 6, none⟩)) (Held.y_addr (S := fun _ => True) rfl rfl rfl (run_addr_of (P := Try.prog) 22 50 b off n c i 6 .i64 Try.underlying22 size_op hlt) _ trivial) ?_)
                        | (refine wpList_run (w := wr) rfl (v := .agg #[.int .i64 code, .int .i64 rd, .int .i64 ra, .int .i64 rb, .int .i64 rc, .int .i64 nn]) (y_load_range (S := fun W => W = wr) (n := 6) (cs := [.int .i64 code, .int .i64 rd, .int .i64 ra, .int .i64 rb, .int .i64 rc, .int .i64 nn]) rfl rfl Try.underlying50 rfl size_op rfl (fun W hW => by rw [hW]; exact hx) _ rfl) ?_)
                        | (refine wpList_alloc_blk (w := wr) rfl 50 rfl _ zero_op ?_; intro v2 q2 g2 z2)
                        | (refine wpList_store_blk (w := v2) rfl 50 _ _ rfl wr.heap.size 6 rfl 50 _ #[.int .i64 code, .int .i64 rd, .int .i64 ra, .int .i64 rb, .int .i64 rc, .int .i64 nn] rfl q2 size_op rfl rfl (by kernel_rfl) ?_; intro w8 q8 g3 z3; have b8 : Below wr.heap.size wr w8 := ((Below.refl _ wr).grown g2 (Nat.le_refl _) (by simp)).grown g3 g2.size (fun r e => by cases e; exact Nat.le_refl _); have d0 := q8.cell (i := 0) rfl; have d1 := q8.cell (i := 1) rfl; have d2 := q8.cell (i := 2) rfl; have d3 := q8.cell (i := 3) rfl; have d4 := q8.cell (i := 4) rfl; have d5 := q8.cell (i := 5) rfl; clear g2 g3 z2 z3 q2)
                        | (refine wpList_run (w := w8) rfl (v := .pointer (some ⟨wr.heap.size, 0, none⟩)) (Held.y_field (S := fun _ => True) (k := 0) (s := 0) rfl rfl Try.underlying50 rfl (by kernel_rfl) rfl _ trivial) ?_)
                        | (refine wpList_run (w := w8) rfl (v := .pointer (some ⟨wr.heap.size, 1, none⟩)) (Held.y_field (S := fun _ => True) (k := 1) (s := 0) rfl rfl Try.underlying50 rfl (by kernel_rfl) rfl _ trivial) ?_)
                        | (refine wpList_run (w := w8) rfl (v := .pointer (some ⟨wr.heap.size, 2, none⟩)) (Held.y_field (S := fun _ => True) (k := 2) (s := 0) rfl rfl Try.underlying50 rfl (by kernel_rfl) rfl _ trivial) ?_)
                        | (refine wpList_run (w := w8) rfl (v := .pointer (some ⟨wr.heap.size, 3, none⟩)) (Held.y_field (S := fun _ => True) (k := 3) (s := 0) rfl rfl Try.underlying50 rfl (by kernel_rfl) rfl _ trivial) ?_)
                        | (refine wpList_run (w := w8) rfl (v := .pointer (some ⟨wr.heap.size, 4, none⟩)) (Held.y_field (S := fun _ => True) (k := 4) (s := 0) rfl rfl Try.underlying50 rfl (by kernel_rfl) rfl _ trivial) ?_)
                        | (refine wpList_run (w := w8) rfl (v := .pointer (some ⟨wr.heap.size, 5, none⟩)) (Held.y_field (S := fun _ => True) (k := 5) (s := 0) rfl rfl Try.underlying50 rfl (by kernel_rfl) rfl _ trivial) ?_))
                      go_ret
                      exact ⟨Mem.ret_bool HBAD.out.symm, bw.trans (b8.mono bw.size)⟩
                    · by_cases k9 : rc < 0
                      · have HBAD := Lib.hid (HB.out (by unfold mayO isReg; simp; omega))
                        clear HB HG
                        go_wp2_with (first
                          | (refine wpList_run (w := wr) rfl (v := .pointer (some ⟨b, off + i * 6, none⟩)) (Held.y_addr (S := fun _ => True) rfl rfl rfl (run_addr_of (P := Try.prog) 22 50 b off n c i 6 .i64 Try.underlying22 size_op hlt) _ trivial) ?_)
                          | (refine wpList_run (w := wr) rfl (v := .agg #[.int .i64 code, .int .i64 rd, .int .i64 ra, .int .i64 rb, .int .i64 rc, .int .i64 nn]) (y_load_range (S := fun W => W = wr) (n := 6) (cs := [.int .i64 code, .int .i64 rd, .int .i64 ra, .int .i64 rb, .int .i64 rc, .int .i64 nn]) rfl rfl Try.underlying50 rfl size_op rfl (fun W hW => by rw [hW]; exact hx) _ rfl) ?_)
                          | (refine wpList_alloc_blk (w := wr) rfl 50 rfl _ zero_op ?_; intro v2 q2 g2 z2)
                          | (refine wpList_store_blk (w := v2) rfl 50 _ _ rfl wr.heap.size 6 rfl 50 _ #[.int .i64 code, .int .i64 rd, .int .i64 ra, .int .i64 rb, .int .i64 rc, .int .i64 nn] rfl q2 size_op rfl rfl (by kernel_rfl) ?_; intro w8 q8 g3 z3; have b8 : Below wr.heap.size wr w8 := ((Below.refl _ wr).grown g2 (Nat.le_refl _) (by simp)).grown g3 g2.size (fun r e => by cases e; exact Nat.le_refl _); have d0 := q8.cell (i := 0) rfl; have d1 := q8.cell (i := 1) rfl; have d2 := q8.cell (i := 2) rfl; have d3 := q8.cell (i := 3) rfl; have d4 := q8.cell (i := 4) rfl; have d5 := q8.cell (i := 5) rfl; clear g2 g3 z2 z3 q2)
                          | (refine wpList_run (w := w8) rfl (v := .pointer (some ⟨wr.heap.size, 0, none⟩)) (Held.y_field (S := fun _ => True) (k := 0) (s := 0) rfl rfl Try.underlying50 rfl (by kernel_rfl) rfl _ trivial) ?_)
                          | (refine wpList_run (w := w8) rfl (v := .pointer (some ⟨wr.heap.size, 1, none⟩)) (Held.y_field (S := fun _ => True) (k := 1) (s := 0) rfl rfl Try.underlying50 rfl (by kernel_rfl) rfl _ trivial) ?_)
                          | (refine wpList_run (w := w8) rfl (v := .pointer (some ⟨wr.heap.size, 2, none⟩)) (Held.y_field (S := fun _ => True) (k := 2) (s := 0) rfl rfl Try.underlying50 rfl (by kernel_rfl) rfl _ trivial) ?_)
                          | (refine wpList_run (w := w8) rfl (v := .pointer (some ⟨wr.heap.size, 3, none⟩)) (Held.y_field (S := fun _ => True) (k := 3) (s := 0) rfl rfl Try.underlying50 rfl (by kernel_rfl) rfl _ trivial) ?_)
                          | (refine wpList_run (w := w8) rfl (v := .pointer (some ⟨wr.heap.size, 4, none⟩)) (Held.y_field (S := fun _ => True) (k := 4) (s := 0) rfl rfl Try.underlying50 rfl (by kernel_rfl) rfl _ trivial) ?_)
                          | (refine wpList_run (w := w8) rfl (v := .pointer (some ⟨wr.heap.size, 5, none⟩)) (Held.y_field (S := fun _ => True) (k := 5) (s := 0) rfl rfl Try.underlying50 rfl (by kernel_rfl) rfl _ trivial) ?_))
                        go_ret
                        exact ⟨Mem.ret_bool HBAD.out.symm, bw.trans (b8.mono bw.size)⟩
                      · by_cases k10 : rc ≥ 8
                        · have HBAD := Lib.hid (HB.out (by unfold mayO isReg; simp; omega))
                          clear HB HG
                          go_wp2_with (first
                            | (refine wpList_run (w := wr) rfl (v := .pointer (some ⟨b, off + i * 6, none⟩)) (Held.y_addr (S := fun _ => True) rfl rfl rfl (run_addr_of (P := Try.prog) 22 50 b off n c i 6 .i64 Try.underlying22 size_op hlt) _ trivial) ?_)
                            | (refine wpList_run (w := wr) rfl (v := .agg #[.int .i64 code, .int .i64 rd, .int .i64 ra, .int .i64 rb, .int .i64 rc, .int .i64 nn]) (y_load_range (S := fun W => W = wr) (n := 6) (cs := [.int .i64 code, .int .i64 rd, .int .i64 ra, .int .i64 rb, .int .i64 rc, .int .i64 nn]) rfl rfl Try.underlying50 rfl size_op rfl (fun W hW => by rw [hW]; exact hx) _ rfl) ?_)
                            | (refine wpList_alloc_blk (w := wr) rfl 50 rfl _ zero_op ?_; intro v2 q2 g2 z2)
                            | (refine wpList_store_blk (w := v2) rfl 50 _ _ rfl wr.heap.size 6 rfl 50 _ #[.int .i64 code, .int .i64 rd, .int .i64 ra, .int .i64 rb, .int .i64 rc, .int .i64 nn] rfl q2 size_op rfl rfl (by kernel_rfl) ?_; intro w8 q8 g3 z3; have b8 : Below wr.heap.size wr w8 := ((Below.refl _ wr).grown g2 (Nat.le_refl _) (by simp)).grown g3 g2.size (fun r e => by cases e; exact Nat.le_refl _); have d0 := q8.cell (i := 0) rfl; have d1 := q8.cell (i := 1) rfl; have d2 := q8.cell (i := 2) rfl; have d3 := q8.cell (i := 3) rfl; have d4 := q8.cell (i := 4) rfl; have d5 := q8.cell (i := 5) rfl; clear g2 g3 z2 z3 q2)
                            | (refine wpList_run (w := w8) rfl (v := .pointer (some ⟨wr.heap.size, 0, none⟩)) (Held.y_field (S := fun _ => True) (k := 0) (s := 0) rfl rfl Try.underlying50 rfl (by kernel_rfl) rfl _ trivial) ?_)
                            | (refine wpList_run (w := w8) rfl (v := .pointer (some ⟨wr.heap.size, 1, none⟩)) (Held.y_field (S := fun _ => True) (k := 1) (s := 0) rfl rfl Try.underlying50 rfl (by kernel_rfl) rfl _ trivial) ?_)
                            | (refine wpList_run (w := w8) rfl (v := .pointer (some ⟨wr.heap.size, 2, none⟩)) (Held.y_field (S := fun _ => True) (k := 2) (s := 0) rfl rfl Try.underlying50 rfl (by kernel_rfl) rfl _ trivial) ?_)
                            | (refine wpList_run (w := w8) rfl (v := .pointer (some ⟨wr.heap.size, 3, none⟩)) (Held.y_field (S := fun _ => True) (k := 3) (s := 0) rfl rfl Try.underlying50 rfl (by kernel_rfl) rfl _ trivial) ?_)
                            | (refine wpList_run (w := w8) rfl (v := .pointer (some ⟨wr.heap.size, 4, none⟩)) (Held.y_field (S := fun _ => True) (k := 4) (s := 0) rfl rfl Try.underlying50 rfl (by kernel_rfl) rfl _ trivial) ?_)
                            | (refine wpList_run (w := w8) rfl (v := .pointer (some ⟨wr.heap.size, 5, none⟩)) (Held.y_field (S := fun _ => True) (k := 5) (s := 0) rfl rfl Try.underlying50 rfl (by kernel_rfl) rfl _ trivial) ?_))
                          go_ret
                          exact ⟨Mem.ret_bool HBAD.out.symm, bw.trans (b8.mono bw.size)⟩
                        · by_cases h12 : code = 12
                          · subst h12
                            by_cases k11 : nn < 0
                            · have HBAD := Lib.hid (HB.out (by unfold mayO isReg; simp; omega))
                              clear HB HG k1 k2
                              go_wp2_with (first
                                | (refine wpList_run (w := wr) rfl (v := .pointer (some ⟨b, off + i * 6, none⟩)) (Held.y_addr (S := fun _ => True) rfl rfl rfl (run_addr_of (P := Try.prog) 22 50 b off n c i 6 .i64 Try.underlying22 size_op hlt) _ trivial) ?_)
                                | (refine wpList_run (w := wr) rfl (v := .agg #[.int .i64 12, .int .i64 rd, .int .i64 ra, .int .i64 rb, .int .i64 rc, .int .i64 nn]) (y_load_range (S := fun W => W = wr) (n := 6) (cs := [.int .i64 12, .int .i64 rd, .int .i64 ra, .int .i64 rb, .int .i64 rc, .int .i64 nn]) rfl rfl Try.underlying50 rfl size_op rfl (fun W hW => by rw [hW]; exact hx) _ rfl) ?_)
                                | (refine wpList_alloc_blk (w := wr) rfl 50 rfl _ zero_op ?_; intro v2 q2 g2 z2)
                                | (refine wpList_store_blk (w := v2) rfl 50 _ _ rfl wr.heap.size 6 rfl 50 _ #[.int .i64 12, .int .i64 rd, .int .i64 ra, .int .i64 rb, .int .i64 rc, .int .i64 nn] rfl q2 size_op rfl rfl (by kernel_rfl) ?_; intro w8 q8 g3 z3; have b8 : Below wr.heap.size wr w8 := ((Below.refl _ wr).grown g2 (Nat.le_refl _) (by simp)).grown g3 g2.size (fun r e => by cases e; exact Nat.le_refl _); have d0 := q8.cell (i := 0) rfl; have d1 := q8.cell (i := 1) rfl; have d2 := q8.cell (i := 2) rfl; have d3 := q8.cell (i := 3) rfl; have d4 := q8.cell (i := 4) rfl; have d5 := q8.cell (i := 5) rfl; clear g2 g3 z2 z3 q2)
                                | (refine wpList_run (w := w8) rfl (v := .pointer (some ⟨wr.heap.size, 0, none⟩)) (Held.y_field (S := fun _ => True) (k := 0) (s := 0) rfl rfl Try.underlying50 rfl (by kernel_rfl) rfl _ trivial) ?_)
                                | (refine wpList_run (w := w8) rfl (v := .pointer (some ⟨wr.heap.size, 1, none⟩)) (Held.y_field (S := fun _ => True) (k := 1) (s := 0) rfl rfl Try.underlying50 rfl (by kernel_rfl) rfl _ trivial) ?_)
                                | (refine wpList_run (w := w8) rfl (v := .pointer (some ⟨wr.heap.size, 2, none⟩)) (Held.y_field (S := fun _ => True) (k := 2) (s := 0) rfl rfl Try.underlying50 rfl (by kernel_rfl) rfl _ trivial) ?_)
                                | (refine wpList_run (w := w8) rfl (v := .pointer (some ⟨wr.heap.size, 3, none⟩)) (Held.y_field (S := fun _ => True) (k := 3) (s := 0) rfl rfl Try.underlying50 rfl (by kernel_rfl) rfl _ trivial) ?_)
                                | (refine wpList_run (w := w8) rfl (v := .pointer (some ⟨wr.heap.size, 4, none⟩)) (Held.y_field (S := fun _ => True) (k := 4) (s := 0) rfl rfl Try.underlying50 rfl (by kernel_rfl) rfl _ trivial) ?_)
                                | (refine wpList_run (w := w8) rfl (v := .pointer (some ⟨wr.heap.size, 5, none⟩)) (Held.y_field (S := fun _ => True) (k := 5) (s := 0) rfl rfl Try.underlying50 rfl (by kernel_rfl) rfl _ trivial) ?_))
                              go_ret
                              exact ⟨Mem.ret_bool HBAD.out.symm, bw.trans (b8.mono bw.size)⟩
                            · by_cases k12 : nn ≥ k
                              · have HBAD := Lib.hid (HB.out (by unfold mayO isReg; simp; omega))
                                clear HB HG k1 k2
                                go_wp2_with (first
                                  | (refine wpList_run (w := wr) rfl (v := .pointer (some ⟨b, off + i * 6, none⟩)) (Held.y_addr (S := fun _ => True) rfl rfl rfl (run_addr_of (P := Try.prog) 22 50 b off n c i 6 .i64 Try.underlying22 size_op hlt) _ trivial) ?_)
                                  | (refine wpList_run (w := wr) rfl (v := .agg #[.int .i64 12, .int .i64 rd, .int .i64 ra, .int .i64 rb, .int .i64 rc, .int .i64 nn]) (y_load_range (S := fun W => W = wr) (n := 6) (cs := [.int .i64 12, .int .i64 rd, .int .i64 ra, .int .i64 rb, .int .i64 rc, .int .i64 nn]) rfl rfl Try.underlying50 rfl size_op rfl (fun W hW => by rw [hW]; exact hx) _ rfl) ?_)
                                  | (refine wpList_alloc_blk (w := wr) rfl 50 rfl _ zero_op ?_; intro v2 q2 g2 z2)
                                  | (refine wpList_store_blk (w := v2) rfl 50 _ _ rfl wr.heap.size 6 rfl 50 _ #[.int .i64 12, .int .i64 rd, .int .i64 ra, .int .i64 rb, .int .i64 rc, .int .i64 nn] rfl q2 size_op rfl rfl (by kernel_rfl) ?_; intro w8 q8 g3 z3; have b8 : Below wr.heap.size wr w8 := ((Below.refl _ wr).grown g2 (Nat.le_refl _) (by simp)).grown g3 g2.size (fun r e => by cases e; exact Nat.le_refl _); have d0 := q8.cell (i := 0) rfl; have d1 := q8.cell (i := 1) rfl; have d2 := q8.cell (i := 2) rfl; have d3 := q8.cell (i := 3) rfl; have d4 := q8.cell (i := 4) rfl; have d5 := q8.cell (i := 5) rfl; clear g2 g3 z2 z3 q2)
                                  | (refine wpList_run (w := w8) rfl (v := .pointer (some ⟨wr.heap.size, 0, none⟩)) (Held.y_field (S := fun _ => True) (k := 0) (s := 0) rfl rfl Try.underlying50 rfl (by kernel_rfl) rfl _ trivial) ?_)
                                  | (refine wpList_run (w := w8) rfl (v := .pointer (some ⟨wr.heap.size, 1, none⟩)) (Held.y_field (S := fun _ => True) (k := 1) (s := 0) rfl rfl Try.underlying50 rfl (by kernel_rfl) rfl _ trivial) ?_)
                                  | (refine wpList_run (w := w8) rfl (v := .pointer (some ⟨wr.heap.size, 2, none⟩)) (Held.y_field (S := fun _ => True) (k := 2) (s := 0) rfl rfl Try.underlying50 rfl (by kernel_rfl) rfl _ trivial) ?_)
                                  | (refine wpList_run (w := w8) rfl (v := .pointer (some ⟨wr.heap.size, 3, none⟩)) (Held.y_field (S := fun _ => True) (k := 3) (s := 0) rfl rfl Try.underlying50 rfl (by kernel_rfl) rfl _ trivial) ?_)
                                  | (refine wpList_run (w := w8) rfl (v := .pointer (some ⟨wr.heap.size, 4, none⟩)) (Held.y_field (S := fun _ => True) (k := 4) (s := 0) rfl rfl Try.underlying50 rfl (by kernel_rfl) rfl _ trivial) ?_)
                                  | (refine wpList_run (w := w8) rfl (v := .pointer (some ⟨wr.heap.size, 5, none⟩)) (Held.y_field (S := fun _ => True) (k := 5) (s := 0) rfl rfl Try.underlying50 rfl (by kernel_rfl) rfl _ trivial) ?_))
                                go_ret
                                exact ⟨Mem.ret_bool HBAD.out.symm, bw.trans (b8.mono bw.size)⟩
                              · have HNX := HG.out (by unfold mayO isReg; simp; omega)
                                clear HB HG k1 k2
                                go_wp2_with (first
                                  | (refine wpList_run (w := wr) rfl (v := .pointer (some ⟨b, off + i * 6, none⟩)) (Held.y_addr (S := fun _ => True) rfl rfl rfl (run_addr_of (P := Try.prog) 22 50 b off n c i 6 .i64 Try.underlying22 size_op hlt) _ trivial) ?_)
                                  | (refine wpList_run (w := wr) rfl (v := .agg #[.int .i64 12, .int .i64 rd, .int .i64 ra, .int .i64 rb, .int .i64 rc, .int .i64 nn]) (y_load_range (S := fun W => W = wr) (n := 6) (cs := [.int .i64 12, .int .i64 rd, .int .i64 ra, .int .i64 rb, .int .i64 rc, .int .i64 nn]) rfl rfl Try.underlying50 rfl size_op rfl (fun W hW => by rw [hW]; exact hx) _ rfl) ?_)
                                  | (refine wpList_alloc_blk (w := wr) rfl 50 rfl _ zero_op ?_; intro v2 q2 g2 z2)
                                  | (refine wpList_store_blk (w := v2) rfl 50 _ _ rfl wr.heap.size 6 rfl 50 _ #[.int .i64 12, .int .i64 rd, .int .i64 ra, .int .i64 rb, .int .i64 rc, .int .i64 nn] rfl q2 size_op rfl rfl (by kernel_rfl) ?_; intro w8 q8 g3 z3; have b8 : Below wr.heap.size wr w8 := ((Below.refl _ wr).grown g2 (Nat.le_refl _) (by simp)).grown g3 g2.size (fun r e => by cases e; exact Nat.le_refl _); have d0 := q8.cell (i := 0) rfl; have d1 := q8.cell (i := 1) rfl; have d2 := q8.cell (i := 2) rfl; have d3 := q8.cell (i := 3) rfl; have d4 := q8.cell (i := 4) rfl; have d5 := q8.cell (i := 5) rfl; clear g2 g3 z2 z3 q2)
                                  | (refine wpList_run (w := w8) rfl (v := .pointer (some ⟨wr.heap.size, 0, none⟩)) (Held.y_field (S := fun _ => True) (k := 0) (s := 0) rfl rfl Try.underlying50 rfl (by kernel_rfl) rfl _ trivial) ?_)
                                  | (refine wpList_run (w := w8) rfl (v := .pointer (some ⟨wr.heap.size, 1, none⟩)) (Held.y_field (S := fun _ => True) (k := 1) (s := 0) rfl rfl Try.underlying50 rfl (by kernel_rfl) rfl _ trivial) ?_)
                                  | (refine wpList_run (w := w8) rfl (v := .pointer (some ⟨wr.heap.size, 2, none⟩)) (Held.y_field (S := fun _ => True) (k := 2) (s := 0) rfl rfl Try.underlying50 rfl (by kernel_rfl) rfl _ trivial) ?_)
                                  | (refine wpList_run (w := w8) rfl (v := .pointer (some ⟨wr.heap.size, 3, none⟩)) (Held.y_field (S := fun _ => True) (k := 3) (s := 0) rfl rfl Try.underlying50 rfl (by kernel_rfl) rfl _ trivial) ?_)
                                  | (refine wpList_run (w := w8) rfl (v := .pointer (some ⟨wr.heap.size, 4, none⟩)) (Held.y_field (S := fun _ => True) (k := 4) (s := 0) rfl rfl Try.underlying50 rfl (by kernel_rfl) rfl _ trivial) ?_)
                                  | (refine wpList_run (w := w8) rfl (v := .pointer (some ⟨wr.heap.size, 5, none⟩)) (Held.y_field (S := fun _ => True) (k := 5) (s := 0) rfl rfl Try.underlying50 rfl (by kernel_rfl) rfl _ trivial) ?_))
                                go_roundw
                                case rel => exact ⟨i + 1, by omega, by go_num, bw.trans (b8.mono bw.size), HNX⟩
                                case measure => simp [intOf]; omega
                          · have HNX := HG.out (by unfold mayO isReg; simp [h12]; omega)
                            clear HB HG
                            go_wp2_with (first
                              | (refine wpList_run (w := wr) rfl (v := .pointer (some ⟨b, off + i * 6, none⟩)) (Held.y_addr (S := fun _ => True) rfl rfl rfl (run_addr_of (P := Try.prog) 22 50 b off n c i 6 .i64 Try.underlying22 size_op hlt) _ trivial) ?_)
                              | (refine wpList_run (w := wr) rfl (v := .agg #[.int .i64 code, .int .i64 rd, .int .i64 ra, .int .i64 rb, .int .i64 rc, .int .i64 nn]) (y_load_range (S := fun W => W = wr) (n := 6) (cs := [.int .i64 code, .int .i64 rd, .int .i64 ra, .int .i64 rb, .int .i64 rc, .int .i64 nn]) rfl rfl Try.underlying50 rfl size_op rfl (fun W hW => by rw [hW]; exact hx) _ rfl) ?_)
                              | (refine wpList_alloc_blk (w := wr) rfl 50 rfl _ zero_op ?_; intro v2 q2 g2 z2)
                              | (refine wpList_store_blk (w := v2) rfl 50 _ _ rfl wr.heap.size 6 rfl 50 _ #[.int .i64 code, .int .i64 rd, .int .i64 ra, .int .i64 rb, .int .i64 rc, .int .i64 nn] rfl q2 size_op rfl rfl (by kernel_rfl) ?_; intro w8 q8 g3 z3; have b8 : Below wr.heap.size wr w8 := ((Below.refl _ wr).grown g2 (Nat.le_refl _) (by simp)).grown g3 g2.size (fun r e => by cases e; exact Nat.le_refl _); have d0 := q8.cell (i := 0) rfl; have d1 := q8.cell (i := 1) rfl; have d2 := q8.cell (i := 2) rfl; have d3 := q8.cell (i := 3) rfl; have d4 := q8.cell (i := 4) rfl; have d5 := q8.cell (i := 5) rfl; clear g2 g3 z2 z3 q2)
                              | (refine wpList_run (w := w8) rfl (v := .pointer (some ⟨wr.heap.size, 0, none⟩)) (Held.y_field (S := fun _ => True) (k := 0) (s := 0) rfl rfl Try.underlying50 rfl (by kernel_rfl) rfl _ trivial) ?_)
                              | (refine wpList_run (w := w8) rfl (v := .pointer (some ⟨wr.heap.size, 1, none⟩)) (Held.y_field (S := fun _ => True) (k := 1) (s := 0) rfl rfl Try.underlying50 rfl (by kernel_rfl) rfl _ trivial) ?_)
                              | (refine wpList_run (w := w8) rfl (v := .pointer (some ⟨wr.heap.size, 2, none⟩)) (Held.y_field (S := fun _ => True) (k := 2) (s := 0) rfl rfl Try.underlying50 rfl (by kernel_rfl) rfl _ trivial) ?_)
                              | (refine wpList_run (w := w8) rfl (v := .pointer (some ⟨wr.heap.size, 3, none⟩)) (Held.y_field (S := fun _ => True) (k := 3) (s := 0) rfl rfl Try.underlying50 rfl (by kernel_rfl) rfl _ trivial) ?_)
                              | (refine wpList_run (w := w8) rfl (v := .pointer (some ⟨wr.heap.size, 4, none⟩)) (Held.y_field (S := fun _ => True) (k := 4) (s := 0) rfl rfl Try.underlying50 rfl (by kernel_rfl) rfl _ trivial) ?_)
                              | (refine wpList_run (w := w8) rfl (v := .pointer (some ⟨wr.heap.size, 5, none⟩)) (Held.y_field (S := fun _ => True) (k := 5) (s := 0) rfl rfl Try.underlying50 rfl (by kernel_rfl) rfl _ trivial) ?_))
                            go_roundw
                            case rel => exact ⟨i + 1, by omega, by go_num, bw.trans (b8.mono bw.size), HNX⟩
                            case measure => simp [intOf]; omega
    · have hin : i = n := by omega
      subst hin
      by_cases h40 : (i : Int) ≤ 40
      · have HP := Lib.hid (show mayP xs k = true from mayP_all (by rw [HL.out]; omega) (fun j hj => HALL.out j (by rw [← HL.out]; exact hj)))
        go_wp2_with fail
        go_ret
        exact ⟨Mem.ret_bool HP.out.symm, bw⟩
      · have HP := Lib.hid (show mayP xs k = false by unfold mayP; rw [decide_eq_false (by rw [HL.out]; omega)]; rfl)
        go_wp2_with fail
        go_ret
        exact ⟨Mem.ret_bool HP.out.symm, bw⟩
end Go.Proofs.Ytkiempdpfmolfaa.Cn
namespace Go.Proofs.Ytkiempdpfmolfaa.Cn
open Go.RowKit Go.Shelf Go.Proofs.Ytkiempdpfmolfaa Mem Held Rc Rs Sl Vm
attribute [local irreducible] wpList wpListIn Calls
set_option maxRecDepth 100000 in
set_option maxHeartbeats 16000000 in
theorem rcheck_any (B : Nat) (K : Int) (A1 A2 A3 : Option Addr) (n1 c1 n2 c2 n3 c3 : Nat) (m f fi : List O) (w : World) (h1 : Lst kO w B A1 n1 m) (h2 : Lst kO w B A2 n2 f) (h3 : Lst kO w B A3 n3 fi) (hB : B ≤ w.heap.size) (l1 : n1 ≤ 9223372036854775807) (l2 : n2 ≤ 9223372036854775807) (l3 : n3 ≤ 9223372036854775807) :
    Calls Try.prog 14 #[.agg #[.int .i64 K, .slice A1 n1 c1, .slice A2 n2 c2, .slice A3 n3 c3]] w fun e w' => e = .returned (.int .i64 (checkE K m f fi)) ∧ Below w.heap.size w w' := by
  go_enter Try.func14, Try.ntmps14
  have P1 := Lib.hid (fun u (bu : Below w.heap.size w u) => rpart_any B A1 n1 c1 m K u (h1.below (bu.mono hB)) (Nat.le_trans hB bu.size) l1)
  have P2 := Lib.hid (fun u (bu : Below w.heap.size w u) => rpart_any B A2 n2 c2 f 0 u (h2.below (bu.mono hB)) (Nat.le_trans hB bu.size) l2)
  have P3 := Lib.hid (fun u (bu : Below w.heap.size w u) => rpart_any B A3 n3 c3 fi 0 u (h3.below (bu.mono hB)) (Nat.le_trans hB bu.size) l3)
  have HE := Lib.hid (show checkE K m f fi = if (decide (1 ≤ K) && decide (K ≤ 4) && mayP m K && mayP f 0 && mayP fi 0) = true then 0 else 8 from rfl)
  clear h1 h2 h3
  by_cases k1 : K < 1
  · have HR := Lib.hid (HE.out.trans (if_neg (by simp; omega)))
    go_wp2_with (first
      | (refine wpList_box_blk (w := w) rfl 24 _ rfl #[.int .i64 K, .slice A1 n1 c1, .slice A2 n2 c2, .slice A3 n3 c3] rfl ?_; intro u1 q1 g1 z1; have b1 : Below w.heap.size w u1 := (Below.refl _ w).grown g1 (Nat.le_refl _) (by simp); have e0 := q1.cell (i := 0) rfl; have e1 := q1.cell (i := 1) rfl; clear g1 z1)
      | (refine wpList_run (w := u1) rfl (v := .pointer (some ⟨w.heap.size, 0, none⟩)) (Held.y_field (S := fun _ => True) (k := 0) (s := 0) rfl rfl Try.underlying24 rfl (by kernel_rfl) rfl _ trivial) ?_))
    go_ret
    exact ⟨Mem.ret_int HR.out.symm, b1⟩
  by_cases k4 : K > 4
  · have HR := Lib.hid (HE.out.trans (if_neg (by simp; omega)))
    go_wp2_with (first
      | (refine wpList_box_blk (w := w) rfl 24 _ rfl #[.int .i64 K, .slice A1 n1 c1, .slice A2 n2 c2, .slice A3 n3 c3] rfl ?_; intro u1 q1 g1 z1; have b1 : Below w.heap.size w u1 := (Below.refl _ w).grown g1 (Nat.le_refl _) (by simp); have e0 := q1.cell (i := 0) rfl; have e1 := q1.cell (i := 1) rfl; clear g1 z1)
      | (refine wpList_run (w := u1) rfl (v := .pointer (some ⟨w.heap.size, 0, none⟩)) (Held.y_field (S := fun _ => True) (k := 0) (s := 0) rfl rfl Try.underlying24 rfl (by kernel_rfl) rfl _ trivial) ?_))
    go_ret
    exact ⟨Mem.ret_int HR.out.symm, b1⟩
  have HE := Lib.hid (HE.out.trans (by rw [decide_eq_true (show 1 ≤ K by omega), decide_eq_true (show K ≤ 4 by omega)]))
  go_wp2_with (first
    | (refine wpList_box_blk (w := w) rfl 24 _ rfl #[.int .i64 K, .slice A1 n1 c1, .slice A2 n2 c2, .slice A3 n3 c3] rfl ?_; intro u1 q1 g1 z1; have b1 : Below w.heap.size w u1 := (Below.refl _ w).grown g1 (Nat.le_refl _) (by simp); have e0 := q1.cell (i := 0) rfl; have e1 := q1.cell (i := 1) rfl; clear g1 z1)
    | (refine wpList_run (w := u1) rfl (v := .pointer (some ⟨w.heap.size, 0, none⟩)) (Held.y_field (S := fun _ => True) (k := 0) (s := 0) rfl rfl Try.underlying24 rfl (by kernel_rfl) rfl _ trivial) ?_)
    | (refine wpList_run (w := u1) rfl (v := .pointer (some ⟨w.heap.size, 1, none⟩)) (Held.y_field (S := fun _ => True) (k := 1) (s := 0) rfl rfl Try.underlying24 rfl (by kernel_rfl) rfl _ trivial) ?_))
  refine (P1.out u1 b1).mono ?_
  rintro e u2 ⟨rfl, b2⟩
  have q2 := q1.after b2
  have b2 := b1.trans (b2.mono b1.size)
  have e2 := q2.cell (i := 2) rfl
  clear e0 e1 b1 q1
  cases hm : mayP m K with
  | false =>
    go_wp2_with fail
    go_ret
    exact ⟨Mem.ret_int (HE.out.trans (by simp [hm])).symm, b2⟩
  | true =>
  have HM := Lib.hid hm
  clear hm
  go_wp2_with (refine wpList_run (w := u2) rfl (v := .pointer (some ⟨w.heap.size, 2, none⟩)) (Held.y_field (S := fun _ => True) (k := 2) (s := 0) rfl rfl Try.underlying24 rfl (by kernel_rfl) rfl _ trivial) ?_)
  refine (P2.out u2 b2).mono ?_
  rintro e u3 ⟨rfl, b3⟩
  have q3 := q2.after b3
  have b3 := b2.trans (b3.mono b2.size)
  have e3 := q3.cell (i := 3) rfl
  clear e2 b2 q2
  cases hf : mayP f 0 with
  | false =>
    go_wp2_with fail
    go_ret
    exact ⟨Mem.ret_int (HE.out.trans (by simp [HM.out, hf])).symm, b3⟩
  | true =>
  have HF := Lib.hid hf
  clear hf
  go_wp2_with (refine wpList_run (w := u3) rfl (v := .pointer (some ⟨w.heap.size, 3, none⟩)) (Held.y_field (S := fun _ => True) (k := 3) (s := 0) rfl rfl Try.underlying24 rfl (by kernel_rfl) rfl _ trivial) ?_)
  refine (P3.out u3 b3).mono ?_
  rintro e u4 ⟨rfl, b4⟩
  have b4 := b3.trans (b4.mono b3.size)
  clear e3 b3 q3
  cases he : mayP fi 0 with
  | false =>
    go_wp2_with fail
    go_ret
    exact ⟨Mem.ret_int (HE.out.trans (by simp [HM.out, HF.out, he])).symm, b4⟩
  | true =>
  go_wp2_with fail
  go_ret
  exact ⟨Mem.ret_int (HE.out.trans (by simp [HM.out, HF.out, he])).symm, b4⟩
end Go.Proofs.Ytkiempdpfmolfaa.Cn
