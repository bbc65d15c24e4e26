/-
  The law StoreNil of package dominolaw18 returns true for every name and number: a nil store answers each call, and shows nothing.
-/
import Derived.Test.YtbippmbcgkicaaaRows
import Derived.WalkKit
import Derived.ProofKit
import Derived.OpenShut
import Derived.ShutString
import Derived.ChangeOld
import Derived.Below
import Derived.Test.YtbippmbcgkicaaaB6
namespace Go.Proofs.Ytbippmbcgkicaaa.storeNil
open Go.ChangeShapes Go.WideShapes Go.ChangeAt Go.RowKit
open Go.ChangeMaps (open_string shut_string)
open Go.Shelf Go.Proofs.Ytbippmbcgkicaaa Mem Held Sl Go.Proofs.Ytbippmbcgkicaaa.Range Help Sto
theorem own : ownKnob Try.prog.godebug = none := by kernel_rfl
attribute [local irreducible] wpList wpListIn Calls
set_option maxRecDepth 100000 in
set_option maxHeartbeats 16000000 in
theorem nil_start (k : Nm) (n : Int) (hk : k.length ≤ maxLen) (hn : (Lit.int .i64 n).wf = true) (w : World) :
    Calls Try.prog 4 #[encStr k, .int .i64 n] w fun e w' => e = .returned (.bool true) ∧ Below w.heap.size w w' := by
  go_enter Try.func4, Try.ntmps4
  go_wp2_with (refine wpList_build_row1 (w := w) rfl 31 5 1 _ rfl Try.underlying31 .u8 1 Help.info_u8 [1] rfl (by simp [Act.eval]) (fun z hz => by rw [List.mem_singleton.1 hz]; rfl) (by omega) (by omega) ?_; intro w1 q1 g1 z1)
  have b1 : Below w.heap.size w w1 := (Below.refl _ w).grown g1 (Nat.le_refl _) (by simp)
  clear g1 z1
  refine (put_nil k (⟨some ⟨w.heap.size, 0, none⟩, 1, 1, [1]⟩ : Bs) w1).mono ?_
  rintro r2 w2 ⟨rfl, rfl⟩
  clear q1
  go_wp2_with fail
  refine (get_core (shows_nil w1 k (fun _ => False))).mono ?_
  rintro r3 w3 ⟨⟨A, m, c, zs⟩, rfl, hz, -, hr, b3⟩
  obtain rfl : zs = [] := hz
  obtain rfl : m = 0 := hr.len.symm
  have B3 := b1.trans (b3.mono b1.size)
  clear b1 b3 hr
  go_wp2_with fail
  refine (names_nil w3).mono ?_
  rintro r4 w4 ⟨bx, rfl, hs, hbx, b4⟩
  have B4 := B3.trans (b4.mono B3.size)
  clear B3 b4
  have HS := Lib.hid (seq_none 5 _ _ _ w4 (enters_of Try.func63 (by kernel_rfl) rfl) hs (fun r hr => by rw [hr]; exact hbx))
  clear hs hbx
  go_wp2_with fail
  refine HS.out.mono ?_
  rintro r5 w5 ⟨rfl, b5⟩
  have B5 := B4.trans (b5.mono B4.size)
  clear B4 b5 HS
  go_wp2_with fail
  refine (awake18_any w5).mono ?_
  rintro r6 w6 ⟨rfl, b6⟩
  have B6 := B5.trans (b6.mono B5.size)
  clear B5 b6
  go_wp2_with fail
  refine (versions_nil k w6).mono ?_
  rintro r7 w7 ⟨rfl, rfl⟩
  go_wp2_with fail
  refine (writes_nil w6).mono ?_
  rintro r7 w7 ⟨rfl, rfl⟩
  go_wp2_with fail
  refine (replay_no (versions_nil k w6) (show n < 0 ∨ 0 ≤ n by omega)).mono ?_
  rintro r7 w7 ⟨rfl, rfl⟩
  go_wp2_with fail
  refine (swap_no (shows_nil w6 k (fun _ => False)) (shows_nil w6 k (fun _ => False)) (.inl rfl)).mono ?_
  rintro r7 w7 ⟨rfl, b7⟩
  have B7 := B6.trans (b7.mono B6.size)
  clear B6 b7
  go_wp2_with fail
  refine (delete_no (shows_nil w7 k (fun _ => False)) rfl).mono ?_
  rintro r8 w8 ⟨rfl, b8⟩
  have B8 := B7.trans (b8.mono B7.size)
  clear B7 b8
  go_wp2_with fail
  refine (roll_nil n w8).mono ?_
  rintro r9 w9 ⟨rfl, b9⟩
  have B9 := B8.trans (b9.mono B8.size)
  clear B8 b9
  go_wp2_with fail
  refine (flip_no (shows_nil w9 k (fun _ => False)) hn (show n < 0 ∨ ((Vw.none.x.n : Nat) : Int) ≤ n / 8 from (Int.lt_or_le n 0).imp id fun h => Int.ediv_nonneg h (by decide))).mono ?_
  rintro r10 w10 ⟨rfl, b10⟩
  have B10 := B9.trans (b10.mono B9.size)
  clear B9 b10
  go_wp2_with fail
  refine (fork_nil w10).mono ?_
  rintro r11 w11 ⟨rfl, rfl⟩
  go_wp2_with fail
  go_ret
  exact ⟨rfl, B10⟩
theorem walk (a0 : ByteArray) (a1 : Int) (w : World) (w0 : a0.size ≤ maxLen) (w1 : (Lit.int .i64 a1).wf = true) :
    Calls Try.prog 4 #[.string a0, .int .i64 a1] w fun e w' => e = .returned (.bool true) ∧ Below w.heap.size w w' := by
  obtain ⟨k0, rfl⟩ : ∃ k : List UInt8, a0 = ⟨k.toArray⟩ := ⟨a0.data.toList, by simp⟩
  exact nil_start k0 a1 (by simpa [ByteArray.size] using w0) w1 w
set_option maxRecDepth 100000 in
theorem lifted (os : Os) (started : os.Started) (H : Type) (enc : TypeId × Value → H) :
    ReturnsInHanded {} Try.checked os 4 .any (Rows.storeNilSpec.pre6 enc Try.prog Try.f4 Rows.storeNilRow.domain false) (Rows.storeNilSpec.post enc Try.prog Try.f4 false true false false) := by
  refine returnsInHanded_of_change (C := Try.checked) own started (by kernel_rfl) Try.func4
    (ChangeSpec.witness6 (enc := enc) (C := Try.checked) false ⟨#[], #[.string ByteArray.empty, .int .i64 0], []⟩ 8 (by kernel_rfl) (by kernel_rfl) (by kernel_rfl) (by kernel_rfl)) ?_
  intro W base args ds gs before hval0 hW hcnd _
  have hval : ∀ (j : Nat) t v, Try.f4.params[j]? = some t → args[j]? = some v → Value.okWide Try.prog W .any base t v := hval0
  have hW' := hW
  obtain ⟨p, q, hA0, hV, rfl, hfz, hnd⟩ := hW
  have hA : DataW.TrodAll enc Try.prog W 0 (fun _ => true) true Try.f4.params.toList args.toList ds p := hA0
  rw [Try.params4] at hA hval
  obtain ⟨v0, vs0, d0, ds0, p0, q0, hargs, rfl, rfl, h0, r0⟩ := trodAll_cons hA
  obtain ⟨v1, vs1, d1, ds1, p1, q1, rfl, rfl, rfl, h1, r1⟩ := trodAll_cons r0
  obtain ⟨rfl, rfl, rfl⟩ := trodAll_nil r1
  obtain rfl : args = #[v0, v1] := by cases args; simp_all
  obtain ⟨rfl, rfl⟩ := trodVars_none hV
  obtain ⟨a0, rfl, rfl, rfl, w0⟩ := open_string Try.underlying9 (hval 0 9 v0 rfl rfl) h0
  obtain ⟨a1, rfl, rfl, rfl, w1⟩ := open_int Try.underlying3 (hval 1 3 v1 rfl rfl) h1
  clear hA0 hval0
  refine (walk a0 a1 W w0 w1).mono fun e W' ⟨he, bel⟩ => ?_
  subst he
  exact ⟨_, rfl, _, _, _, [], _, [], hW', trodAll_mk1 (shut_bool Try.underlying4 _), (trodAll_cons_mk (shut_string Try.underlying9 w0) (trodAll_cons_mk (shut_int Try.underlying3 w1) trodAll_mk0)), rfl, bel.frame _, fun h => by cases h⟩
theorem over : Rows.storeNilRow.holds Try.pinned (OpenSpec.ofChange Rows.storeNilSpec) :=
  OpenClaim.holds_of_wide 4 Try.f4 rfl rfl rfl rfl rfl rfl rfl ⟨rfl, rfl, rfl, rfl, rfl⟩ rfl rfl rfl rfl rfl (by kernel_rfl) Try.func4 (by kernel_rfl)
    (of_decide_eq_true (by kernel_rfl)) (by unfold Func.isWrapper; first | (rw [if_pos (by decide +kernel)]; kernel_rfl) | (rw [if_neg (by decide +kernel)]; exact ⟨rfl, rfl⟩))
    (fun os started H enc _ => lifted os started H enc)
theorem proved : Rows.StoreNilSaid :=
  over
#print axioms proved
end Go.Proofs.Ytbippmbcgkicaaa.storeNil
