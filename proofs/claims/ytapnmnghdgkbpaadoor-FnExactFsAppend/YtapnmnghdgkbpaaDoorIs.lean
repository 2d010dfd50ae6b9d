/- errors.Is where the target is an error of errors.New's make and the error is one too (after the kit's worked example on errors.Is). -/
import Derived.Test.YtapnmnghdgkbpaaDoorChecked
import Derived.WalkKit
import Derived.LaidEql
import Derived.Stop.Asserts
import Derived.RowKitTokens
namespace Go.Proofs.YtapnmnghdgkbpaaDoor
open Go.RowKit Go.Extern.Stop Go.Stop Go.Extern
set_option linter.unusedVariables false
set_option maxRecDepth 1000000

theorem is_typeOf (v : Value) (w : World) : (Extern.ReflectliteType.typeOf #[.iface 203 v]).run Tryd.prog w = .ok (.iface 165 (.agg #[.pointer (some ⟨6, 203, none⟩)])) w := by kernel_rfl
theorem is_comparable (w : World) : (callFunc 192 #[.agg #[.pointer (some ⟨6, 203, none⟩)]]).run Tryd.prog w = .ok (.value (.bool true)) w := by
  rw [@run_callFunc_extern Tryd.prog 192 _ (Extern.ReflectliteType.method fun t => do Extern.Rtype.noPackHeld "Comparable" t; pure (.bool (← typeInfo t).comparable)) Tryd.func192 (by kernel_rfl) (by kernel_rfl) (by kernel_rfl) (by kernel_rfl)]
  kernel_rfl
theorem is_method (v : Value) (w : World) : (Go.method 334 165 v "Comparable").run Tryd.prog w = .ok (192, v) w := by kernel_rfl
theorem is_comp : (Tryd.prog.info? 203).map (·.comparable) = some true := by kernel_rfl
theorem is_size : (Tryd.prog.info? 223).map (·.size) = some 1 := by kernel_rfl
theorem is_noIs (v : Value) (xT : TypeId) (w : World) : (Instr.typeAssert (.iface 203 v) xT 167 true).run Tryd.prog w = .ok (.tuple #[.nilIface, .bool false]) w := run_typeAssert_lacksB Tryd.underlying167 (by kernel_rfl) (by kernel_rfl) v xT w
theorem is_noUnwrap (v : Value) (xT : TypeId) (w : World) : (Instr.typeAssert (.iface 203 v) xT 170 true).run Tryd.prog w = .ok (.tuple #[.nilIface, .bool false]) w := run_typeAssert_lacksB Tryd.underlying170 (by kernel_rfl) (by kernel_rfl) v xT w
theorem is_noUnwraps (v : Value) (xT : TypeId) (w : World) : (Instr.typeAssert (.iface 203 v) xT 172 true).run Tryd.prog w = .ok (.tuple #[.nilIface, .bool false]) w := run_typeAssert_lacksB Tryd.underlying172 (by kernel_rfl) (by kernel_rfl) v xT w

/-- An error of errors.New's make. -/
abbrev errV (a : Addr) : Value := .iface 203 (.pointer (some a))

theorem is_same (a : Addr) (w : World) : Calls Tryd.prog 126 #[errV a, errV a] w fun e w' => e = .returned (.bool true) ∧ w' = w := by
  obtain ⟨i, hi, hcmp⟩ := Option.map_eq_some_iff.1 is_comp
  obtain ⟨j, hj, hjs⟩ := Option.map_eq_some_iff.1 is_size
  have h8 := @run_callFunc_extern Tryd.prog 137 _ Extern.ReflectliteType.typeOf Tryd.func137 (by kernel_rfl) (by kernel_rfl) (by kernel_rfl) (by kernel_rfl)
  have tT := is_typeOf
  have cT := is_comparable
  have mR := is_method
  have heq := run_eql_iface_ptr_same (P := Tryd.prog) w a Tryd.underlying90 Tryd.underlying203 hi hcmp hj
  go_enter Tryd.func126, Tryd.ntmps126
  go_wp2
  refine wp_loop_rounds 1 ?_
  rw [rounds_succ]
  go_wp2
  go_ret
  exact ⟨rfl, rfl⟩

theorem is_nil (b : Addr) (w : World) : Calls Tryd.prog 126 #[.nilIface, errV b] w fun e w' => e = .returned (.bool false) ∧ w' = w := by
  have hn := run_eql_iface_nil_left (P := Tryd.prog) w 203 (.pointer (some b)) Tryd.underlying90
  go_enter Tryd.func126, Tryd.ntmps126
  go_wp2
  go_ret
  exact ⟨rfl, rfl⟩

theorem is_other (a b : Addr) (ca cb : Array Value) (ta tb : TypeId) (w : World) (hne : a ≠ b) (ha : w.heap[a.block]? = some (.cells ca ta (0, 0))) (hb : w.heap[b.block]? = some (.cells cb tb (0, 0))) :
    Calls Tryd.prog 126 #[errV a, errV b] w fun e w' => e = .returned (.bool false) ∧ w' = w := by
  obtain ⟨i, hi, hcmp⟩ := Option.map_eq_some_iff.1 is_comp
  obtain ⟨j, hj, hjs⟩ := Option.map_eq_some_iff.1 is_size
  have h8 := @run_callFunc_extern Tryd.prog 137 _ Extern.ReflectliteType.typeOf Tryd.func137 (by kernel_rfl) (by kernel_rfl) (by kernel_rfl) (by kernel_rfl)
  have tT := is_typeOf
  have cT := is_comparable
  have mR := is_method
  have nE := is_noIs
  have uE := is_noUnwrap
  have vE := is_noUnwraps
  have heq := run_eql_iface_ptr_other (P := Tryd.prog) w Tryd.underlying90 Tryd.underlying203 hi hcmp hj (by rw [hjs]; decide) hne ha hb
  go_enter Tryd.func126, Tryd.ntmps126
  go_wp2
  refine wp_loop_rounds 1 ?_
  rw [rounds_succ]
  go_wp2
  go_ret
  exact ⟨rfl, rfl⟩

/-- What is known of the package's five errors: the variables' cells, and that no two are one. -/
def Errs (w : World) (a0 a1 a2 a3 a4 : Addr) : Prop :=
  (w.cell? ⟨2, 0, none⟩ = some (errV a0) ∧ w.cell? ⟨3, 0, none⟩ = some (errV a1) ∧ w.cell? ⟨4, 0, none⟩ = some (errV a2) ∧ w.cell? ⟨0, 0, none⟩ = some (errV a3) ∧ w.cell? ⟨1, 0, none⟩ = some (errV a4)) ∧
  (∀ a ∈ [a0, a1, a2, a3, a4], ∃ c t, w.heap[a.block]? = some (.cells c t (0, 0))) ∧ [a0, a1, a2, a3, a4].Pairwise (· ≠ ·)
/-- The five errors' places lie below block B. -/
theorem Errs.below {w w' : World} {a0 a1 a2 a3 a4 : Addr} (h : Errs w a0 a1 a2 a3 a4) (hb : Below w.heap.size w w') : Errs w' a0 a1 a2 a3 a4 := by
  obtain ⟨⟨h0, h1, h2, h3, h4⟩, hc, hp⟩ := h
  have k : ∀ {a : Addr} {v : Value}, w.cell? a = some v → w'.cell? a = some v := fun {a v} hc => by
    rw [← hc]; exact World.cell?_of_block (hb.block _ (World.block_lt_of_cell? w a hc))
  refine ⟨⟨k h0, k h1, k h2, k h3, k h4⟩, fun a ha => ?_, hp⟩
  obtain ⟨c, t, e⟩ := hc a ha
  exact ⟨c, t, (hb.block _ (Array.getElem?_eq_some_iff.1 e).1).trans e⟩

set_option maxHeartbeats 4000000 in
/-- fileCode of each of the five errors. -/
theorem fileCode_any (a0 a1 a2 a3 a4 : Addr) (w : World) (h : Errs w a0 a1 a2 a3 a4) (i : Nat) (a : Addr) (hi : [a0, a1, a2, a3, a4][i]? = some a) :
    Calls Tryd.prog 109 #[errV a] w fun e w' => e = .returned (.int .i64 ([2, 1, 6, 8, 9].getD i 0)) ∧ w' = w := by
  obtain ⟨⟨h0, h1, h2, h3, h4⟩, hc, hp⟩ := h
  simp only [List.mem_cons, List.not_mem_nil, or_false, forall_eq_or_imp, forall_eq] at hc
  obtain ⟨⟨c0, t0, b0⟩, ⟨c1, t1, b1⟩, ⟨c2, t2, b2⟩, ⟨c3, t3, b3⟩, ⟨c4, t4, b4⟩⟩ := hc
  simp only [List.pairwise_cons, List.mem_cons, List.not_mem_nil, or_false, forall_eq_or_imp, forall_eq] at hp
  obtain ⟨⟨n01, n02, n03, n04⟩, ⟨n12, n13, n14⟩, ⟨n23, n24⟩, n34, _⟩ := hp
  match i, hi with
  | 0, hi =>
    obtain rfl : a0 = a := by simpa using hi
    go_enter Tryd.func109, Tryd.ntmps109
    go_wp2_with (fail)
    refine (is_same a0 _).mono ?_
    rintro e w' ⟨rfl, rfl⟩
    go_wp2
    go_ret
    exact ⟨rfl, rfl⟩
  | 1, hi =>
    obtain rfl : a1 = a := by simpa using hi
    go_enter Tryd.func109, Tryd.ntmps109
    go_wp2_with (fail)
    refine (is_other a1 a0 c1 c0 t1 t0 _ (Ne.symm n01) b1 b0).mono ?_
    rintro e w' ⟨rfl, rfl⟩
    go_wp2_with (fail)
    refine (is_other a1 a2 c1 c2 t1 t2 _ n12 b1 b2).mono ?_
    rintro e w' ⟨rfl, rfl⟩
    go_wp2_with (fail)
    refine (is_other a1 a3 c1 c3 t1 t3 _ n13 b1 b3).mono ?_
    rintro e w' ⟨rfl, rfl⟩
    go_wp2_with (fail)
    refine (is_other a1 a4 c1 c4 t1 t4 _ n14 b1 b4).mono ?_
    rintro e w' ⟨rfl, rfl⟩
    go_wp2
    go_ret
    exact ⟨rfl, rfl⟩
  | 2, hi =>
    obtain rfl : a2 = a := by simpa using hi
    go_enter Tryd.func109, Tryd.ntmps109
    go_wp2_with (fail)
    refine (is_other a2 a0 c2 c0 t2 t0 _ (Ne.symm n02) b2 b0).mono ?_
    rintro e w' ⟨rfl, rfl⟩
    go_wp2_with (fail)
    refine (is_same a2 _).mono ?_
    rintro e w' ⟨rfl, rfl⟩
    go_wp2
    go_ret
    exact ⟨rfl, rfl⟩
  | 3, hi =>
    obtain rfl : a3 = a := by simpa using hi
    go_enter Tryd.func109, Tryd.ntmps109
    go_wp2_with (fail)
    refine (is_other a3 a0 c3 c0 t3 t0 _ (Ne.symm n03) b3 b0).mono ?_
    rintro e w' ⟨rfl, rfl⟩
    go_wp2_with (fail)
    refine (is_other a3 a2 c3 c2 t3 t2 _ (Ne.symm n23) b3 b2).mono ?_
    rintro e w' ⟨rfl, rfl⟩
    go_wp2_with (fail)
    refine (is_same a3 _).mono ?_
    rintro e w' ⟨rfl, rfl⟩
    go_wp2
    go_ret
    exact ⟨rfl, rfl⟩
  | 4, hi =>
    obtain rfl : a4 = a := by simpa using hi
    go_enter Tryd.func109, Tryd.ntmps109
    go_wp2_with (fail)
    refine (is_other a4 a0 c4 c0 t4 t0 _ (Ne.symm n04) b4 b0).mono ?_
    rintro e w' ⟨rfl, rfl⟩
    go_wp2_with (fail)
    refine (is_other a4 a2 c4 c2 t4 t2 _ (Ne.symm n24) b4 b2).mono ?_
    rintro e w' ⟨rfl, rfl⟩
    go_wp2_with (fail)
    refine (is_other a4 a3 c4 c3 t4 t3 _ (Ne.symm n34) b4 b3).mono ?_
    rintro e w' ⟨rfl, rfl⟩
    go_wp2_with (fail)
    refine (is_same a4 _).mono ?_
    rintro e w' ⟨rfl, rfl⟩
    go_wp2
    go_ret
    exact ⟨rfl, rfl⟩
end Go.Proofs.YtapnmnghdgkbpaaDoor
