/- errors.Is where the target is an error of errors.New's make and the error is one too (after the kit's worked example on errors.Is). The contracts of the map's find. Plain facts on putting a file into its place among rising ones. -/
import Derived.Test.YtebkblmejkkhfaaGreatDoorChecked
import Derived.WalkKit
import Derived.LaidEql
import Derived.Stop.Asserts
import Derived.RowKitTokens
import Derived.Test.YtebkblmejkkhfaaGreatDoorFMapW
import Derived.RegionTactic
import Derived.BigRegion
import Derived.Test.YtebkblmejkkhfaaGreatDoorFilRightW
namespace Go.Proofs.YtebkblmejkkhfaaGreatDoor
open Go.RowKit Go.Extern.Stop Go.Stop Go.Extern
set_option linter.unusedVariables false
set_option maxRecDepth 1000000

theorem is_typeOf (v : Value) (w : World) : (Extern.ReflectliteType.typeOf #[.iface 249 v]).run Tryz.prog w = .ok (.iface 186 (.agg #[.pointer (some ⟨12, 249, none⟩)])) w := by kernel_rfl
theorem is_comparable (w : World) : (callFunc 265 #[.agg #[.pointer (some ⟨12, 249, none⟩)]]).run Tryz.prog w = .ok (.value (.bool true)) w := by
  rw [@run_callFunc_extern Tryz.prog 265 _ (Extern.ReflectliteType.method fun t => do Extern.Rtype.noPackHeld "Comparable" t; pure (.bool (← typeInfo t).comparable)) Tryz.func265 (by kernel_rfl) (by kernel_rfl) (by kernel_rfl) (by kernel_rfl)]
  kernel_rfl
theorem is_method (v : Value) (w : World) : (Go.method 404 186 v "Comparable").run Tryz.prog w = .ok (265, v) w := by kernel_rfl
theorem is_comp : (Tryz.prog.info? 249).map (·.comparable) = some true := by kernel_rfl
theorem is_size : (Tryz.prog.info? 251).map (·.size) = some 1 := by kernel_rfl
theorem is_noIs (v : Value) (xT : TypeId) (w : World) : (Instr.typeAssert (.iface 249 v) xT 188 true).run Tryz.prog w = .ok (.tuple #[.nilIface, .bool false]) w := run_typeAssert_lacksB Tryz.underlying188 (by kernel_rfl) (by kernel_rfl) v xT w
theorem is_noUnwrap (v : Value) (xT : TypeId) (w : World) : (Instr.typeAssert (.iface 249 v) xT 191 true).run Tryz.prog w = .ok (.tuple #[.nilIface, .bool false]) w := run_typeAssert_lacksB Tryz.underlying191 (by kernel_rfl) (by kernel_rfl) v xT w
theorem is_noUnwraps (v : Value) (xT : TypeId) (w : World) : (Instr.typeAssert (.iface 249 v) xT 193 true).run Tryz.prog w = .ok (.tuple #[.nilIface, .bool false]) w := run_typeAssert_lacksB Tryz.underlying193 (by kernel_rfl) (by kernel_rfl) v xT w

/-- An error of errors.New's make. -/
abbrev errV (a : Addr) : Value := .iface 249 (.pointer (some a))

theorem is_same (a : Addr) (w : World) : Calls Tryz.prog 132 #[errV a, errV a] w fun e w' => e = .returned (.bool true) ∧ w' = w := by
  obtain ⟨i, hi, hcmp⟩ := Option.map_eq_some_iff.1 is_comp
  obtain ⟨j, hj, hjs⟩ := Option.map_eq_some_iff.1 is_size
  have h8 := @run_callFunc_extern Tryz.prog 161 _ Extern.ReflectliteType.typeOf Tryz.func161 (by kernel_rfl) (by kernel_rfl) (by kernel_rfl) (by kernel_rfl)
  have tT := is_typeOf
  have cT := is_comparable
  have mR := is_method
  have heq := run_eql_iface_ptr_same (P := Tryz.prog) w a Tryz.underlying97 Tryz.underlying249 hi hcmp hj
  go_enter Tryz.func132, Tryz.ntmps132
  go_wp2
  refine wp_loop_rounds 1 ?_
  rw [rounds_succ]
  go_wp2
  go_ret
  exact ⟨rfl, rfl⟩

theorem is_nil (b : Addr) (w : World) : Calls Tryz.prog 132 #[.nilIface, errV b] w fun e w' => e = .returned (.bool false) ∧ w' = w := by
  have hn := run_eql_iface_nil_left (P := Tryz.prog) w 249 (.pointer (some b)) Tryz.underlying97
  go_enter Tryz.func132, Tryz.ntmps132
  go_wp2
  go_ret
  exact ⟨rfl, rfl⟩

theorem is_other (a b : Addr) (ca cb : Array Value) (ta tb : TypeId) (w : World) (hne : a ≠ b) (ha : w.heap[a.block]? = some (.cells ca ta (0, 0))) (hb : w.heap[b.block]? = some (.cells cb tb (0, 0))) :
    Calls Tryz.prog 132 #[errV a, errV b] w fun e w' => e = .returned (.bool false) ∧ w' = w := by
  obtain ⟨i, hi, hcmp⟩ := Option.map_eq_some_iff.1 is_comp
  obtain ⟨j, hj, hjs⟩ := Option.map_eq_some_iff.1 is_size
  have h8 := @run_callFunc_extern Tryz.prog 161 _ Extern.ReflectliteType.typeOf Tryz.func161 (by kernel_rfl) (by kernel_rfl) (by kernel_rfl) (by kernel_rfl)
  have tT := is_typeOf
  have cT := is_comparable
  have mR := is_method
  have nE := is_noIs
  have uE := is_noUnwrap
  have vE := is_noUnwraps
  have heq := run_eql_iface_ptr_other (P := Tryz.prog) w Tryz.underlying97 Tryz.underlying249 hi hcmp hj (by rw [hjs]; decide) hne ha hb
  go_enter Tryz.func132, Tryz.ntmps132
  go_wp2
  refine wp_loop_rounds 1 ?_
  rw [rounds_succ]
  go_wp2
  go_ret
  exact ⟨rfl, rfl⟩

/-- What is known of the package's five errors: the variables' cells, and that no two are one. -/
def Errs (w : World) (a0 a1 a2 a3 a4 : Addr) : Prop :=
  (w.cell? ⟨1, 0, none⟩ = some (errV a0) ∧ w.cell? ⟨2, 0, none⟩ = some (errV a1) ∧ w.cell? ⟨3, 0, none⟩ = some (errV a2) ∧ w.cell? ⟨4, 0, none⟩ = some (errV a3) ∧ w.cell? ⟨0, 0, none⟩ = some (errV a4)) ∧
  (∀ a ∈ [a0, a1, a2, a3, a4], ∃ c t, w.heap[a.block]? = some (.cells c t (0, 0))) ∧ [a0, a1, a2, a3, a4].Pairwise (· ≠ ·)
/-- The five errors' places lie below block B. -/
theorem Errs.below {w w' : World} {a0 a1 a2 a3 a4 : Addr} (h : Errs w a0 a1 a2 a3 a4) (hb : Below w.heap.size w w') : Errs w' a0 a1 a2 a3 a4 := by
  obtain ⟨⟨h0, h1, h2, h3, h4⟩, hc, hp⟩ := h
  have k : ∀ {a : Addr} {v : Value}, w.cell? a = some v → w'.cell? a = some v := fun {a v} hc => by
    rw [← hc]; exact World.cell?_of_block (hb.block _ (World.block_lt_of_cell? w a hc))
  refine ⟨⟨k h0, k h1, k h2, k h3, k h4⟩, fun a ha => ?_, hp⟩
  obtain ⟨c, t, e⟩ := hc a ha
  exact ⟨c, t, (hb.block _ (Array.getElem?_eq_some_iff.1 e).1).trans e⟩

set_option maxHeartbeats 4000000 in
/-- fileCode of each of the five errors. -/
theorem fileCode_any (a0 a1 a2 a3 a4 : Addr) (w : World) (h : Errs w a0 a1 a2 a3 a4) (i : Nat) (a : Addr) (hi : [a0, a1, a2, a3, a4][i]? = some a) :
    Calls Tryz.prog 84 #[errV a] w fun e w' => e = .returned (.int .i64 ([2, 1, 6, 8, 9].getD i 0)) ∧ w' = w := by
  obtain ⟨⟨h0, h1, h2, h3, h4⟩, hc, hp⟩ := h
  simp only [List.mem_cons, List.not_mem_nil, or_false, forall_eq_or_imp, forall_eq] at hc
  obtain ⟨⟨c0, t0, b0⟩, ⟨c1, t1, b1⟩, ⟨c2, t2, b2⟩, ⟨c3, t3, b3⟩, ⟨c4, t4, b4⟩⟩ := hc
  simp only [List.pairwise_cons, List.mem_cons, List.not_mem_nil, or_false, forall_eq_or_imp, forall_eq] at hp
  obtain ⟨⟨n01, n02, n03, n04⟩, ⟨n12, n13, n14⟩, ⟨n23, n24⟩, n34, _⟩ := hp
  match i, hi with
  | 0, hi =>
    obtain rfl : a0 = a := by simpa using hi
    go_enter Tryz.func84, Tryz.ntmps84
    go_wp2_with (fail)
    refine (is_same a0 _).mono ?_
    rintro e w' ⟨rfl, rfl⟩
    go_wp2
    go_ret
    exact ⟨rfl, rfl⟩
  | 1, hi =>
    obtain rfl : a1 = a := by simpa using hi
    go_enter Tryz.func84, Tryz.ntmps84
    go_wp2_with (fail)
    refine (is_other a1 a0 c1 c0 t1 t0 _ (Ne.symm n01) b1 b0).mono ?_
    rintro e w' ⟨rfl, rfl⟩
    go_wp2_with (fail)
    refine (is_other a1 a2 c1 c2 t1 t2 _ n12 b1 b2).mono ?_
    rintro e w' ⟨rfl, rfl⟩
    go_wp2_with (fail)
    refine (is_other a1 a3 c1 c3 t1 t3 _ n13 b1 b3).mono ?_
    rintro e w' ⟨rfl, rfl⟩
    go_wp2_with (fail)
    refine (is_other a1 a4 c1 c4 t1 t4 _ n14 b1 b4).mono ?_
    rintro e w' ⟨rfl, rfl⟩
    go_wp2
    go_ret
    exact ⟨rfl, rfl⟩
  | 2, hi =>
    obtain rfl : a2 = a := by simpa using hi
    go_enter Tryz.func84, Tryz.ntmps84
    go_wp2_with (fail)
    refine (is_other a2 a0 c2 c0 t2 t0 _ (Ne.symm n02) b2 b0).mono ?_
    rintro e w' ⟨rfl, rfl⟩
    go_wp2_with (fail)
    refine (is_same a2 _).mono ?_
    rintro e w' ⟨rfl, rfl⟩
    go_wp2
    go_ret
    exact ⟨rfl, rfl⟩
  | 3, hi =>
    obtain rfl : a3 = a := by simpa using hi
    go_enter Tryz.func84, Tryz.ntmps84
    go_wp2_with (fail)
    refine (is_other a3 a0 c3 c0 t3 t0 _ (Ne.symm n03) b3 b0).mono ?_
    rintro e w' ⟨rfl, rfl⟩
    go_wp2_with (fail)
    refine (is_other a3 a2 c3 c2 t3 t2 _ (Ne.symm n23) b3 b2).mono ?_
    rintro e w' ⟨rfl, rfl⟩
    go_wp2_with (fail)
    refine (is_same a3 _).mono ?_
    rintro e w' ⟨rfl, rfl⟩
    go_wp2
    go_ret
    exact ⟨rfl, rfl⟩
  | 4, hi =>
    obtain rfl : a4 = a := by simpa using hi
    go_enter Tryz.func84, Tryz.ntmps84
    go_wp2_with (fail)
    refine (is_other a4 a0 c4 c0 t4 t0 _ (Ne.symm n04) b4 b0).mono ?_
    rintro e w' ⟨rfl, rfl⟩
    go_wp2_with (fail)
    refine (is_other a4 a2 c4 c2 t4 t2 _ (Ne.symm n24) b4 b2).mono ?_
    rintro e w' ⟨rfl, rfl⟩
    go_wp2_with (fail)
    refine (is_other a4 a3 c4 c3 t4 t3 _ (Ne.symm n34) b4 b3).mono ?_
    rintro e w' ⟨rfl, rfl⟩
    go_wp2_with (fail)
    refine (is_same a4 _).mono ?_
    rintro e w' ⟨rfl, rfl⟩
    go_wp2
    go_ret
    exact ⟨rfl, rfl⟩
end Go.Proofs.YtebkblmejkkhfaaGreatDoor

namespace Go.Proofs.YtebkblmejkkhfaaGreatDoor
open Go.RowKit
set_option linter.unusedVariables false
set_option maxRecDepth 1000000

theorem zeroFile (w : World) : (zeroValue 53).run Tryz.prog w = .ok zeroFil.val w := Tryz.zeroValue53 w
theorem keyed : Maps.Keyed Tryz.prog 9 := Maps.string_keyed Tryz.underlying9
theorem key_mk {s : ByteArray} (hs : s.size ≤ maxLen) : keyOf Tryz.prog 9 (.string s) = some (.string s.data.toList) := WideMaps.keyOf_string_mk Tryz.underlying9 hs

set_option maxHeartbeats 1000000 in
set_option maxRecDepth 1000000 in
theorem find_some (b n : Nat) (L : List Fil) (s : ByteArray) (f : Fil) (w : World) (hM : MapF w b n L) (hs : s.size ≤ maxLen) (hf : findF L s = some f) :
    Calls Tryz.prog 85 #[.map (some b), .string s] w fun e w' => e = .returned (.tuple #[f.val, .nilIface]) ∧ Below w.heap.size w w' := by
  have hM1 := World.ownsMap.alloc hM (.cells #[.string ⟨#[]⟩, .string ⟨#[]⟩, .int .i64 0] 53)
  go_enter Tryz.func85, Tryz.ntmps85
  go_wp2_with (at_lookup; refine wpList_lookup_own_ok _ rfl _ _ 95 rfl 9 53 keyed Tryz.underlying95 _ (zeroFile _) (fileD zeroFil) [] (filElem_mk _) b n _ rfl hM1 _ _ rfl (key_mk hs) ?_)
  intro v ps hv
  rw [at_D, hf] at hv
  have hv' := filElem_inv hv
  have hh : Maps.has (DataW.map (L.map ent)) (.string s.data.toList) = true := by rw [has_D, hf]; rfl
  rw [hh, hv']
  unfold Fil.val
  go_wp2
  refine bodyPost_ret (v := .tuple #[f.val, .nilIface]) (by simp [results, Tryz.results85, go_sem, Fil.val]) rfl ⟨rfl, ?_⟩
  exact ((Below.refl _ _).alloc (Nat.le_refl _) _).alloc (by simp) _

set_option maxHeartbeats 1000000 in
set_option maxRecDepth 1000000 in
theorem find_none (b n : Nat) (L : List Fil) (s : ByteArray) (a0 a1 a2 a3 a4 : Addr) (w : World) (hM : MapF w b n L) (hs : s.size ≤ maxLen) (hE : Errs w a0 a1 a2 a3 a4) (hf : findF L s = none) :
    Calls Tryz.prog 85 #[.map (some b), .string s] w fun e w' => e = .returned (.tuple #[zeroFil.val, errV a2]) ∧ Below w.heap.size w w' := by
  have hM1 := World.ownsMap.alloc hM (.cells #[.string ⟨#[]⟩, .string ⟨#[]⟩, .int .i64 0] 53)
  have hb0 : Below w.heap.size w ((w.alloc (.cells #[.string ⟨#[]⟩, .string ⟨#[]⟩, .int .i64 0] 53)).alloc (.cells #[.string ⟨#[]⟩, .string ⟨#[]⟩, .int .i64 0] 53)) := ((Below.refl _ _).alloc (Nat.le_refl _) _).alloc (by simp) _
  have e2 := (hE.below hb0).1.2.2.1
  go_enter Tryz.func85, Tryz.ntmps85
  go_wp2_with (at_lookup; refine wpList_lookup_own_ok _ rfl _ _ 95 rfl 9 53 keyed Tryz.underlying95 _ (zeroFile _) (fileD zeroFil) [] (filElem_mk _) b n _ rfl hM1 _ _ rfl (key_mk hs) ?_)
  intro v ps hv
  rw [at_D, hf] at hv
  have hv' := filElem_inv hv
  have hh : Maps.has (DataW.map (L.map ent)) (.string s.data.toList) = false := by rw [has_D, hf]; rfl
  rw [hh, hv']
  unfold Fil.val zeroFil
  go_wp2
  go_region
  go_wp2
  have hk := ((Blk.fresh w 53 [.string ⟨#[]⟩, .string ⟨#[]⟩, .int .i64 0]).alloc (.cells #[.string ⟨#[]⟩, .string ⟨#[]⟩, .int .i64 0] 53)).drew
  have d0 := hk.cell (i := 0) rfl
  have d1 := hk.cell (i := 1) rfl
  have d2 := hk.cell (i := 2) rfl
  refine bodyPost_ret (v := .tuple #[zeroFil.val, errV a2]) (by simp [results, Tryz.results85, go_sem, Fil.val, zeroFil, d0, d1, d2]) rfl ⟨rfl, ?_⟩
  exact below_drew hb0

theorem tooLong_any (s : ByteArray) (w : World) (hs : s.size ≤ maxLen) : Calls Tryz.prog 74 #[.string s] w fun e w' => e = .returned (.bool (decide (20000 < s.size))) ∧ w' = w := by
  unfold maxLen at hs
  go_enter Tryz.func74, Tryz.ntmps74
  go_wp2
  go_ret
  exact ⟨retB (by simp; omega), rfl⟩
end Go.Proofs.YtebkblmejkkhfaaGreatDoor

namespace Go.Proofs.YtebkblmejkkhfaaGreatDoor
open Go.RowKit
set_option linter.unusedVariables false

theorem lt_of_rising {L : List Fil} (hR : Rising L) {i j : Nat} (hij : i < j) (hj : j < L.length) : lessB L[i].name L[j].name = true := List.pairwise_iff_getElem.1 hR i j (by omega) hj hij
theorem name_ne {L : List Fil} (hR : Rising L) {i j : Nat} (hi : i < L.length) (hj : j < L.length) (h : i ≠ j) : L[i].name ≠ L[j].name := by
  rcases Nat.lt_or_gt_of_ne h with h | h
  · exact lessB_ne (lt_of_rising hR h hj)
  · exact (lessB_ne (lt_of_rising hR h hi)).symm
theorem del_at {L : List Fil} (hR : Rising L) {i : Nat} (hi : i < L.length) : delL L L[i].name = L.take i ++ L.drop (i + 1) := by
  have hlt : ∀ j (hj : j < L.length), j ≠ i → L[j].name ≠ L[i].name := fun j hj h => name_ne hR hj hi h
  have hsp : L.filter (fun g => !decide (g.name = L[i].name)) = (L.take i ++ L[i] :: L.drop (i + 1)).filter (fun g => !decide (g.name = L[i].name)) := by
    rw [← List.drop_eq_getElem_cons hi, List.take_append_drop]
  unfold delL
  rw [hsp, List.filter_append, List.filter_cons_of_neg (by simp)]
  congr 1
  · rw [List.filter_eq_self]
    intro a ha
    obtain ⟨j, hj, rfl⟩ := List.getElem_of_mem ha
    rw [List.length_take] at hj
    rw [List.getElem_take]
    simpa using hlt j (by omega) (by omega)
  · rw [List.filter_eq_self]
    intro a ha
    obtain ⟨j, hj, rfl⟩ := List.getElem_of_mem ha
    rw [List.length_drop] at hj
    rw [List.getElem_drop]
    simpa using hlt (i + 1 + j) (by omega) (by omega)
theorem del_no {L : List Fil} {s : ByteArray} (h : ∀ g ∈ L, g.name ≠ s) : delL L s = L := by
  unfold delL
  rw [List.filter_eq_self]
  intro a ha
  simpa using h a ha
/-- Put behind the lesser ones and ahead of the greater ones. -/
theorem ins_mid {P Q : List Fil} {f : Fil} (hP : ∀ g ∈ P, lessB g.name f.name = true) (hQ : ∀ g ∈ Q, lessB f.name g.name = true) : insF f (P ++ Q) = P ++ f :: Q := by
  induction P with
  | nil =>
    cases Q with
    | nil => rfl
    | cons g r => simp only [List.nil_append, insF]; rw [if_pos (hQ g (by simp))]
  | cons g P ih =>
    simp only [List.cons_append, insF]
    have hg := lessB_asymm (hP g (by simp))
    rw [if_neg (by rw [hg]; decide), ih (fun x hx => hP x (by simp [hx]))]
theorem put_at {L : List Fil} (hR : Rising L) {i : Nat} (hi : i < L.length) {f : Fil} (hf : f.name = L[i].name) : putL L f = L.set i f := by
  have h1 : putL L f = insF f (delL L L[i].name) := by unfold putL delL; rw [hf]
  rw [h1, del_at hR hi, ins_mid]
  · rw [List.set_eq_take_append_cons_drop, if_pos hi]
  · intro g hg
    obtain ⟨j, hj, rfl⟩ := List.getElem_of_mem hg
    rw [List.length_take] at hj
    rw [List.getElem_take, hf]
    exact lt_of_rising hR (by omega) hi
  · intro g hg
    obtain ⟨j, hj, rfl⟩ := List.getElem_of_mem hg
    rw [List.length_drop] at hj
    rw [List.getElem_drop, hf]
    exact lt_of_rising hR (by omega) (by omega)
theorem rising_set {L : List Fil} (hR : Rising L) {i : Nat} (hi : i < L.length) {f : Fil} (hf : f.name = L[i].name) : Rising (L.set i f) := by
  unfold Rising
  rw [List.pairwise_iff_getElem]
  intro a b ha hb hab
  have hb' : b < L.length := by simpa using hb
  rw [List.getElem_set, List.getElem_set]
  split
  · subst i
    rw [if_neg (by omega), hf]
    exact lt_of_rising hR hab hb'
  · split
    · subst i
      rw [hf]; exact lt_of_rising hR hab hb'
    · exact lt_of_rising hR hab hb'
theorem rising_del {L : List Fil} (hR : Rising L) (s : ByteArray) : Rising (delL L s) := List.Pairwise.filter _ hR
theorem del_mem {L : List Fil} {s : ByteArray} {g : Fil} (h : g ∈ delL L s) : g ∈ L ∧ g.name ≠ s := by
  unfold delL at h
  rw [List.mem_filter] at h
  exact ⟨h.1, by simpa using h.2⟩
theorem ins_mem {L : List Fil} {f g : Fil} (h : g ∈ insF f L) : g = f ∨ g ∈ L := by
  induction L with
  | nil => simp [insF] at h; exact .inl h
  | cons x r ih =>
    simp only [insF] at h
    split at h
    · rcases List.mem_cons.1 h with h | h
      · exact .inl h
      · exact .inr h
    · rcases List.mem_cons.1 h with h | h
      · exact .inr (by simp [h])
      · rcases ih h with h | h
        · exact .inl h
        · exact .inr (by simp [h])
theorem put_mem {L : List Fil} {f g : Fil} (h : g ∈ putL L f) : g = f ∨ g ∈ L := by
  unfold putL at h
  rcases ins_mem h with h | h
  · exact .inl h
  · exact .inr (List.mem_filter.1 h).1
theorem ins_len (f : Fil) (L : List Fil) : (insF f L).length = L.length + 1 := by
  induction L with
  | nil => rfl
  | cons g r ih =>
    simp only [insF]
    split
    · simp
    · simp [ih]
theorem put_len (L : List Fil) (f : Fil) : (putL L f).length ≤ L.length + 1 := by
  unfold putL
  rw [ins_len]
  have := List.length_filter_le (fun g => !decide (g.name = f.name)) L
  omega
theorem rising_ins {L : List Fil} (hR : Rising L) {f : Fil} (hf : ∀ g ∈ L, g.name ≠ f.name) : Rising (insF f L) := by
  induction L with
  | nil => exact List.pairwise_singleton _ _
  | cons g r ih =>
    obtain ⟨h1, h2⟩ := List.pairwise_cons.1 hR
    simp only [insF]
    split
    · rename_i hlt
      refine List.Pairwise.cons (fun x hx => ?_) hR
      rcases List.mem_cons.1 hx with rfl | hx
      · exact hlt
      · exact lessB_trans hlt (h1 x hx)
    · rename_i hnlt
      refine List.Pairwise.cons (fun x hx => ?_) (ih h2 (fun x hx => hf x (by simp [hx])))
      rcases ins_mem hx with rfl | hx
      · rcases lessB_total (hf g (by simp)) with h | h
        · exact h
        · exact absurd h hnlt
      · exact h1 x hx
theorem rising_put {L : List Fil} (hR : Rising L) (f : Fil) : Rising (putL L f) := by
  unfold putL
  refine rising_ins (List.Pairwise.filter _ hR) (fun g hg => ?_)
  have := (List.mem_filter.1 hg).2
  simpa using this
theorem small_of {L M : List Fil} (hM : M.length ≤ 1048576) (h : ∀ g ∈ M, g.name.size ≤ 1048576 ∧ g.data.size ≤ 1048576) : Small M := ⟨hM, fun i hi => h _ (List.getElem_mem hi)⟩
theorem small_nil : Small [] := ⟨by simp, fun i h => absurd h (by simp)⟩
theorem small_mem {L : List Fil} (h : Small L) {g : Fil} (hg : g ∈ L) : g.name.size ≤ 1048576 ∧ g.data.size ≤ 1048576 := by
  obtain ⟨i, hi, rfl⟩ := List.getElem_of_mem hg
  exact h.2 i hi
theorem set_same {α : Type} {l : List α} {i : Nat} {x : α} (h : l[i]? = some x) : l.set i x = l := by
  apply List.ext_getElem?
  intro j
  rw [List.getElem?_set]
  split
  · subst i
    split
    · exact h.symm
    · rename_i h2; rw [List.getElem?_eq_none (by omega)] at h; cases h
  · rfl
/-- The third cell of a file put anew. -/
theorem flat_sync {L : List Fil} {i : Nat} (hi : i < L.length) (k : Int) : (flat L).set (i * 3 + 2) (.int .i64 k) = flat (L.set i ⟨L[i].name, L[i].data, k⟩) := by
  rw [← flat_set]
  simp only
  rw [set_same (i := i * 3) (flat_get L i hi 0 (by omega)), set_same (flat_get L i hi 1 (by omega))]
/-- The second and third cell of a file put anew. -/
theorem flat_two {L : List Fil} {i : Nat} (hi : i < L.length) (d : ByteArray) (k : Int) : ((flat L).set (i * 3 + 1) (.string d)).set (i * 3 + 2) (.int .i64 k) = flat (L.set i ⟨L[i].name, d, k⟩) := by
  rw [← flat_set]
  simp only
  rw [set_same (i := i * 3) (flat_get L i hi 0 (by omega))]
end Go.Proofs.YtebkblmejkkhfaaGreatDoor
