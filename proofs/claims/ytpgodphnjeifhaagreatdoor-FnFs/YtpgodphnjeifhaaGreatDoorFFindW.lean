/- Files in a map by name: what the map reads as, told by a rising list of files. errors.Is where the target is an error of errors.New's make and the error is one too (after the kit's worked example on errors.Is). The contracts of the map's find. -/
import Derived.Test.YtpgodphnjeifhaaGreatDoorFilRightW
import Derived.Maps.OwnSet
import Derived.Maps.RangeWalk
import Derived.Sort.KeysCollected
import Derived.Test.YtpgodphnjeifhaaGreatDoorChecked
import Derived.WalkKit
import Derived.LaidEql
import Derived.Stop.Asserts
import Derived.RowKitTokens
import Derived.RegionTactic
import Derived.BigRegion
namespace Go.Proofs.YtpgodphnjeifhaaGreatDoor
open Go.RowKit
set_option linter.unusedVariables false
set_option maxRecDepth 1000000

/-- A file as a map's element reads. -/
def fileD (f : Fil) : DataW Unit := .agg [.lit (.string f.name.data.toList), .lit (.string f.data.data.toList), .lit (.int .i64 f.sync)]
def ent (f : Fil) : Lit × DataW Unit := (.string f.name.data.toList, fileD f)
/-- How an element reads. -/
def filElem : Value → Option (DataW Unit × List MemPlace)
  | .agg ⟨[.string a, .string b, .int .i64 s]⟩ => some (.agg [.lit (.string a.data.toList), .lit (.string b.data.toList), .lit (.int .i64 s)], [])
  | _ => none
theorem filElem_mk (f : Fil) : filElem f.val = some (fileD f, []) := rfl
theorem bytes_inj {a b : ByteArray} (h : a.data.toList = b.data.toList) : a = b := by
  apply ByteArray.ext
  exact Array.toList_inj.1 h
theorem filElem_inv {v : Value} {f : Fil} {ps : List MemPlace} (h : filElem v = some (fileD f, ps)) : v = f.val := by
  unfold filElem at h
  split at h
  · simp only [Option.some.injEq, Prod.mk.injEq, fileD, DataW.agg.injEq, List.cons.injEq, DataW.lit.injEq, Lit.string.injEq, Lit.int.injEq, true_and, and_true] at h
    obtain ⟨⟨h1, h2, h3⟩, _⟩ := h
    have e1 := bytes_inj h1
    have e2 := bytes_inj h2
    subst e1 e2 h3
    rfl
  · cases h
/-- A map that holds these files, each under its name. -/
def MapF (w : World) (b n : Nat) (L : List Fil) : Prop := w.ownsMap Tryz.prog 9 filElem b n (.map (L.map ent))

theorem before_eq : ∀ x y : List UInt8, bytesBefore x y = Op.bytesLess x y
  | [], [] => rfl
  | [], _ :: _ => rfl
  | _ :: _, [] => rfl
  | a :: x, b :: y => by unfold bytesBefore Op.bytesLess; rw [before_eq x y]
theorem less_iff : ∀ x y : List UInt8, Op.bytesLess x y = true ↔ x < y
  | [], [] => by simp [Op.bytesLess]
  | [], _ :: _ => by simp [Op.bytesLess]
  | _ :: _, [] => by simp [Op.bytesLess]
  | a :: x, b :: y => by
    rw [Op.bytesLess, List.cons_lt_cons_iff]
    have := less_iff x y
    simp only [Bool.or_eq_true, decide_eq_true_eq, Bool.and_eq_true, beq_iff_eq, this]
theorem lessB_iff (a b : ByteArray) : lessB a b = true ↔ a.data.toList < b.data.toList := by
  unfold lessB; rw [less_iff, Lib.toList_data, Lib.toList_data]
theorem lessB_eq (a b : ByteArray) : lessB a b = bytesBefore a.data.toList b.data.toList := by
  rw [Bool.eq_iff_iff, lessB_iff, before_eq, less_iff]
/-- Rising by name. -/
def Rising (L : List Fil) : Prop := L.Pairwise fun a b => lessB a.name b.name = true
theorem lessB_trans {a b c : ByteArray} (h1 : lessB a b = true) (h2 : lessB b c = true) : lessB a c = true := by
  rw [lessB_iff] at *; exact List.lt_trans h1 h2
theorem lessB_irrefl (a : ByteArray) : lessB a a = false := by
  cases h : lessB a a
  · rfl
  · rw [lessB_iff] at h; exact absurd h (List.lt_irrefl _)
theorem lessB_ne {a b : ByteArray} (h : lessB a b = true) : a ≠ b := by rintro rfl; rw [lessB_irrefl] at h; cases h
theorem lessB_asymm {a b : ByteArray} (h : lessB a b = true) : lessB b a = false := by
  cases h2 : lessB b a
  · rfl
  · have := lessB_trans h h2; rw [lessB_irrefl] at this; cases this
theorem lessB_total {a b : ByteArray} (h : a ≠ b) : lessB a b = true ∨ lessB b a = true := by
  rw [lessB_iff, lessB_iff]
  by_cases h1 : a.data.toList < b.data.toList
  · exact .inl h1
  · refine .inr (Classical.byContradiction fun h2 => h (bytes_inj ?_))
    exact List.le_antisymm (List.not_lt.1 h2) (List.not_lt.1 h1)
theorem rising_of_ok {L : List Fil} (h : fsOK L = true) : Rising L := by
  have h2 := (fsOK_iff.1 h).2
  have adj : ∀ i (hi : i + 1 < L.length), lessB L[i].name L[i + 1].name = true := fun i hi => (h2 (i + 1) hi).2 (by omega)
  clear h h2
  induction L with
  | nil => exact List.Pairwise.nil
  | cons f L ih =>
    have ihL := ih (fun i hi => by have := adj (i + 1) (by simpa using hi); simpa using this)
    refine List.Pairwise.cons (fun g hg => ?_) ihL
    cases L with
    | nil => cases hg
    | cons f2 L2 =>
      have h0 : lessB f.name f2.name = true := by have := adj 0 (by simp); simpa using this
      rcases List.mem_cons.1 hg with rfl | hg
      · exact h0
      · exact lessB_trans h0 ((List.pairwise_cons.1 ihL).1 g hg)
/-- A file put into its place. -/
def insF (f : Fil) : List Fil → List Fil
  | [] => [f]
  | g :: r => if lessB f.name g.name then f :: g :: r else g :: insF f r
def putL (L : List Fil) (f : Fil) : List Fil := insF f (L.filter fun g => !decide (g.name = f.name))
def delL (L : List Fil) (s : ByteArray) : List Fil := L.filter fun g => !decide (g.name = s)
theorem same_name (g : Fil) (s : ByteArray) : (ent g).1.sameKey (.string s.data.toList) = decide (g.name = s) := by
  show (g.name.data.toList == s.data.toList) = _
  rw [Bool.eq_iff_iff]
  simp only [beq_iff_eq, decide_eq_true_eq]
  exact ⟨bytes_inj, fun h => by rw [h]⟩
theorem ins_ent (f : Fil) (L : List Fil) : DataW.insert (ent f) (L.map ent) = (insF f L).map ent := by
  induction L with
  | nil => rfl
  | cons g L ih =>
    simp only [List.map_cons, DataW.insert, insF]
    have : (ent f).1.before (ent g).1 = lessB f.name g.name := (lessB_eq _ _).symm
    rw [this]
    split
    · rfl
    · rw [ih]; rfl
theorem filt_ent (L : List Fil) (s : ByteArray) : (L.map ent).filter (fun p => !p.1.sameKey (.string s.data.toList)) = (delL L s).map ent := by
  unfold delL
  rw [List.filter_map]
  congr 1
  apply List.filter_congr
  intro g _
  simp only [Function.comp_apply, same_name]
theorem put_D (L : List Fil) (f : Fil) : (DataW.map (L.map ent)).put (.string f.name.data.toList) (fileD f) = .map ((putL L f).map ent) := by
  unfold DataW.put
  simp only
  rw [filt_ent, show ((Lit.string f.name.data.toList, fileD f)) = ent f from rfl, ins_ent]
  rfl
theorem del_D (L : List Fil) (s : ByteArray) : (DataW.map (L.map ent)).del (.string s.data.toList) = .map ((delL L s).map ent) := by
  unfold DataW.del
  simp only
  rw [filt_ent]
/-- The file of a name. -/
def findF (L : List Fil) (s : ByteArray) : Option Fil := L.find? fun g => decide (g.name = s)
theorem at_D (L : List Fil) (s : ByteArray) (z : DataW Unit) : (DataW.map (L.map ent)).atKey (.string s.data.toList) z = match findF L s with | some g => fileD g | none => z := by
  unfold DataW.atKey findF
  simp only
  rw [List.find?_map]
  have : ((fun p : Lit × DataW Unit => p.1.sameKey (.string s.data.toList)) ∘ ent) = fun g => decide (g.name = s) := by funext g; exact same_name g s
  rw [this]
  cases L.find? fun g => decide (g.name = s) <;> rfl
theorem has_D (L : List Fil) (s : ByteArray) : Maps.has (DataW.map (L.map ent)) (.string s.data.toList) = (findF L s).isSome := by
  unfold Maps.has findF
  simp only
  rw [Bool.eq_iff_iff, List.any_map, List.find?_isSome, List.any_eq_true]
  simp only [Function.comp_apply, same_name]
theorem size_D (L : List Fil) : Maps.size (DataW.map (L.map ent)) = L.length := by simp [Maps.size]
end Go.Proofs.YtpgodphnjeifhaaGreatDoor

namespace Go.Proofs.YtpgodphnjeifhaaGreatDoor
open Go.RowKit Go.Extern.Stop Go.Stop Go.Extern
set_option linter.unusedVariables false
set_option maxRecDepth 1000000

theorem is_typeOf (v : Value) (w : World) : (Extern.ReflectliteType.typeOf #[.iface 148 v]).run Tryz.prog w = .ok (.iface 114 (.agg #[.pointer (some ⟨5, 148, none⟩)])) w := by kernel_rfl
theorem is_comparable (w : World) : (callFunc 129 #[.agg #[.pointer (some ⟨5, 148, none⟩)]]).run Tryz.prog w = .ok (.value (.bool true)) w := by
  rw [@run_callFunc_extern Tryz.prog 129 _ (Extern.ReflectliteType.method fun t => do Extern.Rtype.noPackHeld "Comparable" t; pure (.bool (← typeInfo t).comparable)) Tryz.func129 (by kernel_rfl) (by kernel_rfl) (by kernel_rfl) (by kernel_rfl)]
  kernel_rfl
theorem is_method (v : Value) (w : World) : (Go.method 282 114 v "Comparable").run Tryz.prog w = .ok (129, v) w := by kernel_rfl
theorem is_comp : (Tryz.prog.info? 148).map (·.comparable) = some true := by kernel_rfl
theorem is_size : (Tryz.prog.info? 171).map (·.size) = some 1 := by kernel_rfl
theorem is_noIs (v : Value) (xT : TypeId) (w : World) : (Instr.typeAssert (.iface 148 v) xT 116 true).run Tryz.prog w = .ok (.tuple #[.nilIface, .bool false]) w := run_typeAssert_lacksB Tryz.underlying116 (by kernel_rfl) (by kernel_rfl) v xT w
theorem is_noUnwrap (v : Value) (xT : TypeId) (w : World) : (Instr.typeAssert (.iface 148 v) xT 119 true).run Tryz.prog w = .ok (.tuple #[.nilIface, .bool false]) w := run_typeAssert_lacksB Tryz.underlying119 (by kernel_rfl) (by kernel_rfl) v xT w
theorem is_noUnwraps (v : Value) (xT : TypeId) (w : World) : (Instr.typeAssert (.iface 148 v) xT 121 true).run Tryz.prog w = .ok (.tuple #[.nilIface, .bool false]) w := run_typeAssert_lacksB Tryz.underlying121 (by kernel_rfl) (by kernel_rfl) v xT w

/-- An error of errors.New's make. -/
abbrev errV (a : Addr) : Value := .iface 148 (.pointer (some a))

theorem is_same (a : Addr) (w : World) : Calls Tryz.prog 75 #[errV a, errV a] w fun e w' => e = .returned (.bool true) ∧ w' = w := by
  obtain ⟨i, hi, hcmp⟩ := Option.map_eq_some_iff.1 is_comp
  obtain ⟨j, hj, hjs⟩ := Option.map_eq_some_iff.1 is_size
  have h8 := @run_callFunc_extern Tryz.prog 85 _ Extern.ReflectliteType.typeOf Tryz.func85 (by kernel_rfl) (by kernel_rfl) (by kernel_rfl) (by kernel_rfl)
  have tT := is_typeOf
  have cT := is_comparable
  have mR := is_method
  have heq := run_eql_iface_ptr_same (P := Tryz.prog) w a Tryz.underlying64 Tryz.underlying148 hi hcmp hj
  go_enter Tryz.func75, Tryz.ntmps75
  go_wp2
  refine wp_loop_rounds 1 ?_
  rw [rounds_succ]
  go_wp2
  go_ret
  exact ⟨rfl, rfl⟩

theorem is_nil (b : Addr) (w : World) : Calls Tryz.prog 75 #[.nilIface, errV b] w fun e w' => e = .returned (.bool false) ∧ w' = w := by
  have hn := run_eql_iface_nil_left (P := Tryz.prog) w 148 (.pointer (some b)) Tryz.underlying64
  go_enter Tryz.func75, Tryz.ntmps75
  go_wp2
  go_ret
  exact ⟨rfl, rfl⟩

theorem is_other (a b : Addr) (ca cb : Array Value) (ta tb : TypeId) (w : World) (hne : a ≠ b) (ha : w.heap[a.block]? = some (.cells ca ta (0, 0))) (hb : w.heap[b.block]? = some (.cells cb tb (0, 0))) :
    Calls Tryz.prog 75 #[errV a, errV b] w fun e w' => e = .returned (.bool false) ∧ w' = w := by
  obtain ⟨i, hi, hcmp⟩ := Option.map_eq_some_iff.1 is_comp
  obtain ⟨j, hj, hjs⟩ := Option.map_eq_some_iff.1 is_size
  have h8 := @run_callFunc_extern Tryz.prog 85 _ Extern.ReflectliteType.typeOf Tryz.func85 (by kernel_rfl) (by kernel_rfl) (by kernel_rfl) (by kernel_rfl)
  have tT := is_typeOf
  have cT := is_comparable
  have mR := is_method
  have nE := is_noIs
  have uE := is_noUnwrap
  have vE := is_noUnwraps
  have heq := run_eql_iface_ptr_other (P := Tryz.prog) w Tryz.underlying64 Tryz.underlying148 hi hcmp hj (by rw [hjs]; decide) hne ha hb
  go_enter Tryz.func75, Tryz.ntmps75
  go_wp2
  refine wp_loop_rounds 1 ?_
  rw [rounds_succ]
  go_wp2
  go_ret
  exact ⟨rfl, rfl⟩

/-- What is known of the package's five errors: the variables' cells, and that no two are one. -/
def Errs (w : World) (a0 a1 a2 a3 a4 : Addr) : Prop :=
  (w.cell? ⟨1, 0, none⟩ = some (errV a0) ∧ w.cell? ⟨2, 0, none⟩ = some (errV a1) ∧ w.cell? ⟨3, 0, none⟩ = some (errV a2) ∧ w.cell? ⟨4, 0, none⟩ = some (errV a3) ∧ w.cell? ⟨0, 0, none⟩ = some (errV a4)) ∧
  (∀ a ∈ [a0, a1, a2, a3, a4], ∃ c t, w.heap[a.block]? = some (.cells c t (0, 0))) ∧ [a0, a1, a2, a3, a4].Pairwise (· ≠ ·)
/-- The five errors' places lie below block B. -/
theorem Errs.below {w w' : World} {a0 a1 a2 a3 a4 : Addr} (h : Errs w a0 a1 a2 a3 a4) (hb : Below w.heap.size w w') : Errs w' a0 a1 a2 a3 a4 := by
  obtain ⟨⟨h0, h1, h2, h3, h4⟩, hc, hp⟩ := h
  have k : ∀ {a : Addr} {v : Value}, w.cell? a = some v → w'.cell? a = some v := fun {a v} hc => by
    rw [← hc]; exact World.cell?_of_block (hb.block _ (World.block_lt_of_cell? w a hc))
  refine ⟨⟨k h0, k h1, k h2, k h3, k h4⟩, fun a ha => ?_, hp⟩
  obtain ⟨c, t, e⟩ := hc a ha
  exact ⟨c, t, (hb.block _ (Array.getElem?_eq_some_iff.1 e).1).trans e⟩

set_option maxHeartbeats 4000000 in
/-- fileCode of each of the five errors. -/
theorem fileCode_any (a0 a1 a2 a3 a4 : Addr) (w : World) (h : Errs w a0 a1 a2 a3 a4) (i : Nat) (a : Addr) (hi : [a0, a1, a2, a3, a4][i]? = some a) :
    Calls Tryz.prog 48 #[errV a] w fun e w' => e = .returned (.int .i64 ([2, 1, 6, 8, 9].getD i 0)) ∧ w' = w := by
  obtain ⟨⟨h0, h1, h2, h3, h4⟩, hc, hp⟩ := h
  simp only [List.mem_cons, List.not_mem_nil, or_false, forall_eq_or_imp, forall_eq] at hc
  obtain ⟨⟨c0, t0, b0⟩, ⟨c1, t1, b1⟩, ⟨c2, t2, b2⟩, ⟨c3, t3, b3⟩, ⟨c4, t4, b4⟩⟩ := hc
  simp only [List.pairwise_cons, List.mem_cons, List.not_mem_nil, or_false, forall_eq_or_imp, forall_eq] at hp
  obtain ⟨⟨n01, n02, n03, n04⟩, ⟨n12, n13, n14⟩, ⟨n23, n24⟩, n34, _⟩ := hp
  match i, hi with
  | 0, hi =>
    obtain rfl : a0 = a := by simpa using hi
    go_enter Tryz.func48, Tryz.ntmps48
    go_wp2_with (fail)
    refine (is_same a0 _).mono ?_
    rintro e w' ⟨rfl, rfl⟩
    go_wp2
    go_ret
    exact ⟨rfl, rfl⟩
  | 1, hi =>
    obtain rfl : a1 = a := by simpa using hi
    go_enter Tryz.func48, Tryz.ntmps48
    go_wp2_with (fail)
    refine (is_other a1 a0 c1 c0 t1 t0 _ (Ne.symm n01) b1 b0).mono ?_
    rintro e w' ⟨rfl, rfl⟩
    go_wp2_with (fail)
    refine (is_other a1 a2 c1 c2 t1 t2 _ n12 b1 b2).mono ?_
    rintro e w' ⟨rfl, rfl⟩
    go_wp2_with (fail)
    refine (is_other a1 a3 c1 c3 t1 t3 _ n13 b1 b3).mono ?_
    rintro e w' ⟨rfl, rfl⟩
    go_wp2_with (fail)
    refine (is_other a1 a4 c1 c4 t1 t4 _ n14 b1 b4).mono ?_
    rintro e w' ⟨rfl, rfl⟩
    go_wp2
    go_ret
    exact ⟨rfl, rfl⟩
  | 2, hi =>
    obtain rfl : a2 = a := by simpa using hi
    go_enter Tryz.func48, Tryz.ntmps48
    go_wp2_with (fail)
    refine (is_other a2 a0 c2 c0 t2 t0 _ (Ne.symm n02) b2 b0).mono ?_
    rintro e w' ⟨rfl, rfl⟩
    go_wp2_with (fail)
    refine (is_same a2 _).mono ?_
    rintro e w' ⟨rfl, rfl⟩
    go_wp2
    go_ret
    exact ⟨rfl, rfl⟩
  | 3, hi =>
    obtain rfl : a3 = a := by simpa using hi
    go_enter Tryz.func48, Tryz.ntmps48
    go_wp2_with (fail)
    refine (is_other a3 a0 c3 c0 t3 t0 _ (Ne.symm n03) b3 b0).mono ?_
    rintro e w' ⟨rfl, rfl⟩
    go_wp2_with (fail)
    refine (is_other a3 a2 c3 c2 t3 t2 _ (Ne.symm n23) b3 b2).mono ?_
    rintro e w' ⟨rfl, rfl⟩
    go_wp2_with (fail)
    refine (is_same a3 _).mono ?_
    rintro e w' ⟨rfl, rfl⟩
    go_wp2
    go_ret
    exact ⟨rfl, rfl⟩
  | 4, hi =>
    obtain rfl : a4 = a := by simpa using hi
    go_enter Tryz.func48, Tryz.ntmps48
    go_wp2_with (fail)
    refine (is_other a4 a0 c4 c0 t4 t0 _ (Ne.symm n04) b4 b0).mono ?_
    rintro e w' ⟨rfl, rfl⟩
    go_wp2_with (fail)
    refine (is_other a4 a2 c4 c2 t4 t2 _ (Ne.symm n24) b4 b2).mono ?_
    rintro e w' ⟨rfl, rfl⟩
    go_wp2_with (fail)
    refine (is_other a4 a3 c4 c3 t4 t3 _ (Ne.symm n34) b4 b3).mono ?_
    rintro e w' ⟨rfl, rfl⟩
    go_wp2_with (fail)
    refine (is_same a4 _).mono ?_
    rintro e w' ⟨rfl, rfl⟩
    go_wp2
    go_ret
    exact ⟨rfl, rfl⟩
end Go.Proofs.YtpgodphnjeifhaaGreatDoor

namespace Go.Proofs.YtpgodphnjeifhaaGreatDoor
open Go.RowKit
set_option linter.unusedVariables false
set_option maxRecDepth 1000000

theorem zeroFile (w : World) : (zeroValue 53).run Tryz.prog w = .ok zeroFil.val w := Tryz.zeroValue53 w
theorem keyed : Maps.Keyed Tryz.prog 9 := Maps.string_keyed Tryz.underlying9
theorem key_mk {s : ByteArray} (hs : s.size ≤ maxLen) : keyOf Tryz.prog 9 (.string s) = some (.string s.data.toList) := WideMaps.keyOf_string_mk Tryz.underlying9 hs

set_option maxHeartbeats 1000000 in
set_option maxRecDepth 1000000 in
theorem find_some (b n : Nat) (L : List Fil) (s : ByteArray) (f : Fil) (w : World) (hM : MapF w b n L) (hs : s.size ≤ maxLen) (hf : findF L s = some f) :
    Calls Tryz.prog 49 #[.map (some b), .string s] w fun e w' => e = .returned (.tuple #[f.val, .nilIface]) ∧ Below w.heap.size w w' := by
  have hM1 := World.ownsMap.alloc hM (.cells #[.string ⟨#[]⟩, .string ⟨#[]⟩, .int .i64 0] 53)
  go_enter Tryz.func49, Tryz.ntmps49
  go_wp2_with (at_lookup; refine wpList_lookup_own_ok _ rfl _ _ 62 rfl 9 53 keyed Tryz.underlying62 _ (zeroFile _) (fileD zeroFil) [] (filElem_mk _) b n _ rfl hM1 _ _ rfl (key_mk hs) ?_)
  intro v ps hv
  rw [at_D, hf] at hv
  have hv' := filElem_inv hv
  have hh : Maps.has (DataW.map (L.map ent)) (.string s.data.toList) = true := by rw [has_D, hf]; rfl
  rw [hh, hv']
  unfold Fil.val
  go_wp2
  refine bodyPost_ret (v := .tuple #[f.val, .nilIface]) (by simp [results, Tryz.results49, go_sem, Fil.val]) rfl ⟨rfl, ?_⟩
  exact ((Below.refl _ _).alloc (Nat.le_refl _) _).alloc (by simp) _

set_option maxHeartbeats 1000000 in
set_option maxRecDepth 1000000 in
theorem find_none (b n : Nat) (L : List Fil) (s : ByteArray) (a0 a1 a2 a3 a4 : Addr) (w : World) (hM : MapF w b n L) (hs : s.size ≤ maxLen) (hE : Errs w a0 a1 a2 a3 a4) (hf : findF L s = none) :
    Calls Tryz.prog 49 #[.map (some b), .string s] w fun e w' => e = .returned (.tuple #[zeroFil.val, errV a2]) ∧ Below w.heap.size w w' := by
  have hM1 := World.ownsMap.alloc hM (.cells #[.string ⟨#[]⟩, .string ⟨#[]⟩, .int .i64 0] 53)
  have hb0 : Below w.heap.size w ((w.alloc (.cells #[.string ⟨#[]⟩, .string ⟨#[]⟩, .int .i64 0] 53)).alloc (.cells #[.string ⟨#[]⟩, .string ⟨#[]⟩, .int .i64 0] 53)) := ((Below.refl _ _).alloc (Nat.le_refl _) _).alloc (by simp) _
  have e2 := (hE.below hb0).1.2.2.1
  go_enter Tryz.func49, Tryz.ntmps49
  go_wp2_with (at_lookup; refine wpList_lookup_own_ok _ rfl _ _ 62 rfl 9 53 keyed Tryz.underlying62 _ (zeroFile _) (fileD zeroFil) [] (filElem_mk _) b n _ rfl hM1 _ _ rfl (key_mk hs) ?_)
  intro v ps hv
  rw [at_D, hf] at hv
  have hv' := filElem_inv hv
  have hh : Maps.has (DataW.map (L.map ent)) (.string s.data.toList) = false := by rw [has_D, hf]; rfl
  rw [hh, hv']
  unfold Fil.val zeroFil
  go_wp2
  go_region
  go_wp2
  have hk := ((Blk.fresh w 53 [.string ⟨#[]⟩, .string ⟨#[]⟩, .int .i64 0]).alloc (.cells #[.string ⟨#[]⟩, .string ⟨#[]⟩, .int .i64 0] 53)).drew
  have d0 := hk.cell (i := 0) rfl
  have d1 := hk.cell (i := 1) rfl
  have d2 := hk.cell (i := 2) rfl
  refine bodyPost_ret (v := .tuple #[zeroFil.val, errV a2]) (by simp [results, Tryz.results49, go_sem, Fil.val, zeroFil, d0, d1, d2]) rfl ⟨rfl, ?_⟩
  exact below_drew hb0

theorem tooLong_any (s : ByteArray) (w : World) (hs : s.size ≤ maxLen) : Calls Tryz.prog 38 #[.string s] w fun e w' => e = .returned (.bool (decide (20000 < s.size))) ∧ w' = w := by
  unfold maxLen at hs
  go_enter Tryz.func38, Tryz.ntmps38
  go_wp2
  go_ret
  exact ⟨retB (by simp; omega), rfl⟩
end Go.Proofs.YtpgodphnjeifhaaGreatDoor
