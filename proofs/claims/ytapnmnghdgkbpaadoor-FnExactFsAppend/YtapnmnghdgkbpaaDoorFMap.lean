/- Files in a map by name: what the map reads as, told by a rising list of files. -/
import Derived.Test.YtapnmnghdgkbpaaDoorFilRight
import Derived.Maps.OwnSet
import Derived.Maps.RangeWalk
import Derived.Sort.KeysCollected
namespace Go.Proofs.YtapnmnghdgkbpaaDoor
open Go.RowKit
set_option linter.unusedVariables false
set_option maxRecDepth 1000000

/-- A file as a map's element reads. -/
def fileD (f : Fil) : DataW Unit := .agg [.lit (.string f.name.data.toList), .lit (.string f.data.data.toList), .lit (.int .i64 f.sync)]
def ent (f : Fil) : Lit × DataW Unit := (.string f.name.data.toList, fileD f)
/-- How an element reads. -/
def filElem : Value → Option (DataW Unit × List MemPlace)
  | .agg ⟨[.string a, .string b, .int .i64 s]⟩ => some (.agg [.lit (.string a.data.toList), .lit (.string b.data.toList), .lit (.int .i64 s)], [])
  | _ => none
theorem filElem_mk (f : Fil) : filElem f.val = some (fileD f, []) := rfl
theorem bytes_inj {a b : ByteArray} (h : a.data.toList = b.data.toList) : a = b := by
  apply ByteArray.ext
  exact Array.toList_inj.1 h
theorem filElem_inv {v : Value} {f : Fil} {ps : List MemPlace} (h : filElem v = some (fileD f, ps)) : v = f.val := by
  unfold filElem at h
  split at h
  · simp only [Option.some.injEq, Prod.mk.injEq, fileD, DataW.agg.injEq, List.cons.injEq, DataW.lit.injEq, Lit.string.injEq, Lit.int.injEq, true_and, and_true] at h
    obtain ⟨⟨h1, h2, h3⟩, _⟩ := h
    have e1 := bytes_inj h1
    have e2 := bytes_inj h2
    subst e1 e2 h3
    rfl
  · cases h
/-- A map that holds these files, each under its name. -/
def MapF (w : World) (b n : Nat) (L : List Fil) : Prop := w.ownsMap Tryd.prog 9 filElem b n (.map (L.map ent))

theorem before_eq : ∀ x y : List UInt8, bytesBefore x y = Op.bytesLess x y
  | [], [] => rfl
  | [], _ :: _ => rfl
  | _ :: _, [] => rfl
  | a :: x, b :: y => by unfold bytesBefore Op.bytesLess; rw [before_eq x y]
theorem less_iff : ∀ x y : List UInt8, Op.bytesLess x y = true ↔ x < y
  | [], [] => by simp [Op.bytesLess]
  | [], _ :: _ => by simp [Op.bytesLess]
  | _ :: _, [] => by simp [Op.bytesLess]
  | a :: x, b :: y => by
    rw [Op.bytesLess, List.cons_lt_cons_iff]
    have := less_iff x y
    simp only [Bool.or_eq_true, decide_eq_true_eq, Bool.and_eq_true, beq_iff_eq, this]
theorem lessB_iff (a b : ByteArray) : lessB a b = true ↔ a.data.toList < b.data.toList := by
  unfold lessB; rw [less_iff, Lib.toList_data, Lib.toList_data]
theorem lessB_eq (a b : ByteArray) : lessB a b = bytesBefore a.data.toList b.data.toList := by
  rw [Bool.eq_iff_iff, lessB_iff, before_eq, less_iff]
/-- Rising by name. -/
def Rising (L : List Fil) : Prop := L.Pairwise fun a b => lessB a.name b.name = true
theorem lessB_trans {a b c : ByteArray} (h1 : lessB a b = true) (h2 : lessB b c = true) : lessB a c = true := by
  rw [lessB_iff] at *; exact List.lt_trans h1 h2
theorem lessB_irrefl (a : ByteArray) : lessB a a = false := by
  cases h : lessB a a
  · rfl
  · rw [lessB_iff] at h; exact absurd h (List.lt_irrefl _)
theorem lessB_ne {a b : ByteArray} (h : lessB a b = true) : a ≠ b := by rintro rfl; rw [lessB_irrefl] at h; cases h
theorem lessB_asymm {a b : ByteArray} (h : lessB a b = true) : lessB b a = false := by
  cases h2 : lessB b a
  · rfl
  · have := lessB_trans h h2; rw [lessB_irrefl] at this; cases this
theorem lessB_total {a b : ByteArray} (h : a ≠ b) : lessB a b = true ∨ lessB b a = true := by
  rw [lessB_iff, lessB_iff]
  by_cases h1 : a.data.toList < b.data.toList
  · exact .inl h1
  · refine .inr (Classical.byContradiction fun h2 => h (bytes_inj ?_))
    exact List.le_antisymm (List.not_lt.1 h2) (List.not_lt.1 h1)
theorem rising_of_ok {L : List Fil} (h : fsOK L = true) : Rising L := by
  have h2 := (fsOK_iff.1 h).2
  have adj : ∀ i (hi : i + 1 < L.length), lessB L[i].name L[i + 1].name = true := fun i hi => (h2 (i + 1) hi).2 (by omega)
  clear h h2
  induction L with
  | nil => exact List.Pairwise.nil
  | cons f L ih =>
    have ihL := ih (fun i hi => by have := adj (i + 1) (by simpa using hi); simpa using this)
    refine List.Pairwise.cons (fun g hg => ?_) ihL
    cases L with
    | nil => cases hg
    | cons f2 L2 =>
      have h0 : lessB f.name f2.name = true := by have := adj 0 (by simp); simpa using this
      rcases List.mem_cons.1 hg with rfl | hg
      · exact h0
      · exact lessB_trans h0 ((List.pairwise_cons.1 ihL).1 g hg)
/-- A file put into its place. -/
def insF (f : Fil) : List Fil → List Fil
  | [] => [f]
  | g :: r => if lessB f.name g.name then f :: g :: r else g :: insF f r
def putL (L : List Fil) (f : Fil) : List Fil := insF f (L.filter fun g => !decide (g.name = f.name))
def delL (L : List Fil) (s : ByteArray) : List Fil := L.filter fun g => !decide (g.name = s)
theorem same_name (g : Fil) (s : ByteArray) : (ent g).1.sameKey (.string s.data.toList) = decide (g.name = s) := by
  show (g.name.data.toList == s.data.toList) = _
  rw [Bool.eq_iff_iff]
  simp only [beq_iff_eq, decide_eq_true_eq]
  exact ⟨bytes_inj, fun h => by rw [h]⟩
theorem ins_ent (f : Fil) (L : List Fil) : DataW.insert (ent f) (L.map ent) = (insF f L).map ent := by
  induction L with
  | nil => rfl
  | cons g L ih =>
    simp only [List.map_cons, DataW.insert, insF]
    have : (ent f).1.before (ent g).1 = lessB f.name g.name := (lessB_eq _ _).symm
    rw [this]
    split
    · rfl
    · rw [ih]; rfl
theorem filt_ent (L : List Fil) (s : ByteArray) : (L.map ent).filter (fun p => !p.1.sameKey (.string s.data.toList)) = (delL L s).map ent := by
  unfold delL
  rw [List.filter_map]
  congr 1
  apply List.filter_congr
  intro g _
  simp only [Function.comp_apply, same_name]
theorem put_D (L : List Fil) (f : Fil) : (DataW.map (L.map ent)).put (.string f.name.data.toList) (fileD f) = .map ((putL L f).map ent) := by
  unfold DataW.put
  simp only
  rw [filt_ent, show ((Lit.string f.name.data.toList, fileD f)) = ent f from rfl, ins_ent]
  rfl
theorem del_D (L : List Fil) (s : ByteArray) : (DataW.map (L.map ent)).del (.string s.data.toList) = .map ((delL L s).map ent) := by
  unfold DataW.del
  simp only
  rw [filt_ent]
/-- The file of a name. -/
def findF (L : List Fil) (s : ByteArray) : Option Fil := L.find? fun g => decide (g.name = s)
theorem at_D (L : List Fil) (s : ByteArray) (z : DataW Unit) : (DataW.map (L.map ent)).atKey (.string s.data.toList) z = match findF L s with | some g => fileD g | none => z := by
  unfold DataW.atKey findF
  simp only
  rw [List.find?_map]
  have : ((fun p : Lit × DataW Unit => p.1.sameKey (.string s.data.toList)) ∘ ent) = fun g => decide (g.name = s) := by funext g; exact same_name g s
  rw [this]
  cases L.find? fun g => decide (g.name = s) <;> rfl
theorem has_D (L : List Fil) (s : ByteArray) : Maps.has (DataW.map (L.map ent)) (.string s.data.toList) = (findF L s).isSome := by
  unfold Maps.has findF
  simp only
  rw [Bool.eq_iff_iff, List.any_map, List.find?_isSome, List.any_eq_true]
  simp only [Function.comp_apply, same_name]
theorem size_D (L : List Fil) : Maps.size (DataW.map (L.map ent)) = L.length := by simp [Maps.size]
end Go.Proofs.YtapnmnghdgkbpaaDoor
