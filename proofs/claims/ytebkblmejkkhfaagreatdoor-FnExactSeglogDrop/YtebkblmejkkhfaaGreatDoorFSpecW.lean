/- What the exact laws do with a SeglogOut. Files in a map by name: what the map reads as, told by a rising list of files. The specification's search for a file. -/
import Derived.Test.YtebkblmejkkhfaaGreatDoorChgW
import Derived.Test.YtebkblmejkkhfaaGreatDoorStrArgW
import Derived.Test.YtebkblmejkkhfaaGreatDoorFilRightW
import Derived.Maps.OwnSet
import Derived.Maps.RangeWalk
import Derived.Sort.KeysCollected
namespace Go.Proofs.YtebkblmejkkhfaaGreatDoor
open Go.RowKit
set_option linter.unusedVariables false
set_option maxRecDepth 1000000

abbrev slOut (v : Value) (f m : Int) (u : Value) (co : Int) : Value := .agg #[v, .int .i64 f, .int .i64 m, u, .int .i64 co]
set_option maxHeartbeats 2000000 in
theorem eqSeglogOut_same (A B : Option Addr) (M : List Fil) (c d : Nat) (f m : Int) (S T : Option Addr) (N : List ByteArray) (x y : Nat) (co : Int) (w : World) (hA : Fls w w.heap.size A M) (hB : Fls w w.heap.size B M) (hS : Strs w w.heap.size S N) (hT : Strs w w.heap.size T N) :
    Calls Tryz.prog 43 #[slOut (.slice A M.length c) f m (.slice S N.length x) co, slOut (.slice B M.length d) f m (.slice T N.length y) co] w fun e w' => e = .returned (.bool true) ∧ Below w.heap.size w w' := by
  have h0 := (Blk.fresh w 63 [.slice A M.length c, .int .i64 f, .int .i64 m, .slice S N.length x, .int .i64 co]).alloc (.cells #[.slice B M.length d, .int .i64 f, .int .i64 m, .slice T N.length y, .int .i64 co] 63)
  have h1 := Blk.fresh (w.alloc (.cells #[.slice A M.length c, .int .i64 f, .int .i64 m, .slice S N.length x, .int .i64 co] 63)) 63 [.slice B M.length d, .int .i64 f, .int .i64 m, .slice T N.length y, .int .i64 co]
  have hb0 : Below w.heap.size w ((w.alloc (.cells #[.slice A M.length c, .int .i64 f, .int .i64 m, .slice S N.length x, .int .i64 co] 63)).alloc (.cells #[.slice B M.length d, .int .i64 f, .int .i64 m, .slice T N.length y, .int .i64 co] 63)) := ((Below.refl _ w).alloc (Nat.le_refl _) _).alloc (by simp) _
  simp only [List.toArray, World.size_alloc] at h0 h1
  have HE := Lib.hid (eqSeglog_same A B M c d f m _ ((hA.below hb0 (Nat.le_refl _)).mono hb0.size) ((hB.below hb0 (Nat.le_refl _)).mono hb0.size))
  have HT := Lib.hid (fun W (h : Below w.heap.size w W) => eqStringS_same S T N x y W ((hS.below h (Nat.le_refl _)).mono h.size) ((hT.below h (Nat.le_refl _)).mono h.size))
  go_enter Tryz.func43, Tryz.ntmps43
  go_wp2_with (fail)
  refine HE.out.mono ?_
  rintro e w1 ⟨rfl, hb1⟩
  clear HE
  have g0 := h0.below hb1 h0.lt
  have g1 := h1.below hb1 h1.lt
  have hw1 := hb0.trans (hb1.mono hb0.size)
  clear h0 h1 hb0 hb1
  have k3 := g0.cell (i := 3) rfl
  have l3 := g1.cell (i := 3) rfl
  go_wp2_with (fail)
  refine (HT.out _ hw1).mono ?_
  rintro e w2 ⟨rfl, hb2⟩
  have p0 := g0.below hb2 g0.lt
  have p1 := g1.below hb2 g1.lt
  have k4 := p0.cell (i := 4) rfl
  have l4 := p1.cell (i := 4) rfl
  clear k3 l3
  go_wp2
  go_ret
  exact ⟨rfl, hw1.trans (hb2.mono hw1.size)⟩
theorem rows_apart {w : World} {lo hi lo' hi' : Nat} {u v : Value} {n p : Nat} {xs ys : List Value} (h : Rw w lo hi 53 3 u n xs) (h2 : Rw w lo' hi' 9 1 v p ys) : ∀ k, v.ownBlock = some k → u.ownBlock ≠ some k := by
  intro k hv hu
  rcases h.1.2 with ⟨he, _⟩ | ⟨g, cap, cur, he, _, hg, _⟩
  · rw [he] at hu; cases hu
  · rcases h2.1.2 with ⟨he2, _⟩ | ⟨g2, cap2, cur2, he2, _, hg2, _⟩
    · rw [he2] at hv; cases hv
    · rw [he] at hu; rw [he2] at hv
      cases hu; cases hv
      rw [hg] at hg2
      injection hg2 with hg2
      injection hg2 with _ ht _
      exact absurd ht (by decide)
set_option maxHeartbeats 2000000 in
theorem markSeglogOut_rw (A : Option Addr) (M : List Fil) (c : Nat) (B : Option Addr) (N : List ByteArray) (d lo hi k : Nat) (f m co : Int) (w : World) (h : Rw w lo hi 53 3 (.slice A M.length c) M.length (flat M)) (h2 : Rw w lo hi 9 1 (.slice B N.length d) N.length (N.map Value.string)) (hf : ∀ f ∈ M, f.fits) (h0 : 1 ≤ k) (h1 : k + 3 * M.length + N.length ≤ 4000000) :
    Calls Tryz.prog 46 #[slOut (.slice A M.length c) f m (.slice B N.length d) co, .int .i64 k] w fun e w' => e = .returned (.int .i64 ((k + 3 * M.length + N.length : Nat) : Int)) ∧
      Rw w' lo hi 53 3 (.slice A M.length c) (markL M.length k).length (flat (markL M.length k)) ∧ Rw w' lo hi 9 1 (.slice B N.length d) (markN N.length (k + 3 * M.length)).length ((markN N.length (k + 3 * M.length)).map Value.string) ∧ Chg w w' lo hi ∧ (∀ f ∈ markL M.length k, f.fits) := by
  have hb0 : Below w.heap.size w (w.alloc (.cells #[.slice A M.length c, .int .i64 f, .int .i64 m, .slice B N.length d, .int .i64 co] 63)) := (Below.refl _ w).alloc (Nat.le_refl _) _
  have k0 := Blk.fresh w 63 [.slice A M.length c, .int .i64 f, .int .i64 m, .slice B N.length d, .int .i64 co]
  have hxr := h.atA
  have hyr := h2.atA
  have hhi : ∀ k, (Value.slice A M.length c).ownBlock = some k → k < w.heap.size := fun k e => (h.1.lt k e).2
  have hap := rows_apart h h2
  have hB := h.below hb0
  have hB2 := h2.below hb0
  simp only [List.toArray] at k0
  obtain ⟨j, HJ⟩ : ∃ j, Hid (k + 3 * M.length = j) := ⟨_, Lib.hid rfl⟩
  have HM := markSeglog_rw A M c lo hi k f m _ hB hf h0 (by omega)
  rw [HJ.out] at HM
  have hj : 1 ≤ j ∧ j + N.length ≤ 4000000 := by have := HJ.out; omega
  rw [HJ.out]
  have HMH := Lib.hid HM
  clear HM h1
  go_enter Tryz.func46, Tryz.ntmps46
  go_wp2_with (fail)
  refine HMH.out.mono ?_
  rintro e w1 ⟨rfl, hX, hg, hff⟩
  have hA1 := own_blk A M.length c
  have hne : (Value.slice B N.length d).ownBlock = none ∨ (Value.slice B N.length d).ownBlock ≠ A.map (·.block) := by
    cases hv : (Value.slice B N.length d).ownBlock with
    | none => exact .inl rfl
    | some q => exact .inr fun e => hap q hv (by rw [hA1]; exact e.symm)
  have hY : Rw w1 lo hi 9 1 (.slice B N.length d) N.length (N.map Value.string) := ⟨hB2.1.kept hg hne, h2.2⟩
  have k1 : Blk w1 w.heap.size 63 [.slice A M.length c, .int .i64 f, .int .i64 m, .slice B N.length d, .int .i64 co] := k0.grown hg (fun e => by have := hhi w.heap.size (by rw [hA1]; exact e.symm); omega)
  have hc1 : Chg w w1 lo hi := Chg.after hb0 (Chg.of hg hxr)
  clear HMH
  have k3 := k1.cell (i := 3) rfl
  go_wp2_with (fail)
  refine (markS_rw B N d lo hi j w1 hY hj.1 hj.2).mono ?_
  rintro e w2 ⟨rfl, hZ, hg2⟩
  have hne2 : (Value.slice A M.length c).ownBlock = none ∨ (Value.slice A M.length c).ownBlock ≠ B.map (·.block) := by
    cases hv : (Value.slice A M.length c).ownBlock with
    | none => exact .inl rfl
    | some q => exact .inr fun e => hap q (by rw [own_blk B N.length d]; exact e.symm) hv
  have hX2 : Rw w2 lo hi 53 3 (.slice A M.length c) (markL M.length k).length (flat (markL M.length k)) := ⟨hX.1.kept hg2 hne2, hX.2⟩
  clear k3
  go_wp2
  go_ret
  exact ⟨rfl, hX2, hZ, hc1.trans (Chg.of hg2 hyr), hff⟩
set_option maxHeartbeats 2000000 in
theorem heldSeglogOut_any (A : Option Addr) (n c : Nat) (B : Option Addr) (p d k : Nat) (f m co : Int) (w : World) (hF : Fls w w.heap.size A (markL n k)) (hS : Strs w w.heap.size B (markN p (k + 3 * n))) (h0 : 1 ≤ k) (h1 : k + 3 * n + p ≤ 4000000) :
    Calls Tryz.prog 47 #[slOut (.slice A n c) f m (.slice B p d) co, .int .i64 k] w fun e w' => e = .returned (.int .i64 ((k + 3 * n + p : Nat) : Int)) ∧ Below w.heap.size w w' := by
  have hb0 : Below w.heap.size w (w.alloc (.cells #[.slice A n c, .int .i64 f, .int .i64 m, .slice B p d, .int .i64 co] 63)) := (Below.refl _ w).alloc (Nat.le_refl _) _
  have k0 := Blk.fresh w 63 [.slice A n c, .int .i64 f, .int .i64 m, .slice B p d, .int .i64 co]
  simp only [List.toArray] at k0
  obtain ⟨j, HJ⟩ : ∃ j, Hid (k + 3 * n = j) := ⟨_, Lib.hid rfl⟩
  have HM := heldSeglog_any A n c k f m _ ((hF.below hb0 (Nat.le_refl _)).mono hb0.size) h0 (by omega)
  rw [HJ.out] at HM hS ⊢
  have hj : 1 ≤ j ∧ j + p ≤ 4000000 := by have := HJ.out; omega
  have hj' : ¬ ((j : Int) < 0) := by omega
  have hjp : ¬ (((j + p : Nat) : Int) < 0) := by omega
  have HMH := Lib.hid HM
  have HT := Lib.hid (fun W (h : Below w.heap.size w W) => heldStringS_any B p d j W ((hS.below h (Nat.le_refl _)).mono h.size) hj.1 hj.2)
  clear HM h1
  go_enter Tryz.func47, Tryz.ntmps47
  go_wp2_with (fail)
  refine HMH.out.mono ?_
  rintro e w1 ⟨rfl, hb1⟩
  have hw1 := hb0.trans (hb1.mono hb0.size)
  have k1 := k0.below hb1 k0.lt
  have k3 := k1.cell (i := 3) rfl
  clear HMH
  go_wp2_with (fail)
  refine (HT.out _ hw1).mono ?_
  rintro e w2 ⟨rfl, hb2⟩
  go_wp2
  go_ret
  exact ⟨rfl, hw1.trans (hb2.mono hw1.size)⟩
end Go.Proofs.YtebkblmejkkhfaaGreatDoor

namespace Go.Proofs.YtebkblmejkkhfaaGreatDoor
open Go.RowKit
set_option linter.unusedVariables false
set_option maxRecDepth 1000000

/-- A file as a map's element reads. -/
def fileD (f : Fil) : DataW Unit := .agg [.lit (.string f.name.data.toList), .lit (.string f.data.data.toList), .lit (.int .i64 f.sync)]
def ent (f : Fil) : Lit × DataW Unit := (.string f.name.data.toList, fileD f)
/-- How an element reads. -/
def filElem : Value → Option (DataW Unit × List MemPlace)
  | .agg ⟨[.string a, .string b, .int .i64 s]⟩ => some (.agg [.lit (.string a.data.toList), .lit (.string b.data.toList), .lit (.int .i64 s)], [])
  | _ => none
theorem filElem_mk (f : Fil) : filElem f.val = some (fileD f, []) := rfl
theorem bytes_inj {a b : ByteArray} (h : a.data.toList = b.data.toList) : a = b := by
  apply ByteArray.ext
  exact Array.toList_inj.1 h
theorem filElem_inv {v : Value} {f : Fil} {ps : List MemPlace} (h : filElem v = some (fileD f, ps)) : v = f.val := by
  unfold filElem at h
  split at h
  · simp only [Option.some.injEq, Prod.mk.injEq, fileD, DataW.agg.injEq, List.cons.injEq, DataW.lit.injEq, Lit.string.injEq, Lit.int.injEq, true_and, and_true] at h
    obtain ⟨⟨h1, h2, h3⟩, _⟩ := h
    have e1 := bytes_inj h1
    have e2 := bytes_inj h2
    subst e1 e2 h3
    rfl
  · cases h
/-- A map that holds these files, each under its name. -/
def MapF (w : World) (b n : Nat) (L : List Fil) : Prop := w.ownsMap Tryz.prog 9 filElem b n (.map (L.map ent))

theorem before_eq : ∀ x y : List UInt8, bytesBefore x y = Op.bytesLess x y
  | [], [] => rfl
  | [], _ :: _ => rfl
  | _ :: _, [] => rfl
  | a :: x, b :: y => by unfold bytesBefore Op.bytesLess; rw [before_eq x y]
theorem less_iff : ∀ x y : List UInt8, Op.bytesLess x y = true ↔ x < y
  | [], [] => by simp [Op.bytesLess]
  | [], _ :: _ => by simp [Op.bytesLess]
  | _ :: _, [] => by simp [Op.bytesLess]
  | a :: x, b :: y => by
    rw [Op.bytesLess, List.cons_lt_cons_iff]
    have := less_iff x y
    simp only [Bool.or_eq_true, decide_eq_true_eq, Bool.and_eq_true, beq_iff_eq, this]
theorem lessB_iff (a b : ByteArray) : lessB a b = true ↔ a.data.toList < b.data.toList := by
  unfold lessB; rw [less_iff, Lib.toList_data, Lib.toList_data]
theorem lessB_eq (a b : ByteArray) : lessB a b = bytesBefore a.data.toList b.data.toList := by
  rw [Bool.eq_iff_iff, lessB_iff, before_eq, less_iff]
/-- Rising by name. -/
def Rising (L : List Fil) : Prop := L.Pairwise fun a b => lessB a.name b.name = true
theorem lessB_trans {a b c : ByteArray} (h1 : lessB a b = true) (h2 : lessB b c = true) : lessB a c = true := by
  rw [lessB_iff] at *; exact List.lt_trans h1 h2
theorem lessB_irrefl (a : ByteArray) : lessB a a = false := by
  cases h : lessB a a
  · rfl
  · rw [lessB_iff] at h; exact absurd h (List.lt_irrefl _)
theorem lessB_ne {a b : ByteArray} (h : lessB a b = true) : a ≠ b := by rintro rfl; rw [lessB_irrefl] at h; cases h
theorem lessB_asymm {a b : ByteArray} (h : lessB a b = true) : lessB b a = false := by
  cases h2 : lessB b a
  · rfl
  · have := lessB_trans h h2; rw [lessB_irrefl] at this; cases this
theorem lessB_total {a b : ByteArray} (h : a ≠ b) : lessB a b = true ∨ lessB b a = true := by
  rw [lessB_iff, lessB_iff]
  by_cases h1 : a.data.toList < b.data.toList
  · exact .inl h1
  · refine .inr (Classical.byContradiction fun h2 => h (bytes_inj ?_))
    exact List.le_antisymm (List.not_lt.1 h2) (List.not_lt.1 h1)
theorem rising_of_ok {L : List Fil} (h : fsOK L = true) : Rising L := by
  have h2 := (fsOK_iff.1 h).2
  have adj : ∀ i (hi : i + 1 < L.length), lessB L[i].name L[i + 1].name = true := fun i hi => (h2 (i + 1) hi).2 (by omega)
  clear h h2
  induction L with
  | nil => exact List.Pairwise.nil
  | cons f L ih =>
    have ihL := ih (fun i hi => by have := adj (i + 1) (by simpa using hi); simpa using this)
    refine List.Pairwise.cons (fun g hg => ?_) ihL
    cases L with
    | nil => cases hg
    | cons f2 L2 =>
      have h0 : lessB f.name f2.name = true := by have := adj 0 (by simp); simpa using this
      rcases List.mem_cons.1 hg with rfl | hg
      · exact h0
      · exact lessB_trans h0 ((List.pairwise_cons.1 ihL).1 g hg)
/-- A file put into its place. -/
def insF (f : Fil) : List Fil → List Fil
  | [] => [f]
  | g :: r => if lessB f.name g.name then f :: g :: r else g :: insF f r
def putL (L : List Fil) (f : Fil) : List Fil := insF f (L.filter fun g => !decide (g.name = f.name))
def delL (L : List Fil) (s : ByteArray) : List Fil := L.filter fun g => !decide (g.name = s)
theorem same_name (g : Fil) (s : ByteArray) : (ent g).1.sameKey (.string s.data.toList) = decide (g.name = s) := by
  show (g.name.data.toList == s.data.toList) = _
  rw [Bool.eq_iff_iff]
  simp only [beq_iff_eq, decide_eq_true_eq]
  exact ⟨bytes_inj, fun h => by rw [h]⟩
theorem ins_ent (f : Fil) (L : List Fil) : DataW.insert (ent f) (L.map ent) = (insF f L).map ent := by
  induction L with
  | nil => rfl
  | cons g L ih =>
    simp only [List.map_cons, DataW.insert, insF]
    have : (ent f).1.before (ent g).1 = lessB f.name g.name := (lessB_eq _ _).symm
    rw [this]
    split
    · rfl
    · rw [ih]; rfl
theorem filt_ent (L : List Fil) (s : ByteArray) : (L.map ent).filter (fun p => !p.1.sameKey (.string s.data.toList)) = (delL L s).map ent := by
  unfold delL
  rw [List.filter_map]
  congr 1
  apply List.filter_congr
  intro g _
  simp only [Function.comp_apply, same_name]
theorem put_D (L : List Fil) (f : Fil) : (DataW.map (L.map ent)).put (.string f.name.data.toList) (fileD f) = .map ((putL L f).map ent) := by
  unfold DataW.put
  simp only
  rw [filt_ent, show ((Lit.string f.name.data.toList, fileD f)) = ent f from rfl, ins_ent]
  rfl
theorem del_D (L : List Fil) (s : ByteArray) : (DataW.map (L.map ent)).del (.string s.data.toList) = .map ((delL L s).map ent) := by
  unfold DataW.del
  simp only
  rw [filt_ent]
/-- The file of a name. -/
def findF (L : List Fil) (s : ByteArray) : Option Fil := L.find? fun g => decide (g.name = s)
theorem at_D (L : List Fil) (s : ByteArray) (z : DataW Unit) : (DataW.map (L.map ent)).atKey (.string s.data.toList) z = match findF L s with | some g => fileD g | none => z := by
  unfold DataW.atKey findF
  simp only
  rw [List.find?_map]
  have : ((fun p : Lit × DataW Unit => p.1.sameKey (.string s.data.toList)) ∘ ent) = fun g => decide (g.name = s) := by funext g; exact same_name g s
  rw [this]
  cases L.find? fun g => decide (g.name = s) <;> rfl
theorem has_D (L : List Fil) (s : ByteArray) : Maps.has (DataW.map (L.map ent)) (.string s.data.toList) = (findF L s).isSome := by
  unfold Maps.has findF
  simp only
  rw [Bool.eq_iff_iff, List.any_map, List.find?_isSome, List.any_eq_true]
  simp only [Function.comp_apply, same_name]
theorem size_D (L : List Fil) : Maps.size (DataW.map (L.map ent)) = L.length := by simp [Maps.size]
end Go.Proofs.YtebkblmejkkhfaaGreatDoor

namespace Go.Proofs.YtebkblmejkkhfaaGreatDoor
open Go.RowKit
set_option linter.unusedVariables false
set_option maxRecDepth 1000000

/-- The code with which every function on files begins. -/
noncomputable def codeOf (L : List Fil) (s : ByteArray) : Int := if 20000 < s.size then 2 else if (fsOK L && nameB s) = false then 1 else if findF L s = none then 6 else 0
theorem find_first {L : List Fil} {s : ByteArray} {k : Nat} (h : k < L.length) (hn : L[k].name = s) (hno : ∀ j (hj : j < L.length), j < k → L[j].name ≠ s) : findF L s = some L[k] := by
  unfold findF
  rw [List.find?_eq_some_iff_append]
  refine ⟨by simpa using hn, L.take k, L.drop (k + 1), ?_, ?_⟩
  · rw [← List.drop_eq_getElem_cons h, List.take_append_drop]
  · intro a ha
    obtain ⟨i, hi, rfl⟩ := List.getElem_of_mem ha
    have : i < k := by simp at hi; omega
    rw [List.getElem_take]
    simpa using hno i (by omega) this
theorem find_no {L : List Fil} {s : ByteArray} (hno : ∀ j (hj : j < L.length), L[j].name ≠ s) : findF L s = none := by
  unfold findF
  rw [List.find?_eq_none]
  intro a ha
  obtain ⟨i, hi, rfl⟩ := List.getElem_of_mem ha
  simpa using hno i hi
/-- What l03File answers. -/
def FoundAt (L : List Fil) (s : ByteArray) (r : Int) : Prop := (findF L s = none ∧ r = -1) ∨ ∃ (i : Nat) (h : i < L.length), r = i ∧ findF L s = some L[i] ∧ L[i].name = s

set_option maxHeartbeats 1000000 in
theorem l03File_any (A : Option Addr) (L : List Fil) (c : Nat) (s : ByteArray) (w : World) (hL : Fls w w.heap.size A L) :
    Calls Tryz.prog 134 #[.agg #[.slice A L.length c], .string s] w fun e w' => ∃ r, e = .returned (.int .i64 r) ∧ FoundAt L s r ∧ Below w.heap.size w w' := by
  have hn := hL.1
  unfold maxLen at hn
  have hB0 := Blk.fresh w 25 [.slice A L.length c]
  have hb0 : Below w.heap.size w (w.alloc (.cells #[.slice A L.length c] 25)) := (Below.refl _ _).alloc (Nat.le_refl _) _
  go_enter Tryz.func134, Tryz.ntmps134
  go_wp2
  go_loopw [5] (fun i wr => ∃ k : Nat, k ≤ L.length ∧ i = .int .i64 k ∧ (∀ j (h : j < L.length), j < k → L[j].name ≠ s) ∧ wr = w.alloc (.cells #[.slice A L.length c] 25)) (fun i _ => L.length - (intOf i).toNat)
  case atStart => exact ⟨0, by omega, rfl, fun j _ h => by omega, rfl⟩
  case round =>
    obtain ⟨k, hk, rfl, hno, rfl⟩ := hrel
    have b0 := hB0.cell (i := 0) rfl
    by_cases hlt : k < L.length
    · obtain ⟨a, rfl, hab, c0, c1, c2, hff⟩ := (hL.below hb0 (Nat.le_refl _)).at k hlt
      have hlt' : (k : Int) < (L.length : Int) := by omega
      by_cases hs : L[k].name = s
      · have hd : (L[k].name.toList == s.toList) = true := by rw [hs]; simp
        go_wp2
        all_goals first
          | (go_ret; exact ⟨k, rfl, .inr ⟨k, hlt, rfl, find_first hlt hs hno, hs⟩, hb0⟩)
          | (exfalso; simp_all)
      · have hd : (L[k].name.toList == s.toList) = false := by
          rw [beq_eq_false_iff_ne]; intro e; rw [Lib.toList_data, Lib.toList_data] at e; exact hs (bytes_inj e)
        go_wp2
        all_goals first
          | (refine ⟨⟨k + 1, by omega, by go_num, fun j hj hjk => ?_, by first | trivial | rfl⟩, by simp [intOf]; omega⟩
             by_cases e : j = k
             · subst e; exact hs
             · exact hno j hj (by omega))
          | (exfalso; simp_all)
    · obtain rfl : k = L.length := by omega
      go_wp2
      go_ret
      exact ⟨-1, rfl, .inl ⟨find_no fun j hj => hno j hj hj, rfl⟩, hb0⟩

set_option maxHeartbeats 1000000 in
theorem l03Begin_any (A : Option Addr) (L : List Fil) (c : Nat) (s : ByteArray) (w : World) (hL : Fls w w.heap.size A L) (hs : s.size ≤ maxLen) :
    Calls Tryz.prog 88 #[.agg #[.slice A L.length c], .string s] w fun e w' => ∃ k, e = .returned (.tuple #[.int .i64 k, .int .i64 (codeOf L s)]) ∧ (codeOf L s = 0 → ∃ (i : Nat) (h : i < L.length), k = i ∧ findF L s = some L[i] ∧ L[i].name = s) ∧ (codeOf L s = 6 → findF L s = none) ∧ Below w.heap.size w w' := by
  have hs' := hs
  unfold maxLen at hs'
  have hB0 := Blk.fresh w 25 [.slice A L.length c]
  have b0 := hB0.cell (i := 0) rfl
  have hb0 : Below w.heap.size w (w.alloc (.cells #[.slice A L.length c] 25)) := (Below.refl _ _).alloc (Nat.le_refl _) _
  have R := specRight_any A L c _ ((hL.below hb0 (Nat.le_refl _)).mono hb0.size)
  by_cases hlong : 20000 < s.size
  · have HC : Hid (codeOf L s = 2) := by unfold Hid codeOf; rw [if_pos hlong]
    go_enter Tryz.func88, Tryz.ntmps88
    go_wp2
    exact bodyPost_ret (v := .tuple #[.int .i64 (-1), .int .i64 2]) (by simp [results, Tryz.results88, go_sem]) rfl ⟨-1, by rw [HC.out], fun e => (by rw [HC.out] at e; cases e), fun e => (by rw [HC.out] at e; cases e), hb0⟩
  · rcases Bool.eq_false_or_eq_true (fsOK L) with hok | hok
    · rw [hok] at R
      rcases Bool.eq_false_or_eq_true (nameB s) with hN | hN
      · have NR : ∀ W, Calls Tryz.prog 90 #[.string s] W fun e w' => e = .returned (.bool true) ∧ W = w' := fun W => by have := specNameRight_any s W hs; rw [hN] at this; exact this
        go_enter Tryz.func88, Tryz.ntmps88
        go_wp2_with (fail)
        refine R.mono ?_
        rintro e w1 ⟨rfl, hb1⟩
        have hw1 := hb0.trans (hb1.mono hb0.size)
        have b1 := (hB0.below hb1 hB0.lt).cell (i := 0) rfl
        clear b0
        go_wp2_with (fail)
        refine (NR _).mono ?_
        rintro e w2 ⟨rfl, rfl⟩
        go_wp2_with (fail)
        refine (l03File_any A L c s _ ((hL.below hw1 (Nat.le_refl _)).mono hw1.size)).mono ?_
        rintro e w3 ⟨r, rfl, hr, hb3⟩
        have hw3 := hw1.trans (hb3.mono hw1.size)
        rcases hr with ⟨hno, rfl⟩ | ⟨i, hi, rfl, hf, hnm⟩
        · have HC : Hid (codeOf L s = 6) := by unfold Hid codeOf; rw [if_neg hlong, hok, hN, if_neg (by simp), if_pos hno]
          go_wp2
          exact bodyPost_ret (v := .tuple #[.int .i64 (-1), .int .i64 6]) (by simp [results, Tryz.results88, go_sem]) rfl ⟨-1, by rw [HC.out], fun e => (by rw [HC.out] at e; cases e), fun _ => hno, hw3⟩
        · have HC : Hid (codeOf L s = 0) := by unfold Hid codeOf; rw [if_neg hlong, hok, hN, if_neg (by simp), hf, if_neg (by simp)]
          have hi' : ¬ (i : Int) < 0 := by omega
          go_wp2
          exact bodyPost_ret (v := .tuple #[.int .i64 i, .int .i64 0]) (by simp [results, Tryz.results88, go_sem]) rfl ⟨i, by rw [HC.out], fun _ => ⟨i, hi, rfl, hf, hnm⟩, fun e => (by rw [HC.out] at e; cases e), hw3⟩
      · have NR : ∀ W, Calls Tryz.prog 90 #[.string s] W fun e w' => e = .returned (.bool false) ∧ W = w' := fun W => by have := specNameRight_any s W hs; rw [hN] at this; exact this
        have HC : Hid (codeOf L s = 1) := by unfold Hid codeOf; rw [if_neg hlong, hN, if_pos (by simp)]
        go_enter Tryz.func88, Tryz.ntmps88
        go_wp2_with (fail)
        refine R.mono ?_
        rintro e w1 ⟨rfl, hb1⟩
        have hw1 := hb0.trans (hb1.mono hb0.size)
        go_wp2_with (fail)
        refine (NR _).mono ?_
        rintro e w2 ⟨rfl, rfl⟩
        go_wp2
        exact bodyPost_ret (v := .tuple #[.int .i64 (-1), .int .i64 1]) (by simp [results, Tryz.results88, go_sem]) rfl ⟨-1, by rw [HC.out], fun e => (by rw [HC.out] at e; cases e), fun e => (by rw [HC.out] at e; cases e), hw1⟩
    · rw [hok] at R
      have HC : Hid (codeOf L s = 1) := by unfold Hid codeOf; rw [if_neg hlong, hok, if_pos (by simp)]
      go_enter Tryz.func88, Tryz.ntmps88
      go_wp2_with (fail)
      refine R.mono ?_
      rintro e w1 ⟨rfl, hb1⟩
      have hw1 := hb0.trans (hb1.mono hb0.size)
      go_wp2
      exact bodyPost_ret (v := .tuple #[.int .i64 (-1), .int .i64 1]) (by simp [results, Tryz.results88, go_sem]) rfl ⟨-1, by rw [HC.out], fun e => (by rw [HC.out] at e; cases e), fun e => (by rw [HC.out] at e; cases e), hw1⟩
end Go.Proofs.YtebkblmejkkhfaaGreatDoor
