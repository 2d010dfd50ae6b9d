/- Rows of files that a call owns, and the copy that the exact laws make of a file system. Contract of spec.l03Is: whether a number lies within two others. Contracts: spec.FsRight and impl.FsRight both answer fsOK of their files. -/
import Derived.Test.YtpgodphnjeifhaaGreatDoorFilSzW
import Derived.OwnWalk
import Derived.Test.YtpgodphnjeifhaaGreatDoorRowW
import Derived.WalkKit
import Derived.Below
import Derived.Lib.Hide
import Derived.Laws.Cover1
import Derived.BigQuiet
import Derived.Deep.RegionHeld3
import Derived.RegionTactic
namespace Go.Proofs.YtpgodphnjeifhaaGreatDoor
open Go.RowKit
set_option linter.unusedVariables false

/-- The cells of files, one behind the other. -/
def flat (L : List Fil) : List Value := L.flatMap Fil.cells
theorem flat_nil : flat [] = [] := rfl
theorem flat_cons (f : Fil) (L : List Fil) : flat (f :: L) = .string f.name :: .string f.data :: .int .i64 f.sync :: flat L := rfl
theorem flat_append (L M : List Fil) : flat (L ++ M) = flat L ++ flat M := by simp [flat]
theorem flat_len (L : List Fil) : (flat L).length = L.length * 3 := by
  induction L with
  | nil => rfl
  | cons f L ih => rw [flat_cons]; simp only [List.length_cons, ih]; omega
theorem flat_get (L : List Fil) : ∀ (i : Nat) (hi : i < L.length) (r : Nat), r < 3 → (flat L)[i * 3 + r]? = L[i].cells[r]? := by
  induction L with
  | nil => intro i hi; simp at hi
  | cons f L ih =>
    intro i hi r hr
    rw [flat_cons]
    cases i with
    | zero =>
      match r, hr with
      | 0, _ => rfl
      | 1, _ => rfl
      | 2, _ => rfl
    | succ i =>
      rw [show (i + 1) * 3 + r = (i * 3 + r) + 1 + 1 + 1 by omega]
      simp only [List.getElem?_cons_succ, List.getElem_cons_succ]
      exact ih i (by simpa using hi) r hr
theorem flat_set (f : Fil) : ∀ (L : List Fil) (i : Nat), (((flat L).set (i * 3) (.string f.name)).set (i * 3 + 1) (.string f.data)).set (i * 3 + 2) (.int .i64 f.sync) = flat (L.set i f) := by
  intro L
  induction L with
  | nil => intro i; simp [flat]
  | cons g L ih =>
    intro i
    cases i with
    | zero => rfl
    | succ i =>
      rw [flat_cons, show (i + 1) * 3 = i * 3 + 1 + 1 + 1 by omega, List.set_cons_succ, List.set_cons_succ, List.set_cons_succ, List.set_cons_succ, List.set_cons_succ, List.set_cons_succ]
      rw [List.set_cons_succ, List.set_cons_succ, List.set_cons_succ, List.set_cons_succ, flat_cons, ← ih i]
theorem flat_one (L : List Fil) : ∀ u ∈ flat L, u.oneCell' = true := by
  intro u hu
  obtain ⟨f, _, h⟩ := List.mem_flatMap.1 hu
  simp [Fil.cells] at h
  rcases h with rfl | rfl | rfl <;> rfl
def zeroFil : Fil := ⟨⟨#[]⟩, ⟨#[]⟩, 0⟩
theorem flat_made (n : Nat) : (madeCells #[.string ⟨#[]⟩, .string ⟨#[]⟩, .int .i64 0] (n * 3)).toList = flat (List.replicate n zeroFil) := by
  apply List.ext_getElem?
  intro j
  by_cases hj : j < n * 3
  · have h := flat_get (List.replicate n zeroFil) (j / 3) (by simp; omega) (j % 3) (by omega)
    rw [show j / 3 * 3 + j % 3 = j by omega] at h
    rw [h]
    have : j % 3 = 0 ∨ j % 3 = 1 ∨ j % 3 = 2 := by omega
    rcases this with e | e | e <;> simp [madeCells, hj, e, zeroFil, Fil.cells]
  · rw [List.getElem?_eq_none (l := flat _) (by rw [flat_len]; simp; omega)]
    simp [madeCells]
    omega

/-- The three cells of one file of an owned row, as a store asks for them. -/
theorem row_file {w : World} {base g n c : Nat} {M : List Fil} (h : w.ownsRow base 53 3 (.slice (some ⟨g, 0, none⟩) n c) n (flat M)) {k : Nat} (hk : k < M.length) :
    w.cell? ⟨g, k * 3, none⟩ = some (.string M[k].name) ∧ w.cell? ⟨g, k * 3 + 1, none⟩ = some (.string M[k].data) ∧ w.cell? ⟨g, k * 3 + 2, none⟩ = some (.int .i64 M[k].sync) ∧
      w.frozen? ⟨g, k * 3, none⟩ = false ∧ w.frozen? ⟨g, k * 3 + 1, none⟩ = false ∧ w.frozen? ⟨g, k * 3 + 2, none⟩ = false := by
  have hl := h.1
  rw [flat_len] at hl
  refine ⟨?_, ?_, ?_, h.frozenAt _, h.frozenAt _, h.frozenAt _⟩
  · rw [h.cellAt _ (by omega), show k * 3 = k * 3 + 0 from rfl, flat_get M k hk 0 (by omega)]; rfl
  · rw [h.cellAt _ (by omega), flat_get M k hk 1 (by omega)]; rfl
  · rw [h.cellAt _ (by omega), flat_get M k hk 2 (by omega)]; rfl
/-- A file stored into an owned row. -/
theorem row_put {w : World} {base g n c : Nat} {M : List Fil} (h : w.ownsRow base 53 3 (.slice (some ⟨g, 0, none⟩) n c) n (flat M)) (k : Nat) (f : Fil) :
    (((w.setCell ⟨g, k * 3, none⟩ (.string f.name)).setCell ⟨g, k * 3 + 1, none⟩ (.string f.data)).setCell ⟨g, k * 3 + 2, none⟩ (.int .i64 f.sync)).ownsRow base 53 3 (.slice (some ⟨g, 0, none⟩) n c) n (flat (M.set k f)) := by
  have h1 := (h.stored (k * 3) (.string f.name)).1
  have h2 := (h1.stored (k * 3 + 1) (.string f.data)).1
  have h3 := (h2.stored (k * 3 + 2) (.int .i64 f.sync)).1
  rw [flat_set] at h3
  exact h3
theorem grown_none {w w' : World} {B : Nat} (hb : Below B w w') (hB : w.heap.size ≤ B) : w.grownBy w' none := ⟨hb.os, hb.tape, hb.output, hb.size, fun k hk _ => hb.block k (by omega)⟩
theorem row_below {w w' : World} {B base n size : Nat} {e : TypeId} {v : Value} {xs : List Value} (h : w.ownsRow base e size v n xs) (hb : Below B w w') (hB : w.heap.size ≤ B) : w'.ownsRow base e size v n xs :=
  h.kept (grown_none hb hB) (by cases v.ownBlock <;> simp)
theorem take_put {α : Type} (L : List α) (z : α) {k : Nat} (h : k < L.length) : (L.take k ++ List.replicate (L.length - k) z).set k L[k] = L.take (k + 1) ++ List.replicate (L.length - (k + 1)) z := by
  rw [List.set_append_right _ _ (by simp; omega)]
  simp only [List.length_take, show k - min k L.length = 0 by omega, show L.length - k = (L.length - (k + 1)) + 1 by omega, List.replicate_succ, List.set_cons_zero]
  rw [List.take_succ_eq_append_getElem h, List.append_assoc]
  rfl

/-- A row of files of the call's own. -/
def OwnF (w : World) (base : Nat) (v : Value) (L : List Fil) : Prop := w.ownsRow base 53 3 v L.length (flat L) ∧ ∀ f ∈ L, f.fits
theorem OwnF.slice {w : World} {base : Nat} {v : Value} {L : List Fil} (h : OwnF w base v L) : ∃ A c, v = .slice A L.length c ∧ Fls w w.heap.size A L := by
  obtain ⟨h1, h2⟩ := h
  rcases h1.2 with ⟨rfl, hz⟩ | ⟨g, cap, cur, rfl, hb, hg, hl, hm, hs, ht⟩
  · have : L = [] := List.eq_nil_of_length_eq_zero hz
    subst this
    exact ⟨none, 0, rfl, by simp [maxLen], fun i h => absurd h (by simp)⟩
  · refine ⟨some ⟨g, 0, none⟩, cap, rfl, by omega, fun i hi => ?_⟩
    have hc := h1.cells (g := g) rfl
    have k0 := hc (i * 3 + 0) _ (by rw [flat_get L i hi 0 (by omega)]; rfl)
    have k1 := hc (i * 3 + 1) _ (by rw [flat_get L i hi 1 (by omega)]; rfl)
    have k2 := hc (i * 3 + 2) _ (by rw [flat_get L i hi 2 (by omega)]; rfl)
    exact ⟨⟨g, 0, none⟩, rfl, (Array.getElem?_eq_some_iff.1 hg).1, k0, k1, k2, h2 _ (List.getElem_mem hi)⟩
theorem OwnF.below {w w' : World} {base B : Nat} {v : Value} {L : List Fil} (h : OwnF w base v L) (hb : Below B w w') (hB : w.heap.size ≤ B) : OwnF w' base v L :=
  ⟨h.1.kept (row := none) ⟨hb.os, hb.tape, hb.output, hb.size, fun k hk _ => hb.block k (by omega)⟩ (by cases v.ownBlock <;> simp), h.2⟩
theorem OwnF.fls {w : World} {base c n : Nat} {A : Option Addr} {L : List Fil} (h : OwnF w base (.slice A n c) L) : Fls w w.heap.size A L := by
  obtain ⟨A', c', e, hf⟩ := h.slice
  cases e
  exact hf
theorem OwnF.drew {w : World} {base : Nat} {v : Value} {L : List Fil} (h : OwnF w base v L) : OwnF w.drew base v L := h
theorem OwnF.base {w : World} {base base' : Nat} {v : Value} {L : List Fil} (h : OwnF w base v L) (hb : base' ≤ base) : OwnF w base' v L := by
  obtain ⟨⟨h0, h1⟩, h2⟩ := h
  refine ⟨⟨h0, ?_⟩, h2⟩
  rcases h1 with h1 | ⟨g, cap, cur, r1, r2, r3⟩
  · exact .inl h1
  · exact .inr ⟨g, cap, cur, r1, by omega, r3⟩
theorem row_far {w : World} {base n size : Nat} {e : TypeId} {v : Value} {xs : List Value} (h : w.ownsRow base e size v n xs) {p : Addr} (hp : p.block < base) (u : Value) : (w.setCell p u).ownsRow base e size v n xs :=
  h.kept (row := some p.block) ⟨rfl, rfl, rfl, by simp [World.setCell], fun k _ hne => Below.heap_setCell w p u k (fun e => hne (by rw [e]))⟩ (.inr fun e => by have := (h.lt _ e).1; omega)
theorem OwnF.far {w : World} {base : Nat} {v : Value} {L : List Fil} (h : OwnF w base v L) {p : Addr} (hp : p.block < base) (u : Value) : OwnF (w.setCell p u) base v L := ⟨row_far h.1 hp u, h.2⟩
theorem infoFile : (Tryz.prog.info? 53).map (fun i => (i.zero, i.size, i.bytes)) = some (some (.agg #[.string ⟨#[]⟩, .string ⟨#[]⟩, .int .i64 0]), 3, 40) := by kernel_rfl

end Go.Proofs.YtpgodphnjeifhaaGreatDoor

namespace Go.Proofs.YtpgodphnjeifhaaGreatDoor
open Go.RowKit
set_option linter.unusedVariables false

theorem l03Is_any (n a b : Int) (w : World) : Calls Tryz.prog 57 #[.int .i64 n, .int .i64 a, .int .i64 b] w fun e w' => e = .returned (.bool (decide (a ≤ n) && decide (n ≤ b))) ∧ w' = w := by
  by_cases h : a ≤ n
  · go_enter Tryz.func57, Tryz.ntmps57
    go_wp2
    go_ret
    simp [h]
  · go_enter Tryz.func57, Tryz.ntmps57
    go_wp2
    go_ret
    have h' : n < a := by omega
    simp
    intro h2
    omega
end Go.Proofs.YtpgodphnjeifhaaGreatDoor

namespace Go.Proofs.YtpgodphnjeifhaaGreatDoor
open Go.RowKit
set_option linter.unusedVariables false

def lessB (a b : ByteArray) : Bool := Op.bytesLess a.toList b.toList
/-- A file that is right by itself. -/
noncomputable def okF (f : Fil) : Bool := nameB f.name && (decide (f.data.size ≤ 3000) && (decide (0 ≤ f.sync) && decide (f.sync ≤ f.data.size)))
/-- A file that is right in its place. -/
def okIn (L : List Fil) (i : Nat) (h : i < L.length) : Prop := okF L[i] = true ∧ (0 < i → lessB (L[i - 1]'(by omega)).name L[i].name = true)
open Classical in
/-- FsRight. -/
noncomputable def fsOK (L : List Fil) : Bool := decide (L.length ≤ 12 ∧ ∀ i (h : i < L.length), okIn L i h)
theorem fsOK_true {L : List Fil} (h1 : L.length ≤ 12) (h2 : ∀ i (h : i < L.length), okIn L i h) : fsOK L = true := by simp [fsOK]; exact ⟨h1, h2⟩
theorem fsOK_at {L : List Fil} {i : Nat} (hi : i < L.length) (h : ¬ okIn L i hi) : fsOK L = false := by
  simp [fsOK]; exact fun _ => ⟨i, hi, h⟩
theorem fsOK_big {L : List Fil} (h : ¬ L.length ≤ 12) : fsOK L = false := by simp [fsOK]; omega
theorem fsOK_iff {L : List Fil} : fsOK L = true ↔ L.length ≤ 12 ∧ ∀ i (h : i < L.length), okIn L i h := by simp [fsOK]

theorem okIn_less {L : List Fil} {q k : Nat} (hq : q + 1 = k) (hlt : k < L.length) (hql : q < L.length) (hl : Op.bytesLess L[q].name.toList L[k].name.toList = true) : 0 < k → lessB (L[k - 1]'(by omega)).name L[k].name = true := by
  intro _
  obtain rfl : q = k - 1 := by omega
  exact hl
theorem not_okIn_less {L : List Fil} {q k : Nat} (hq : q + 1 = k) (hlt : k < L.length) (hql : q < L.length) (hl : Op.bytesLess L[q].name.toList L[k].name.toList = false) : ¬ okIn L k hlt := by
  intro h
  have h2 := h.2 (by omega)
  obtain rfl : q = k - 1 := by omega
  unfold lessB at h2
  rw [hl] at h2
  cases h2

set_option maxHeartbeats 4000000 in
set_option maxRecDepth 1000000 in
theorem specRight_any (A : Option Addr) (L : List Fil) (c : Nat) (w : World) (hL : Fls w w.heap.size A L) :
    Calls Tryz.prog 18 #[.agg #[.slice A L.length c]] w fun e w' => e = .returned (.bool (fsOK L)) ∧ Below w.heap.size w w' := by
  have hn := hL.1
  unfold maxLen at hn
  have hB0 := Blk.fresh w 25 [.slice A L.length c]
  go_enter Tryz.func18, Tryz.ntmps18
  go_wp2
  go_loopw [3, 4] (fun i _ wr => ∃ k : Nat, k ≤ L.length ∧ i = .int .i64 k ∧ (∀ j (h : j < L.length), j < k → okIn L j h) ∧ Blk wr w.heap.size 25 [.slice A L.length c] ∧ Below w.heap.size w wr) (fun i _ _ => L.length - (intOf i).toNat)
  case atStart => exact ⟨0, by omega, rfl, fun j _ h => by omega, hB0, (Below.refl _ _).alloc (Nat.le_refl _) _⟩
  case round =>
    obtain ⟨k, hk, rfl, hok, hB, hb⟩ := hrel
    have b0 := hB.cell (i := 0) rfl
    by_cases hlt : k < L.length
    · obtain ⟨a, rfl, hab, c0, c1, c2, hff⟩ := (hL.below hb (Nat.le_refl _)).at k hlt
      have n1 : L[k].name.size ≤ maxLen := hff.1
      have n2 := hff.2.1
      have n3 := hff.2.2
      unfold maxLen at n2
      have hW := Blk.fresh wr 53 [.string L[k].name, .string L[k].data, .int .i64 L[k].sync]
      have hB3 := hB.alloc (.cells #[.string L[k].name, .string L[k].data, .int .i64 L[k].sync] 53)
      have hb3 := hb.alloc hb.size (.cells #[.string L[k].name, .string L[k].data, .int .i64 L[k].sync] 53)
      have hp : ∀ q, (h : q + 1 = k) → (wr.alloc (.cells #[.string L[k].name, .string L[k].data, .int .i64 L[k].sync] 53)).cell? (a.add (q * 3)) = some (.string (L[q]'(by omega)).name) := by
        intro q h
        obtain ⟨a', e, _, h2, _⟩ := (hL.below hb3 (Nat.le_refl _)).at q (by omega)
        cases e
        exact h2
      go_wp2
      generalize wr.alloc (.cells #[.string L[k].name, .string L[k].data, .int .i64 L[k].sync] 53) = w3 at hW hB3 hb3 hp ⊢
      have x0 := hW.cell (i := 0) rfl
      have x1 := hW.cell (i := 1) rfl
      have x2 := hW.cell (i := 2) rfl
      have y0 := hB3.cell (i := 0) rfl
      clear c0 c1 c2 b0
      have hnot : ∀ e : okF L[k] = false, fsOK L = false := fun e => fsOK_at hlt (fun h => by rw [h.1] at e; cases e)
      rcases Bool.eq_false_or_eq_true (nameB L[k].name) with hN | hN
      · have NR : ∀ W, Calls Tryz.prog 54 #[.string L[k].name] W fun e w' => e = .returned (.bool true) ∧ W = w' := fun W => by have := specNameRight_any L[k].name W n1; rw [hN] at this; exact this
        by_cases hk0 : 0 < k
        · obtain ⟨q, hq⟩ : ∃ q, q + 1 = k := ⟨k - 1, by omega⟩
          have p0 := hp q hq
          have hd : decide ((0 : Int) < (k : Int)) = true := by simp; omega
          have e1 : IntKind.i64.wrap ((k : Int) - 1) = (q : Int) := by rw [IntWalk.i64_in _ (by omega)]; omega
          have e2 : (q : Int) < (L.length : Int) := by omega
          have hql : q < L.length := by omega
          rcases Bool.eq_false_or_eq_true (Op.bytesLess L[q].name.toList L[k].name.toList) with hl | hl
          · clear hp
            by_cases hz : 3000 < L[k].data.size
            · have z1 : decide ((3000 : Int) < (L[k].data.size : Int)) = true := by simp; omega
              have R := Lib.hid (hnot (by simp [okF]; omega))
              go_quiet (first | (go_at_call 54; exact quiet_eq (NR _)) | (go_at_call 57; exact Calls.quiet_of_same (IS _)))
              go_wp2
              go_ret
              exact ⟨by rw [R.out]; rfl, below_drewN hb3 _⟩
            · have z1 : decide ((3000 : Int) < (L[k].data.size : Int)) = false := by simp; omega
              rcases Bool.eq_false_or_eq_true (decide ((0 : Int) ≤ L[k].sync) && decide (L[k].sync ≤ (L[k].data.size : Int))) with hI | hI
              · have IS : ∀ W, Calls Tryz.prog 57 #[.int .i64 L[k].sync, .int .i64 0, .int .i64 L[k].data.size] W fun e w' => e = .returned (.bool true) ∧ w' = W := fun W => by have := l03Is_any L[k].sync 0 L[k].data.size W; rw [hI] at this; exact this
                go_quiet (first | (go_at_call 54; exact quiet_eq (NR _)) | (go_at_call 57; exact Calls.quiet_of_same (IS _)))
                go_wp2
                refine ⟨⟨k + 1, by omega, by go_num, fun j hj hjk => ?_, hB3.drewN _, below_drewN hb3 _⟩, by simp [intOf]; omega⟩
                by_cases e : j = k
                · subst e
                  exact ⟨by simp only [Bool.and_eq_true, decide_eq_true_eq] at hI; simp [okF, hN, hI.1, hI.2]; omega, okIn_less hq hlt hql hl⟩
                · exact hok j hj (by omega)
              · have IS : ∀ W, Calls Tryz.prog 57 #[.int .i64 L[k].sync, .int .i64 0, .int .i64 L[k].data.size] W fun e w' => e = .returned (.bool false) ∧ w' = W := fun W => by have := l03Is_any L[k].sync 0 L[k].data.size W; rw [hI] at this; exact this
                have R := Lib.hid (hnot (by simp [okF, hI]))
                go_quiet (first | (go_at_call 54; exact quiet_eq (NR _)) | (go_at_call 57; exact Calls.quiet_of_same (IS _)))
                go_wp2
                go_ret
                exact ⟨by rw [R.out]; rfl, below_drewN hb3 _⟩
          · clear hp
            have R := Lib.hid (fsOK_at hlt (not_okIn_less hq hlt hql hl))
            go_quiet (first | (go_at_call 54; exact quiet_eq (NR _)) | (go_at_call 57; exact Calls.quiet_of_same (IS _)))
            go_wp2
            go_ret
            exact ⟨by rw [R.out]; rfl, below_drewN hb3 _⟩
        · have hd : decide ((0 : Int) < (k : Int)) = false := by simp; omega
          by_cases hz : 3000 < L[k].data.size
          · have z1 : decide ((3000 : Int) < (L[k].data.size : Int)) = true := by simp; omega
            have R := Lib.hid (hnot (by simp [okF]; omega))
            go_quiet (first | (go_at_call 54; exact quiet_eq (NR _)) | (go_at_call 57; exact Calls.quiet_of_same (IS _)))
            go_wp2
            go_ret
            exact ⟨by rw [R.out]; rfl, below_drewN hb3 _⟩
          · have z1 : decide ((3000 : Int) < (L[k].data.size : Int)) = false := by simp; omega
            rcases Bool.eq_false_or_eq_true (decide ((0 : Int) ≤ L[k].sync) && decide (L[k].sync ≤ (L[k].data.size : Int))) with hI | hI
            · have IS : ∀ W, Calls Tryz.prog 57 #[.int .i64 L[k].sync, .int .i64 0, .int .i64 L[k].data.size] W fun e w' => e = .returned (.bool true) ∧ w' = W := fun W => by have := l03Is_any L[k].sync 0 L[k].data.size W; rw [hI] at this; exact this
              go_quiet (first | (go_at_call 54; exact quiet_eq (NR _)) | (go_at_call 57; exact Calls.quiet_of_same (IS _)))
              go_wp2
              refine ⟨⟨k + 1, by omega, by go_num, fun j hj hjk => ?_, hB3.drewN _, below_drewN hb3 _⟩, by simp [intOf]; omega⟩
              by_cases e : j = k
              · subst e
                exact ⟨by simp only [Bool.and_eq_true, decide_eq_true_eq] at hI; simp [okF, hN, hI.1, hI.2]; omega, fun h => absurd h hk0⟩
              · exact hok j hj (by omega)
            · have IS : ∀ W, Calls Tryz.prog 57 #[.int .i64 L[k].sync, .int .i64 0, .int .i64 L[k].data.size] W fun e w' => e = .returned (.bool false) ∧ w' = W := fun W => by have := l03Is_any L[k].sync 0 L[k].data.size W; rw [hI] at this; exact this
              have R := Lib.hid (hnot (by simp [okF, hI]))
              go_quiet (first | (go_at_call 54; exact quiet_eq (NR _)) | (go_at_call 57; exact Calls.quiet_of_same (IS _)))
              go_wp2
              go_ret
              exact ⟨by rw [R.out]; rfl, below_drewN hb3 _⟩
      · have NR : ∀ W, Calls Tryz.prog 54 #[.string L[k].name] W fun e w' => e = .returned (.bool false) ∧ W = w' := fun W => by have := specNameRight_any L[k].name W n1; rw [hN] at this; exact this
        have R := Lib.hid (hnot (by simp [okF, hN]))
        go_quiet (first | (go_at_call 54; exact quiet_eq (NR _)) | (go_at_call 57; exact Calls.quiet_of_same (IS _)))
        go_wp2
        go_ret
        exact ⟨by rw [R.out]; rfl, below_drewN hb3 _⟩
    · obtain rfl : k = L.length := by omega
      by_cases h12 : L.length ≤ 12
      · have R := Lib.hid (fsOK_true h12 fun i h => hok i h h)
        go_wp2
        go_ret
        exact ⟨by rw [R.out]; simp; omega, hb⟩
      · have R := Lib.hid (fsOK_big h12)
        go_wp2
        go_ret
        exact ⟨by rw [R.out]; simp; omega, hb⟩
end Go.Proofs.YtpgodphnjeifhaaGreatDoor
