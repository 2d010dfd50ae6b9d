/- What the draw of files keeps to; spec's changes of files there. spec.l01Dec: a number in digits. The draw of files, spec's l03Fs. -/
import Derived.Test.YtpgodphnjeifhaaGreatDoorDrFsW
import Derived.Test.YtpgodphnjeifhaaGreatDoorFOutSW
import Derived.Test.YtpgodphnjeifhaaGreatDoorFsRnW
import Derived.Test.YtpgodphnjeifhaaGreatDoorPickW
import Derived.Deep.RegionHeld3
import Derived.Deep.RegionLaw
import Derived.Deep.AppendLies
namespace Go.Proofs.YtpgodphnjeifhaaGreatDoor
open Go.RowKit
set_option linter.unusedVariables false
set_option maxRecDepth 1000000

/-- In the midst of l03Fs, which began at w: the source g, the result's box, the box of f, and f's files. -/
def St (w : World) (B g : Nat) (A : Option Addr) (L : List Fil) (c : Nat) (W : World) : Prop :=
  Drw W B g ∧ w.grownBy W (some g) ∧ Blk W w.heap.size 25 [.slice none 0 0] ∧ Blk W (w.heap.size + 1) 25 [.slice A L.length c] ∧ OwnF W (w.heap.size + 2) (.slice A L.length c) L
theorem St.below {w W W' : World} {B g : Nat} {A : Option Addr} {L : List Fil} {c : Nat} (h : St w B g A L c W) (hb : Below W.heap.size W W') : St w B g A L c W' :=
  ⟨h.1.below hb, only_of_below h.2.1 hb, h.2.2.1.below hb h.2.2.1.lt, h.2.2.2.1.below hb h.2.2.2.1.lt, OwnF.below h.2.2.2.2 hb (Nat.le_refl _)⟩
theorem St.alloc {w W : World} {B g : Nat} {A : Option Addr} {L : List Fil} {c : Nat} (h : St w B g A L c W) (o : Obj) : St w B g A L c (W.alloc o) := h.below ((Below.refl _ _).alloc (Nat.le_refl _) o)
theorem St.drew {w W : World} {B g : Nat} {A : Option Addr} {L : List Fil} {c : Nat} (h : St w B g A L c W) : St w B g A L c W.drew := h.below (below_drew (Below.refl _ _))
theorem OwnF.draw {W W' : World} {b g : Nat} {v : Value} {L : List Fil} (h : OwnF W b v L) (ho : W.grownBy W' (some g)) (hg : g < b) : OwnF W' b v L :=
  ⟨h.1.kept ho (.inr (fun e => by have := (h.1.lt g e).1; omega)), h.2⟩
theorem St.draw {w W W' : World} {B g : Nat} {A : Option Addr} {L : List Fil} {c : Nat} (h : St w B g A L c W) (hg : g < w.heap.size) (hd : Drw W' B g) (ho : W.grownBy W' (some g)) : St w B g A L c W' :=
  ⟨hd, only_trans h.2.1 ho, h.2.2.1.grown ho (fun e => by have := Option.some.inj e; omega), h.2.2.2.1.grown ho (fun e => by have := Option.some.inj e; omega), OwnF.draw h.2.2.2.2 ho (by omega)⟩
theorem ownF_cap {W : World} {b c n : Nat} {A : Option Addr} {L : List Fil} (h : OwnF W b (.slice A n c) L) : (∃ a, A = some a ∧ L.length ≤ c ∧ c ≤ maxLen) ∨ (A = none ∧ L = [] ∧ c = 0) := by
  rcases h.1.2 with ⟨hv, hz⟩ | ⟨g, cap, cur, hv, _, _, hl, hm, _⟩
  · injection hv with e1 e2 e3
    exact .inr ⟨e1, List.length_eq_zero_iff.1 (by omega), e3⟩
  · injection hv with e1 e2 e3
    exact .inl ⟨_, e1, by omega, by omega⟩
/-- What one of spec's changes answers in the midst of l03Fs. -/
def Chg (L : List Fil) (f : FuncId) (args : Array Value) (W : World) : Prop :=
  ∃ (M : List Fil) (cd : Int), (∀ f ∈ M, f.fits) ∧ M.length ≤ L.length + 1 ∧ Small M ∧ Calls Tryz.prog f args W fun e w' => ∃ C x, e = .returned (fsOut (.slice C M.length x) cd) ∧ OwnF w' W.heap.size (.slice C M.length x) M ∧ Below W.heap.size W w'
theorem chgSync {w W : World} {B g : Nat} {A : Option Addr} {L : List Fil} {c : Nat} (h : St w B g A L c W) (hS : Small L) {s : ByteArray} (hs : s.size ≤ 20) : Chg L 28 #[.agg #[.slice A L.length c], .string s] W := by
  obtain ⟨M, cd, h1, h2, h3, h4, _⟩ := fsSync_both L s default default default default default h.2.2.2.2.2 hS (by unfold maxLen; omega) (by omega)
  exact ⟨M, cd, h1, h2, h3, h4 W A c (OwnF.fls h.2.2.2.2)⟩
theorem chgCut {w W : World} {B g : Nat} {A : Option Addr} {L : List Fil} {c : Nat} (h : St w B g A L c W) (hS : Small L) {s : ByteArray} {z : Int} (hs : s.size ≤ 20) (z0 : 0 ≤ z) (z1 : z ≤ 1000) : Chg L 29 #[.agg #[.slice A L.length c], .string s, .int .i64 z] W := by
  obtain ⟨M, cd, h1, h2, h3, h4, _⟩ := fsCut_both L s z default default default default default h.2.2.2.2.2 hS (by unfold maxLen; omega) (by simp [Lit.wf, IntKind.min, IntKind.max, IntKind.bits, IntKind.signed]; omega) (by omega)
  exact ⟨M, cd, h1, h2, h3, h4 W A c (OwnF.fls h.2.2.2.2)⟩
theorem findF_nil (s : ByteArray) : findF [] s = none := rfl
theorem chgRename {w W : World} {B g : Nat} {A : Option Addr} {L : List Fil} {c : Nat} (h : St w B g A L c W) (hS : Small L) {s t : ByteArray} (hs : s.size ≤ 20) (ht : t.size ≤ 20) : Chg L 14 #[.agg #[.slice A L.length c], .string s, .string t] W := by
  obtain ⟨M, cd, h1, h2, h3, h4, _⟩ := fsRename_both L s t default default default default default h.2.2.2.2.2 hS (by unfold maxLen; omega) (by unfold maxLen; omega) (by omega) (by omega)
  rcases ownF_cap h.2.2.2.2 with ⟨a, rfl, k1, k2⟩ | ⟨rfl, rfl, rfl⟩
  · exact ⟨M, cd, h1, h2, h3, h4 W _ c (OwnF.fls h.2.2.2.2) k1 k2⟩
  · exact ⟨M, cd, h1, h2, h3, h4 W none 0 (OwnF.fls h.2.2.2.2) (by simp) (by unfold maxLen; omega)⟩
theorem chgAppend {w W : World} {B g : Nat} {A : Option Addr} {L : List Fil} {c : Nat} (h : St w B g A L c W) (hS : Small L) {s t : ByteArray} (hs : s.size ≤ 20) (ht : t.size ≤ 20) : Chg L 13 #[.agg #[.slice A L.length c], .string s, .string t] W := by
  have ms : s.size ≤ maxLen := by unfold maxLen; omega
  have mt : t.size ≤ maxLen := by unfold maxLen; omega
  rcases ownF_cap h.2.2.2.2 with ⟨a, rfl, k1, k2⟩ | ⟨rfl, rfl, rfl⟩
  · obtain ⟨M, cd, h1, h2, h3, h4, _⟩ := fsAppend_both L s t default default default default default h.2.2.2.2.2 hS ms mt (by omega) (by omega)
    exact ⟨M, cd, h1, h2, h3, h4 W a c (OwnF.fls h.2.2.2.2) k1 k2⟩
  · have hL : Fls W W.heap.size none [] := OwnF.fls h.2.2.2.2
    rcases code_cases [] s with ⟨g1, hc⟩ | ⟨g1, g2, hc⟩ | ⟨g1, g2, g3, g4, hc⟩ | ⟨g1, g2, g3, ⟨i, hi, g4, g5⟩, hc⟩
    · exact ⟨[], 2, by simp, by simp, small_nil, specAppend_err none [] 0 s t 2 W hL ms mt (by omega) hc (by decide) (by decide)⟩
    · exact ⟨[], 1, by simp, by simp, small_nil, specAppend_err none [] 0 s t 1 W hL ms mt (by omega) hc (by decide) (by decide)⟩
    · have hff0 : (⟨s, ⟨#[]⟩ ++ t, 0⟩ : Fil).fits := ⟨ms, by show ((⟨#[]⟩ : ByteArray) ++ t).size ≤ maxLen; rw [emp_size]; exact mt, by show (-9223372036854775808 : Int) ≤ 0; omega, by show (0 : Int) ≤ 9223372036854775807; omega⟩
      have hp : putL [] ⟨s, ⟨#[]⟩ ++ t, 0⟩ = [⟨s, ⟨#[]⟩ ++ t, 0⟩] := rfl
      refine ⟨putL [] ⟨s, ⟨#[]⟩ ++ t, 0⟩, 0, ?_, ?_, ?_, specAppend_nil s t W hL ms mt (by omega) hc (by omega) hff0⟩
      · rw [hp]; intro f hf; simp at hf; subst hf; exact hff0
      · rw [hp]; simp
      · rw [hp]
        refine small_of (L := []) (by simp) fun f hf => ?_
        simp at hf
        subst hf
        exact ⟨by show s.size ≤ _; omega, by show ((⟨#[]⟩ : ByteArray) ++ t).size ≤ _; rw [emp_size]; omega⟩
    · simp at hi
/-- A block known whole is not the block of a row of another type. -/
theorem blk_row_ne {W : World} {b : Nat} {t e : TypeId} {cs : List Value} (h : Blk W b t cs) (hte : t ≠ e) {base size k : Nat} {v : Value} {xs : List Value} (hr : W.ownsRow base e size v k xs) : v.ownBlock ≠ some b := by
  rcases hr.2 with ⟨rfl, _⟩ | ⟨g, cap, cur, rfl, _, hgb, _⟩
  · simp [Value.ownBlock]
  · intro e'
    have hgb' : g = b := Option.some.inj e'
    subst hgb'
    have h2 : W.heap[g]? = some (.cells cs.toArray t (0, 0)) := h
    rw [h2] at hgb
    simp at hgb
    exact hte hgb.2
theorem St.set {w W : World} {B g : Nat} {A : Option Addr} {L : List Fil} {c p : Nat} (h : St w B g A L c W) (hg : g < w.heap.size) (hp : w.heap.size + 2 ≤ p) {cs : List Value} (hY : Blk W p 29 cs) (i : Nat) (v : Value) : St w B g A L c (W.setCell ⟨p, i, none⟩ v) := by
  obtain ⟨h1, h2, h3, h4, h5⟩ := h
  have hB := h1.lt
  obtain ⟨A', n', c', ix, mix, size, d1, d2, d3, d4, d5⟩ := h1
  have hBw : B ≤ w.heap.size := by omega
  refine ⟨⟨A', n', c', ix, mix, size, d1.far (p := ⟨p, i, none⟩) (by simp; omega) v, d2, by simpa [World.setCell] using d3, d4.of_block fun k hk => Below.heap_setCell W _ v k (by simp; omega), d5⟩, ?_, h3.far (p := ⟨p, i, none⟩) (by simp; omega) v, h4.far (p := ⟨p, i, none⟩) (by simp; omega) v, ⟨row_off h5.1 (p := ⟨p, i, none⟩) (blk_row_ne hY (by decide) h5.1) v, h5.2⟩⟩
  exact ⟨h2.os, h2.tape, h2.output, by simpa [World.setCell] using h2.size, fun k hk hne => (Below.heap_setCell W _ v k (by simp; omega)).trans (h2.block k hk hne)⟩
/-- .. and the box p of a change's answer. -/
def St2 (w : World) (B g : Nat) (A : Option Addr) (L : List Fil) (c p : Nat) (M : List Fil) (cd : Int) (C : Option Addr) (x : Nat) (W : World) : Prop :=
  St w B g A L c W ∧ Blk W p 29 [.slice C M.length x, .int .i64 cd] ∧ w.heap.size + 2 ≤ p ∧ OwnF W (w.heap.size + 2) (.slice C M.length x) M
theorem St2.draw {w W W' : World} {B g : Nat} {A : Option Addr} {L : List Fil} {c p : Nat} {M : List Fil} {cd : Int} {C : Option Addr} {x : Nat} (h : St2 w B g A L c p M cd C x W) (hg : g < w.heap.size) (hd : Drw W' B g) (ho : W.grownBy W' (some g)) : St2 w B g A L c p M cd C x W' :=
  ⟨h.1.draw hg hd ho, h.2.1.grown ho (fun e => by have := Option.some.inj e; have := h.2.2.1; omega), h.2.2.1, OwnF.draw h.2.2.2 ho (by omega)⟩
theorem St2.below {w W W' : World} {B g : Nat} {A : Option Addr} {L : List Fil} {c p : Nat} {M : List Fil} {cd : Int} {C : Option Addr} {x : Nat} (h : St2 w B g A L c p M cd C x W) (hb : Below W.heap.size W W') : St2 w B g A L c p M cd C x W' :=
  ⟨h.1.below hb, h.2.1.below hb h.2.1.lt, h.2.2.1, OwnF.below h.2.2.2 hb (Nat.le_refl _)⟩
/-- An answer laid into the box. -/
theorem st2_put {w W W' : World} {B g : Nat} {A : Option Addr} {L : List Fil} {c p : Nat} {M : List Fil} {cd : Int} {C : Option Addr} {x : Nat} {cs : List Value} (hs : St w B g A L c W) (hg : g < w.heap.size) (hp : w.heap.size + 2 ≤ p) (hY : Blk W p 29 cs) (hcs : cs.length = 2) (hb : Below W.heap.size W W') (hO : OwnF W' W.heap.size (.slice C M.length x) M) :
    St2 w B g A L c p M cd C x ((W'.setCell ⟨p, 0, none⟩ (.slice C M.length x)).setCell ⟨p, 1, none⟩ (.int .i64 cd)) := by
  have hlt := hY.lt
  have hY' := hY.below hb hY.lt
  have hs' := hs.below hb
  have hw := hs.2.1.size
  have e1 : ((cs.set 0 (.slice C M.length x)).set 1 (.int .i64 cd)) = [.slice C M.length x, .int .i64 cd] := by
    match cs, hcs with
    | [a, b], _ => rfl
  have k1 := hY'.put 0 (.slice C M.length x)
  have k2 := k1.put 1 (.int .i64 cd)
  rw [e1] at k2
  refine ⟨(hs'.set hg hp hY' 0 _).set hg hp k1 1 _, k2, hp, ?_⟩
  exact OwnF.base (OwnF.far (OwnF.far hO (p := ⟨p, 0, none⟩) (by simpa using hlt) _) (p := ⟨p, 1, none⟩) (by simpa using hlt) _) (by have := hs.2.2.2.1.lt; omega)
theorem st2_new {w W W' : World} {B g : Nat} {A : Option Addr} {L : List Fil} {c : Nat} {M : List Fil} {cd : Int} {C : Option Addr} {x : Nat} (hs : St w B g A L c W) (hb : Below W.heap.size W W') (hO : OwnF W' W.heap.size (.slice C M.length x) M) :
    St2 w B g A L c W'.heap.size M cd C x (W'.alloc (.cells #[.slice C M.length x, .int .i64 cd] 29)) := by
  have hl := hs.2.2.2.1.lt
  have hz := hb.size
  exact ⟨(hs.below hb).alloc _, Blk.fresh W' 29 [.slice C M.length x, .int .i64 cd], by omega, OwnF.base (OwnF.below hO ((Below.refl _ _).alloc (Nat.le_refl _) _) (Nat.le_refl _)) (by omega)⟩
theorem St2.drew {w W : World} {B g : Nat} {A : Option Addr} {L : List Fil} {c p : Nat} {M : List Fil} {cd : Int} {C : Option Addr} {x : Nat} (h : St2 w B g A L c p M cd C x W) : St2 w B g A L c p M cd C x W.drew := h.below (below_drew (Below.refl _ _))
/-- The answer's files taken. -/
theorem St2.take {w W : World} {B g : Nat} {A : Option Addr} {L : List Fil} {c p : Nat} {M : List Fil} {cd : Int} {C : Option Addr} {x : Nat} (h : St2 w B g A L c p M cd C x W) (hg : g < w.heap.size) : St w B g C M x (W.setCell ⟨w.heap.size + 1, 0, none⟩ (.slice C M.length x)) := by
  obtain ⟨⟨h1, h2, h3, h4, h5⟩, h6, h7, h8⟩ := h
  have hB := h1.lt
  obtain ⟨A', n', c', ix, mix, size, d1, d2, d3, d4, d5⟩ := h1
  refine ⟨⟨A', n', c', ix, mix, size, d1.far (p := ⟨w.heap.size + 1, 0, none⟩) (by simp; omega) _, d2, by simpa [World.setCell] using d3, d4.of_block fun k hk => Below.heap_setCell W _ _ k (by simp; omega), d5⟩, ?_, h3.far (p := ⟨w.heap.size + 1, 0, none⟩) (by simp) _, h4.put 0 (.slice C M.length x), OwnF.far h8 (p := ⟨w.heap.size + 1, 0, none⟩) (by simp) _⟩
  exact ⟨h2.os, h2.tape, h2.output, by simpa [World.setCell] using h2.size, fun k hk hne => (Below.heap_setCell W _ _ k (by simp; omega)).trans (h2.block k hk hne)⟩
/-- The result laid. -/
theorem St.fin {w W : World} {B g : Nat} {A : Option Addr} {L : List Fil} {c : Nat} (h : St w B g A L c W) (hg : g < w.heap.size) (v : Value) : OwnF (W.setCell ⟨w.heap.size, 0, none⟩ v) w.heap.size (.slice A L.length c) L ∧ Drw (W.setCell ⟨w.heap.size, 0, none⟩ v) B g ∧ w.grownBy (W.setCell ⟨w.heap.size, 0, none⟩ v) (some g) := by
  obtain ⟨h1, h2, h3, h4, h5⟩ := h
  have hB := h1.lt
  obtain ⟨A', n', c', ix, mix, size, d1, d2, d3, d4, d5⟩ := h1
  refine ⟨OwnF.base (OwnF.far h5 (p := ⟨w.heap.size, 0, none⟩) (by simp) v) (by omega), ⟨A', n', c', ix, mix, size, d1.far (p := ⟨w.heap.size, 0, none⟩) (by simp; omega) v, d2, by simpa [World.setCell] using d3, d4.of_block fun k hk => Below.heap_setCell W _ v k (by simp; omega), d5⟩, ?_⟩
  exact ⟨h2.os, h2.tape, h2.output, by simpa [World.setCell] using h2.size, fun k hk hne => (Below.heap_setCell W _ v k (by simp; omega)).trans (h2.block k hk hne)⟩
/-- A file appended to f's. -/
theorem St.app {w W w5 : World} {B g : Nat} {A : Option Addr} {L : List Fil} {c gg cap : Nat} {o : Obj} (h : St w B g A L c W) (hg : g < w.heap.size) (f : Fil) (hf : f.fits) (hown : w5.ownsRow (w.heap.size + 2) 53 3 (.slice (some ⟨gg, 0, none⟩) (L.length + 1) cap) (L.length + 1) (flat L ++ f.cells)) (hgr : (W.alloc o).grownBy w5 (Value.slice A L.length c).ownBlock) :
    St w B g (some ⟨gg, 0, none⟩) (L ++ [f]) cap (w5.setCell ⟨w.heap.size + 1, 0, none⟩ (.slice (some ⟨gg, 0, none⟩) (L.length + 1) cap)) := by
  have h' := h.alloc o
  have hrow : ∀ k, (Value.slice A L.length c).ownBlock = some k → w.heap.size + 2 ≤ k := fun k e => (h.2.2.2.2.1.lt k e).1
  have hlt := h'.1.lt
  have hBw : B ≤ w.heap.size := by omega
  obtain ⟨h1, h2, h3, h4, h5⟩ := h'
  have g1 := h1.grown hgr (fun k e => ⟨by have := hrow k e; omega, by have := hrow k e; omega⟩)
  have g3 := h3.grown hgr (fun e => by have := hrow _ e.symm; omega)
  have g4 := h4.grown hgr (fun e => by have := hrow _ e.symm; omega)
  have hz := hgr.size
  have hz2 := h2.size
  have g2 : w.grownBy w5 (some g) := ⟨hgr.os.trans h2.os, hgr.tape.trans h2.tape, hgr.output.trans h2.output, Nat.le_trans hz2 hz, fun k hk hne => (hgr.block k (by omega) (fun e => by have := hrow _ e.symm; omega)).trans (h2.block k hk hne)⟩
  obtain ⟨A', n', c', ix, mix, size, d1, d2, d3, d4, d5⟩ := g1
  have e1 : (L ++ [f]).length = L.length + 1 := by simp
  have g4' := g4.put 0 (.slice (some ⟨gg, 0, none⟩) (L.length + 1) cap)
  refine ⟨⟨A', n', c', ix, mix, size, d1.far (p := ⟨w.heap.size + 1, 0, none⟩) (by simp; omega) _, d2, by simpa [World.setCell] using d3, d4.of_block fun k hk => Below.heap_setCell w5 _ _ k (by simp; omega), d5⟩, ?_, g3.far (p := ⟨w.heap.size + 1, 0, none⟩) (by simp) _, by rw [e1]; exact g4', ?_⟩
  · exact ⟨g2.os, g2.tape, g2.output, by simpa [World.setCell] using g2.size, fun k hk hne => (Below.heap_setCell w5 _ _ k (by simp; omega)).trans (g2.block k hk hne)⟩
  · rw [e1]
    refine ⟨row_far (p := ⟨w.heap.size + 1, 0, none⟩) ?_ (by simp) _, fun x hx => ?_⟩
    · rw [e1, flat_append]; simpa [flat] using hown
    · rcases List.mem_append.1 hx with hx | hx
      · exact h5.2 x hx
      · simp at hx; subst hx; exact hf
theorem small_app {L : List Fil} {f : Fil} (h : Small L) (hl : L.length ≤ 1000) (h1 : f.name.size ≤ 1048576) (h2 : f.data.size ≤ 1048576) : Small (L ++ [f]) := by
  refine small_of (L := L) (by simp; omega) fun g hg => ?_
  rcases List.mem_append.1 hg with hg | hg
  · exact small_mem h hg
  · simp at hg; subst hg; exact ⟨h1, h2⟩
end Go.Proofs.YtpgodphnjeifhaaGreatDoor

namespace Go.Proofs.YtpgodphnjeifhaaGreatDoor
open Go.RowKit
set_option linter.unusedVariables false
set_option maxRecDepth 1000000

theorem one_str8 (b : Int) (w : World) : (convert 22 9 (.slice (some ⟨w.heap.size, 0, none⟩) 1 1)).run Tryz.prog (w.alloc (.cells #[.int .u8 b] 5)) = .ok (.string (strOfNums [b])) (w.alloc (.cells #[.int .u8 b] 5)) :=
  own_string (base := w.heap.size) (n := 1) (ns := [b]) (World.ownsRow_lit w #[.int .u8 b] 1 (Nat.le_refl _) (by decide) rfl)

set_option maxHeartbeats 2000000 in
theorem l01Dec_any (n : Int) (w : World) (h0 : 1 ≤ n) (h1 : n ≤ 99) :
    Calls Tryz.prog 78 #[.int .i64 n] w fun e w' => ∃ s : ByteArray, e = .returned (.string s) ∧ s.size ≤ 2 ∧ Below w.heap.size w w' := by
  have d0 : (n == 0) = false := by simp; omega
  have d1 : decide (n < 0) = false := by simp; omega
  go_enter Tryz.func78, Tryz.ntmps78
  go_wp2
  go_loopw [0, 4] (fun m o wr => ∃ (q : Int) (s : ByteArray), m = .int .i64 q ∧ o = .string s ∧ 0 ≤ q ∧ ((q ≤ 99 ∧ s.size = 0) ∨ (q ≤ 9 ∧ s.size = 1) ∨ (q = 0 ∧ s.size ≤ 2)) ∧ Below w.heap.size w wr) (fun m _ _ => (intOf m).toNat)
  case atStart => exact ⟨n, ⟨#[]⟩, rfl, rfl, by omega, .inl ⟨h1, rfl⟩, Below.refl _ _⟩
  case round =>
    obtain ⟨q, s, rfl, rfl, q0, hq, hb⟩ := hrel
    have hq99 : q ≤ 99 := by omega
    by_cases hz : q = 0
    · have hs2 : s.size ≤ 2 := by omega
      subst hz
      clear hq
      go_wp2
      go_ret
      exact ⟨s, rfl, hs2, hb⟩
    · have dz : (q != 0) = true := by simpa using hz
      have hm0 := Int.emod_nonneg q (show (10 : Int) ≠ 0 by decide)
      have hm1 := Int.emod_lt_of_pos q (show (0 : Int) < 10 by decide)
      have dl : decide (q % 10 < 0) = false := by simp; omega
      have hcv := fun W => one_str8 (48 + q % 10) W
      obtain ⟨c, HC⟩ : ∃ c, Hid (strOfNums [48 + q % 10] = c) := ⟨_, Lib.hid rfl⟩
      have hc1 : c.size ≤ 1 ∧ 1 ≤ c.size := by rw [← HC.out, strOfNums_size]; exact ⟨Nat.le_refl _, Nat.le_refl _⟩
      rw [HC.out] at hcv
      have hs2 : s.size ≤ 2 := by omega
      have HQ := Lib.hid hq
      clear hq
      go_wp2
      refine ⟨⟨q / 10, c ++ s, rfl, rfl, by omega, ?_, hb.alloc hb.size _⟩, by simp [intOf]; omega⟩
      have hq := HQ.out
      rw [ByteArray.size_append]
      omega
end Go.Proofs.YtpgodphnjeifhaaGreatDoor

namespace Go.Proofs.YtpgodphnjeifhaaGreatDoor
open Go.RowKit
set_option linter.unusedVariables false
set_option maxRecDepth 1000000

/-- How many files lie in the box b. -/
def fLen (b : Nat) (W : World) : Nat := match W.cell? ⟨b, 0, none⟩ with
  | some (.slice _ n _) => n
  | _ => 0
theorem fLen_of {b n c : Nat} {A : Option Addr} {W : World} (h : W.cell? ⟨b, 0, none⟩ = some (.slice A n c)) : fLen b W = n := by unfold fLen; rw [h]

set_option maxHeartbeats 32000000 in
theorem l03Fs_any (B g : Nat) (w : World) (h : Drw w B g) :
    Calls Tryz.prog 58 #[.pointer (some ⟨g, 0, none⟩)] w fun e w' => ∃ (L : List Fil) (A : Option Addr) (c : Nat), e = .returned (.agg #[.slice A L.length c]) ∧ OwnF w' w.heap.size (.slice A L.length c) L ∧ Small L ∧ L.length ≤ 30 ∧ Drw w' B g ∧ w.grownBy w' (some g) := by
  have hgl := h.lt.2.1
  have hs0 : St w B g none [] 0 ((w.alloc (.cells #[.slice none 0 0] 25)).alloc (.cells #[.slice none 0 0] 25)) := by
    have hb1 := (Blk.fresh w 25 [.slice none 0 0]).alloc (.cells #[.slice none 0 0] 25)
    have hb2 := Blk.fresh (w.alloc (.cells #[.slice none 0 0] 25)) 25 [.slice none 0 0]
    simp only [World.size_alloc] at hb2
    exact ⟨(h.alloc _).alloc _, only_trans (World.grownBy_alloc w _ _) (World.grownBy_alloc _ _ _), hb1, hb2, ownF_nil _ _⟩
  have HS0 := Lib.hid hs0
  clear hs0
  go_enter Tryz.func58, Tryz.ntmps58
  go_wp2_with (fail)
  refine (n_any B g 10 _ HS0.out.1 (by omega) (by omega)).mono ?_
  rintro e w1 ⟨n, rfl, n0, n1, _, hd1, ho1⟩
  have n2 := n1 (by omega)
  clear n1
  have HS1 := Lib.hid (HS0.out.draw hgl hd1 ho1)
  go_wp2
  go_loopw [4] (fun i wr => ∃ (k : Nat) (L : List Fil) (A : Option Addr) (c : Nat), i = .int .i64 k ∧ L.length + k ≤ 9 ∧ Small L ∧ St w B g A L c wr) (fun i _ => (intOf i).toNat)
  case atStart => exact ⟨n.toNat, [], none, 0, by congr 1; omega, by simp; omega, small_nil, HS1.out⟩
  case round =>
    clear HS0 HS1 ho1 hd1
    obtain ⟨k, L, A, c, rfl, hlk, hS, hst⟩ := hrel
    by_cases hk : 0 < k
    · have hk' : decide (0 < (k : Int)) = true := by simp; omega
      have hs : St w B g A L c wr.drew := hst.drew
      go_wp2_with (fail)
      go_region_held3 (fun W => W.cell? ⟨w.heap.size + 1, 0, none⟩ = some (.slice A L.length c))
        (first
          | exact hs.2.2.2.1.cell (i := 0) rfl
          | exact (hs.alloc (.cells #[.slice none 0 0, .int .i64 0] 29)).2.2.2.1.cell (i := 0) rfl
          | exact (hs.below hbd).2.2.2.1.cell (i := 0) rfl
          | exact ((hs.below hbd).alloc (.cells #[.slice none 0 0, .int .i64 0] 29)).2.2.2.1.cell (i := 0) rfl
          | exact ((hs.below hbd).alloc (.cells #[.slice C M.length x, .int .i64 cd] 29)).2.2.2.1.cell (i := 0) rfl
          | exact hq.1.2.2.2.1.cell (i := 0) rfl)
        (first
          | (go_at_call 69; first
              | (have hdr := hs.1; (with_reducible refine (l03Name_any B g _ hdr).mono ?_); clear hdr; rintro e wa ⟨s, rfl, hsz, hda, hoa⟩; replace hs := hs.draw hgl hda hoa)
              | (have hs2 := (hst.alloc (.cells #[.slice none 0 0, .int .i64 0] 29)).drew; have hdr := hs2.1; (with_reducible refine (l03Name_any B g _ hdr).mono ?_); clear hdr; rintro e wa ⟨s, rfl, hsz, hda, hoa⟩; have hp : w.heap.size + 2 ≤ wr.heap.size := hst.2.2.2.1.lt; have hY : Blk wa wr.heap.size 29 [.slice none 0 0, .int .i64 0] := (Blk.fresh wr 29 [.slice none 0 0, .int .i64 0]).drew.grown hoa (fun e => by have h1 : wr.heap.size = g := Option.some.inj e; omega); replace hs := hs2.draw hgl hda hoa; clear hs2))
          | (go_at_call 36; first
              | (have hdr := hs.1; (with_reducible refine (n_any B g 5 _ hdr (by omega) (by omega)).mono ?_); clear hdr; rintro e wb ⟨y, rfl, y0, y1, _, hdb, hob⟩; have y2 := y1 (by omega); clear y1; (try replace hY := hY.grown hob (fun e => by have := Option.some.inj e; omega)); replace hs := hs.draw hgl hdb hob)
              | (have hdr := (hs.alloc (.cells #[.slice none 0 0, .int .i64 0] 29)).1; (with_reducible refine (n_any B g 5 _ hdr (by omega) (by omega)).mono ?_); clear hdr; rintro e wb ⟨y, rfl, y0, y1, _, hdb, hob⟩; have y2 := y1 (by omega); clear y1; have hp : w.heap.size + 2 ≤ wa.heap.size := hs.2.2.2.1.lt; have hY := (Blk.fresh wa 29 [.slice none 0 0, .int .i64 0]).grown hob (fun e => by have := Option.some.inj e; omega); replace hs := (hs.alloc (.cells #[.slice none 0 0, .int .i64 0] 29)).draw hgl hdb hob))
          | (go_at_call 37; first
              | (have hdr := hs.1; (with_reducible refine (bytes_any B g y _ hdr (by omega) (by omega)).mono ?_); clear hdr; rintro e wc ⟨t, rfl, htz, hdc, hoc⟩; (try replace hY := hY.grown hoc (fun e => by have := Option.some.inj e; omega)); replace hs := hs.draw hgl hdc hoc)
              | (have hdr := (hs.alloc (.cells #[.slice none 0 0, .int .i64 0] 29)).1; (with_reducible refine (bytes_any B g y _ hdr (by omega) (by omega)).mono ?_); clear hdr; rintro e wc ⟨t, rfl, htz, hdc, hoc⟩; have hp : w.heap.size + 2 ≤ wb.heap.size := hs.2.2.2.1.lt; have hY := (Blk.fresh wb 29 [.slice none 0 0, .int .i64 0]).grown hoc (fun e => by have := Option.some.inj e; omega); replace hs := (hs.alloc (.cells #[.slice none 0 0, .int .i64 0] 29)).draw hgl hdc hoc))
          | (go_at_call 13; first
              | (obtain ⟨M, cd, m1, m2, m3, CA⟩ := chgAppend hs hS (s := s) (t := t) (by omega) (by omega); (with_reducible refine CA.mono ?_); clear CA; rintro e wd ⟨C, x, rfl, hO, hbd⟩; (try have y0 := (hY.below hbd hY.lt).cell (i := 0) rfl); (try have y1 := (hY.below hbd hY.lt).cell (i := 1) rfl); (try have f0 := (hY.below hbd hY.lt).froz 0); (try have f1 := (hY.below hbd hY.lt).froz 1); (try have hq := st2_put (cd := cd) hs hgl hp hY rfl hbd hO))
              | (obtain ⟨M, cd, m1, m2, m3, CA⟩ := chgAppend (hs.alloc (.cells #[.slice none 0 0, .int .i64 0] 29)) hS (s := s) (t := t) (by omega) (by omega); (with_reducible refine CA.mono ?_); clear CA; rintro e wd ⟨C, x, rfl, hO, hbd⟩; have hp : w.heap.size + 2 ≤ wc.heap.size := hs.2.2.2.1.lt; have hY := Blk.fresh wc 29 [.slice none 0 0, .int .i64 0]; replace hs := hs.alloc (.cells #[.slice none 0 0, .int .i64 0] 29); have y0 := (hY.below hbd hY.lt).cell (i := 0) rfl; have y1 := (hY.below hbd hY.lt).cell (i := 1) rfl; have f0 := (hY.below hbd hY.lt).froz 0; have f1 := (hY.below hbd hY.lt).froz 1; have hq := st2_put (cd := cd) hs hgl hp hY rfl hbd hO)))
      focus
        have hq := st2_new (cd := cd) hs hbd hO
        generalize wd.alloc (.cells #[.slice C M.length x, .int .i64 cd] 29) = wy at hq ⊢
        generalize wd.heap.size = p at hq ⊢
      rotate_left
      focus
        generalize (wd.setCell ⟨wc.heap.size, 0, none⟩ (.slice C M.length x)).setCell ⟨wc.heap.size, 1, none⟩ (.int .i64 cd) = wy at hq ⊢
        generalize wc.heap.size = p at hq ⊢
      rotate_left
      focus
        generalize (wd.setCell ⟨wb.heap.size, 0, none⟩ (.slice C M.length x)).setCell ⟨wb.heap.size, 1, none⟩ (.int .i64 cd) = wy at hq ⊢
        generalize wb.heap.size = p at hq ⊢
      rotate_left
      focus
        generalize (wd.setCell ⟨wa.heap.size, 0, none⟩ (.slice C M.length x)).setCell ⟨wa.heap.size, 1, none⟩ (.int .i64 cd) = wy at hq ⊢
        generalize wa.heap.size = p at hq ⊢
      rotate_left
      focus
        generalize (wd.setCell ⟨wr.heap.size, 0, none⟩ (.slice C M.length x)).setCell ⟨wr.heap.size, 1, none⟩ (.int .i64 cd) = wy at hq ⊢
        generalize wr.heap.size = p at hq ⊢
      all_goals
        clear hs hst hda hoa hdb hob hdc hoc hO hbd
        try clear hY hp y0 y1 f0 f1
        go_wp2_with (fail)
        have hqr := hq.1.1
        refine (n_any B g 8 _ hqr (by omega) (by omega)).mono ?_
        rintro e wz ⟨j, rfl, j0, j1, _, hdz, hoz⟩
        have j2 := j1 (by omega)
        replace hq := hq.draw hgl hdz hoz
        clear j1 hqr hdz hoz
      all_goals
        have FINI : Hid (∀ (M : List Fil) (C : Option Addr) (x : Nat) (wv : World), M.length ≤ L.length + 1 → Small M → St w B g C M x wv → ∃ (k' : Nat) (L : List Fil) (A : Option Addr) (c : Nat), Value.int .i64 ((k : Int) - 1) = .int .i64 k' ∧ L.length + k' ≤ 9 ∧ Small L ∧ St w B g A L c wv) := Lib.hid fun M C x wv h1 h2 h3 => ⟨k - 1, M, C, x, by congr 1; omega, by omega, h2, h3⟩
        have hjj : j = 0 ∨ (¬ j = 0 ∧ j = 1) ∨ (¬ j = 0 ∧ ¬ j = 1 ∧ j = 2) ∨ (¬ j = 0 ∧ ¬ j = 1 ∧ ¬ j = 2) := by omega
        rcases hjj with rfl | ⟨e0, rfl⟩ | ⟨e0, e1, rfl⟩ | ⟨e0, e1, e2⟩
        focus
          have hqd := hq.drew
          go_wp2_with (fail)
          go_region_held3 (fun W => W.cell? ⟨w.heap.size + 1, 0, none⟩ = some (.slice A L.length c))
            (first
              | exact hqd.1.2.2.2.1.cell (i := 0) rfl
              | exact (hqd.1.below hbe).2.2.2.1.cell (i := 0) rfl
              | exact hq2.1.2.2.2.1.cell (i := 0) rfl)
            (first
              | (go_at_call 69; have hdr := hqd.1.1; (with_reducible refine (l03Name_any B g _ hdr).mono ?_); clear hdr; first | (have _q := hsz2; rintro e wa3 ⟨s3, rfl, hsz3, hda3, hoa3⟩; clear _q; replace hqd := hqd.draw hgl hda3 hoa3) | (rintro e wa2 ⟨s2, rfl, hsz2, hda2, hoa2⟩; replace hqd := hqd.draw hgl hda2 hoa2))
              | (go_at_call 28; obtain ⟨M2, cd2, k1, k2, k3, CA⟩ := chgSync hqd.1 hS (s := s2) (by omega); (with_reducible refine CA.mono ?_); clear CA; rintro e we ⟨C2, x2, rfl, hO2, hbe⟩; have y0 := (hqd.2.1.below hbe hqd.2.1.lt).cell (i := 0) rfl; have y1 := (hqd.2.1.below hbe hqd.2.1.lt).cell (i := 1) rfl; have f0 := (hqd.2.1.below hbe hqd.2.1.lt).froz 0; have f1 := (hqd.2.1.below hbe hqd.2.1.lt).froz 1; have hq2 := st2_put (cd := cd2) hqd.1 hgl hqd.2.2.1 hqd.2.1 rfl hbe hO2))
          clear y0 y1 f0 f1 hqd hq
          generalize (we.setCell ⟨p, 0, none⟩ (.slice C2 M2.length x2)).setCell ⟨p, 1, none⟩ (.int .i64 cd2) = wv at hq2 ⊢
        rotate_left
        focus
          have hqd := hq.drew
          go_wp2_with (fail)
          go_region_held3 (fun W => W.cell? ⟨w.heap.size + 1, 0, none⟩ = some (.slice A L.length c))
            (first
              | exact hqd.1.2.2.2.1.cell (i := 0) rfl
              | exact (hqd.1.below hbe).2.2.2.1.cell (i := 0) rfl
              | exact hq2.1.2.2.2.1.cell (i := 0) rfl)
            (first
              | (go_at_call 69; have hdr := hqd.1.1; (with_reducible refine (l03Name_any B g _ hdr).mono ?_); clear hdr; first | (have _q := hsz2; rintro e wa3 ⟨s3, rfl, hsz3, hda3, hoa3⟩; clear _q; replace hqd := hqd.draw hgl hda3 hoa3) | (rintro e wa2 ⟨s2, rfl, hsz2, hda2, hoa2⟩; replace hqd := hqd.draw hgl hda2 hoa2))
              | (go_at_call 14; obtain ⟨M2, cd2, k1, k2, k3, CA⟩ := chgRename hqd.1 hS (s := s2) (t := s3) (by omega) (by omega); (with_reducible refine CA.mono ?_); clear CA; rintro e we ⟨C2, x2, rfl, hO2, hbe⟩; have y0 := (hqd.2.1.below hbe hqd.2.1.lt).cell (i := 0) rfl; have y1 := (hqd.2.1.below hbe hqd.2.1.lt).cell (i := 1) rfl; have f0 := (hqd.2.1.below hbe hqd.2.1.lt).froz 0; have f1 := (hqd.2.1.below hbe hqd.2.1.lt).froz 1; have hq2 := st2_put (cd := cd2) hqd.1 hgl hqd.2.2.1 hqd.2.1 rfl hbe hO2))
          clear y0 y1 f0 f1 hqd hq
          generalize (we.setCell ⟨p, 0, none⟩ (.slice C2 M2.length x2)).setCell ⟨p, 1, none⟩ (.int .i64 cd2) = wv at hq2 ⊢
        rotate_left
        focus
          have hqd := hq.drew
          go_wp2_with (fail)
          go_region_held3 (fun W => W.cell? ⟨w.heap.size + 1, 0, none⟩ = some (.slice A L.length c))
            (first
              | exact hqd.1.2.2.2.1.cell (i := 0) rfl
              | exact (hqd.1.below hbe).2.2.2.1.cell (i := 0) rfl
              | exact hq2.1.2.2.2.1.cell (i := 0) rfl)
            (first
              | (go_at_call 69; have hdr := hqd.1.1; (with_reducible refine (l03Name_any B g _ hdr).mono ?_); clear hdr; first | (have _q := hsz2; rintro e wa3 ⟨s3, rfl, hsz3, hda3, hoa3⟩; clear _q; replace hqd := hqd.draw hgl hda3 hoa3) | (rintro e wa2 ⟨s2, rfl, hsz2, hda2, hoa2⟩; replace hqd := hqd.draw hgl hda2 hoa2))
              | (go_at_call 36; have hdr := hqd.1.1; (with_reducible refine (n_any B g 3 _ hdr (by omega) (by omega)).mono ?_); clear hdr; rintro e wn ⟨z, rfl, z0, z1, _, hdn, hon⟩; have z2 := z1 (by omega); clear z1; replace hqd := hqd.draw hgl hdn hon)
              | (go_at_call 29; obtain ⟨M2, cd2, k1, k2, k3, CA⟩ := chgCut hqd.1 hS (s := s2) (z := z) (by omega) z0 (by omega); (with_reducible refine CA.mono ?_); clear CA; rintro e we ⟨C2, x2, rfl, hO2, hbe⟩; have y0 := (hqd.2.1.below hbe hqd.2.1.lt).cell (i := 0) rfl; have y1 := (hqd.2.1.below hbe hqd.2.1.lt).cell (i := 1) rfl; have f0 := (hqd.2.1.below hbe hqd.2.1.lt).froz 0; have f1 := (hqd.2.1.below hbe hqd.2.1.lt).froz 1; have hq2 := st2_put (cd := cd2) hqd.1 hgl hqd.2.2.1 hqd.2.1 rfl hbe hO2))
          clear y0 y1 f0 f1 hqd hq
          generalize (we.setCell ⟨p, 0, none⟩ (.slice C2 M2.length x2)).setCell ⟨p, 1, none⟩ (.int .i64 cd2) = wv at hq2 ⊢
        rotate_left
        focus
          have d0 : (j == 0) = false := by simpa using e0
          have d1 : (j == 1) = false := by simpa using e1
          have d2 : (j == 2) = false := by simpa using e2
          have hq2 := hq
          have k2 := m2
          have k3 := m3
          clear hq m1 m2 m3 e0 e1 e2
          obtain ⟨M2, rfl⟩ : ∃ z, z = M := ⟨_, rfl⟩
          obtain ⟨cd2, rfl⟩ : ∃ z, z = cd := ⟨_, rfl⟩
          obtain ⟨C2, rfl⟩ : ∃ z, z = C := ⟨_, rfl⟩
          obtain ⟨x2, rfl⟩ : ∃ z, z = x := ⟨_, rfl⟩
      all_goals
        have yc := hq2.2.1.cell (i := 1) rfl
        have yd := hq2.2.1.cell (i := 0) rfl
        have fb := hq2.1.2.2.2.1.cell (i := 0) rfl
        have ff := hq2.1.2.2.2.1.froz 0
        by_cases ec : cd2 = 0
        · subst ec
          have hst3 := hq2.take hgl
          go_wp2
          exact ⟨FINI.out M2 C2 x2 _ k2 k3 hst3, by simp [intOf]; omega⟩
        · have ecb : (cd2 == 0) = false := by simpa using ec
          have hst3 := hq2.1
          go_wp2
          exact ⟨FINI.out L A c _ (by omega) hS hst3, by simp [intOf]; omega⟩
    · obtain rfl : k = 0 := by omega
      have FIN : Hid (∀ (L : List Fil) (A : Option Addr) (c : Nat) (W : World) (v : Value), L.length ≤ 30 → Small L → St w B g A L c W → ∃ (L' : List Fil) (A' : Option Addr) (c' : Nat), Ending.returned (.agg #[.slice A L.length c]) = .returned (.agg #[.slice A' L'.length c']) ∧ OwnF (W.setCell ⟨w.heap.size, 0, none⟩ v) w.heap.size (.slice A' L'.length c') L' ∧ Small L' ∧ L'.length ≤ 30 ∧ Drw (W.setCell ⟨w.heap.size, 0, none⟩ v) B g ∧ w.grownBy (W.setCell ⟨w.heap.size, 0, none⟩ v) (some g)) := Lib.hid fun L A c W v h1 h2 h3 => ⟨L, A, c, rfl, (h3.fin hgl v).1, h2, h1, (h3.fin hgl v).2.1, (h3.fin hgl v).2.2⟩
      have hl9 : L.length ≤ 9 := by omega
      go_wp2_with (fail)
      have hdr := hst.1
      refine (one_any B g 20 _ hdr (by omega) (by omega)).mono ?_
      rintro e w2 ⟨b, rfl, hd2, ho2⟩
      replace hst := hst.draw hgl hd2 ho2
      clear hdr hd2 ho2
      cases b
      · have r0 := hst.2.2.1.cell (i := 0) rfl
        have rf := hst.2.2.1.froz 0
        have c0 := hst.2.2.2.1.cell (i := 0) rfl
        go_wp2
        have k0 := (hst.2.2.1.put 0 (.slice A L.length c)).cell (i := 0) rfl
        exact bodyPost_ret (v := .agg #[.slice A L.length c]) (by simp only [results, Tryz.results58]; simp [go_sem, k0]) rfl (FIN.out L A c w2 _ (by omega) hS hst)
      · go_wp2_with (fail)
        have hdr := hst.1
        refine (n_any B g 3 _ hdr (by omega) (by omega)).mono ?_
        rintro e w3 ⟨j, rfl, j0, j1, _, hd3, ho3⟩
        have j2 := j1 (by omega)
        replace hst := hst.draw hgl hd3 ho3
        clear hdr hd3 ho3 j1
        have hjj : j = 0 ∨ (¬ j = 0 ∧ j = 1) ∨ (¬ j = 0 ∧ ¬ j = 1) := by omega
        rcases hjj with rfl | ⟨e0, rfl⟩ | ⟨e0, e1⟩
        · obtain ⟨i0, hi0, hz0, hz1, hz2⟩ := info_parts infoFile
          have P3 : Hid (Calls Tryz.prog 42 #[.pointer (some ⟨g, 0, none⟩), .slice (some ⟨w3.heap.size, 0, none⟩) 3 3] (w3.alloc (.cells #[.string ⟨#[65]⟩, .string ⟨#[97]⟩, .string ⟨#[122, 122]⟩] 9)).drew fun e w' => ∃ s, s ∈ [(⟨#[65]⟩ : ByteArray), ⟨#[97]⟩, ⟨#[122, 122]⟩] ∧ e = .returned (.string s) ∧ Drw w' B g ∧ (w3.alloc (.cells #[.string ⟨#[65]⟩, .string ⟨#[97]⟩, .string ⟨#[122, 122]⟩] 9)).drew.grownBy w' (some g)) := Lib.hid (pick_any B g w3.heap.size [⟨#[65]⟩, ⟨#[97]⟩, ⟨#[122, 122]⟩] _ (hst.alloc (.cells #[.string ⟨#[65]⟩, .string ⟨#[97]⟩, .string ⟨#[122, 122]⟩] 9)).drew.1 (Blk.fresh w3 9 [.string ⟨#[65]⟩, .string ⟨#[97]⟩, .string ⟨#[122, 122]⟩]).drew (by decide) (by decide))
          have hsz3 : Hid (∀ s ∈ [(⟨#[65]⟩ : ByteArray), ⟨#[97]⟩, ⟨#[122, 122]⟩], s.size ≤ 20) := Lib.hid (by decide)
          have hs := (hst.alloc (.cells #[.string ⟨#[65]⟩, .string ⟨#[97]⟩, .string ⟨#[122, 122]⟩] 9)).drew
          have c0 : w3.drew.cell? ⟨w.heap.size + 1, 0, none⟩ = some (.slice A L.length c) := hst.drew.2.2.2.1.cell (i := 0) rfl
          have c0b : (w3.alloc (.cells #[.string ⟨#[65]⟩, .string ⟨#[97]⟩, .string ⟨#[122, 122]⟩] 9)).drew.cell? ⟨w.heap.size + 1, 0, none⟩ = some (.slice A L.length c) := hs.2.2.2.1.cell (i := 0) rfl
          go_wp2_with (fail)
          go_region_law
            (first
              | (go_simp; go_at_call 42; (with_reducible refine P3.out.mono ?_); rintro e wa ⟨s, hsm, rfl, hda, hoa⟩; have hsz := hsz3.out s hsm; clear hsm; replace hs := hs.draw hgl hda hoa; have ca := hs.2.2.2.1.cell (i := 0) rfl)
              | (go_simp; go_at_call 36; have hdr := hs.1; (with_reducible refine (n_any B g 2 _ hdr (by omega) (by omega)).mono ?_); clear hdr; rintro e wb ⟨z, rfl, z0, z1, _, hdb, hob⟩; have z2 := z1 (by omega); clear z1; replace hs := hs.draw hgl hdb hob; have cb := hs.2.2.2.1.cell (i := 0) rfl; have cba := (hs.alloc (.cells #[.string s, .string ⟨#[]⟩, .int .i64 z] 53)).2.2.2.1.cell (i := 0) rfl)
              | (refine step_append_lies _ (by rfl) _ _ _ (by rfl) (w.heap.size + 2) 53 i0 _ 3 40 Tryz.underlying23 hi0 hz0 hz1 hz2 rfl (by omega) (.slice A L.length c) L.length (flat L) (by rfl) (hs.2.2.2.2.1.alloc _) ⟨wb.heap.size, 0, none⟩ 1 1 [.string s, .string ⟨#[]⟩, .int .i64 z] (by rfl) (by rfl) (World.news_of_block (cs := #[.string s, .string ⟨#[]⟩, .int .i64 z]) (t := 53) (fr := (0, 0)) (heap_alloc_new wb _)) (by simp [Value.oneCell']) (by omega) (by unfold maxLen; omega) (by omega) (by have := hs.2.2.2.1.lt; simp; omega) (wb.heap.size + 1) (by simp) ?_; intro gg cap w5 hown5 hgrow5 hat5 hlt5; have F5 := (hs.alloc (.cells #[.string s, .string ⟨#[]⟩, .int .i64 z] 53)).2.2.2.1.grown hgrow5 (fun e => by have := (hs.2.2.2.2.1.lt _ e.symm).1; omega); have y5 := F5.cell (i := 0) rfl; have f5 := F5.froz 0))
          all_goals
            have hff : (⟨s, ⟨#[]⟩, z⟩ : Fil).fits := ⟨by show s.size ≤ maxLen; unfold maxLen; omega, by show (0 : Nat) ≤ maxLen; unfold maxLen; omega, by show (-9223372036854775808 : Int) ≤ z; omega, by show z ≤ (9223372036854775807 : Int); omega⟩
          all_goals
            have hst2 := hs.app hgl ⟨s, ⟨#[]⟩, z⟩ hff hown5 hgrow5
            have hS2 : Small (L ++ [(⟨s, ⟨#[]⟩, z⟩ : Fil)]) := small_app hS (by omega) (by show s.size ≤ _; omega) (by show (0 : Nat) ≤ _; omega)
            have hl2 : (L ++ [(⟨s, ⟨#[]⟩, z⟩ : Fil)]).length = L.length + 1 := by simp
            clear y5 f5 F5 hown5 hgrow5
            generalize w5.setCell ⟨w.heap.size + 1, 0, none⟩ (.slice (some ⟨gg, 0, none⟩) (L.length + 1) cap) = w6 at hst2 ⊢
            have r0 := hst2.2.2.1.cell (i := 0) rfl
            have rf := hst2.2.2.1.froz 0
            have q0 := hst2.2.2.2.1.cell (i := 0) rfl
            rw [hl2] at q0
            go_wp2
            have k0 := (hst2.2.2.1.put 0 (.slice (some ⟨gg, 0, none⟩) (L.length + 1) cap)).cell (i := 0) rfl
            have hF := FIN.out _ _ _ w6 (.slice (some ⟨gg, 0, none⟩) (L.length + 1) cap) (by rw [hl2]; omega) hS2 hst2
            rw [hl2] at hF
            exact bodyPost_ret (v := .agg #[.slice (some ⟨gg, 0, none⟩) (L.length + 1) cap]) (by simp only [results, Tryz.results58]; simp [go_sem, k0]) rfl hF
        · obtain ⟨i0, hi0, hz0, hz1, hz2⟩ := info_parts infoFile
          have L0 : Hid (∃ (L : List Fil) (A : Option Addr) (c : Nat), L.length ≤ 13 ∧ Small L ∧ St w B g A L c w3) := Lib.hid ⟨L, A, c, by omega, hS, hst⟩
          clear hst hS hl9 hlk
          go_wp2_with (fail)
          go_loopw [86] (fun _ wr => ∃ (L : List Fil) (A : Option Addr) (c : Nat), L.length ≤ 13 ∧ Small L ∧ St w B g A L c wr) (fun _ wr => 13 - fLen (w.heap.size + 1) wr)
          case atStart => exact L0.out
          case round =>
            clear L0
            obtain ⟨L, A, c, hL13, hS, hst⟩ := hrel
            have hfl := Lib.hid (fLen_of (hst.2.2.2.1.cell (i := 0) rfl))
            have hs := hst.drew
            go_wp2_with (fail)
            go_region_held3 (fun W => W.cell? ⟨w.heap.size + 1, 0, none⟩ = some (.slice A L.length c))
              (first
                | exact hs.2.2.2.1.cell (i := 0) rfl)
              (first
                | (go_at_call 36; have hdr := hs.1; (with_reducible refine (n_any B g 3 _ hdr (by omega) (by omega)).mono ?_); clear hdr; rintro e wa ⟨v, rfl, v0, v1, _, hda, hoa⟩; have v2 := v1 (by omega); clear v1; replace hs := hs.draw hgl hda hoa; have hwv : IntKind.i64.wrap (11 + v) = 11 + v := (by rw [IntWalk.i64_in _ (by omega)])))
            clear hda hoa hst
            by_cases hlt : (L.length : Int) < 11 + v
            · have hd : decide ((L.length : Int) < 11 + v) = true := by simpa using hlt
              have hwl : IntKind.i64.wrap (10 + (L.length : Int)) = 10 + (L.length : Int) := by rw [IntWalk.i64_in _ (by omega)]
              have c0 : wa.drew.cell? ⟨w.heap.size + 1, 0, none⟩ = some (.slice A L.length c) := hs.drew.2.2.2.1.cell (i := 0) rfl
              replace hs := hs.drew
              go_wp2_with (fail)
              go_region_law
                (first
                  | (go_simp; go_at_call 78; (with_reducible refine (l01Dec_any (10 + (L.length : Int)) _ (by omega) (by omega)).mono ?_); rintro e wb ⟨d, rfl, hdz, hbb⟩; have hdn : ¬ 9223372036854775807 < 1 + d.size := (by omega); replace hs := hs.below hbb; have cb := hs.2.2.2.1.cell (i := 0) rfl; have cba := (hs.alloc (.cells #[.string (⟨#[116]⟩ ++ d), .string ⟨#[]⟩, .int .i64 0] 53)).2.2.2.1.cell (i := 0) rfl)
                  | (refine step_append_lies _ (by rfl) _ _ _ (by rfl) (w.heap.size + 2) 53 i0 _ 3 40 Tryz.underlying23 hi0 hz0 hz1 hz2 rfl (by omega) (.slice A L.length c) L.length (flat L) (by rfl) (hs.2.2.2.2.1.alloc _) ⟨wb.heap.size, 0, none⟩ 1 1 [.string (⟨#[116]⟩ ++ d), .string ⟨#[]⟩, .int .i64 0] (by rfl) (by rfl) (World.news_of_block (cs := #[.string (⟨#[116]⟩ ++ d), .string ⟨#[]⟩, .int .i64 0]) (t := 53) (fr := (0, 0)) (heap_alloc_new wb _)) (by simp [Value.oneCell']) (by omega) (by unfold maxLen; omega) (by omega) (by have := hs.2.2.2.1.lt; simp; omega) (wb.heap.size + 1) (by simp) ?_; intro gg cap w5 hown5 hgrow5 hat5 hlt5; have F5 := (hs.alloc (.cells #[.string (⟨#[116]⟩ ++ d), .string ⟨#[]⟩, .int .i64 0] 53)).2.2.2.1.grown hgrow5 (fun e => by have := (hs.2.2.2.2.1.lt _ e.symm).1; omega); have y5 := F5.cell (i := 0) rfl; have f5 := F5.froz 0))
              all_goals
                have hns : ((⟨#[116]⟩ : ByteArray) ++ d).size ≤ 20 := by rw [ByteArray.size_append]; show 1 + d.size ≤ 20; omega
                have hff : (⟨⟨#[116]⟩ ++ d, ⟨#[]⟩, 0⟩ : Fil).fits := ⟨by show ((⟨#[116]⟩ : ByteArray) ++ d).size ≤ maxLen; unfold maxLen; omega, by show (0 : Nat) ≤ maxLen; unfold maxLen; omega, by show (-9223372036854775808 : Int) ≤ 0; omega, by show (0 : Int) ≤ 9223372036854775807; omega⟩
                have hst2 := hs.app hgl ⟨⟨#[116]⟩ ++ d, ⟨#[]⟩, 0⟩ hff hown5 hgrow5
                have hS2 : Small (L ++ [(⟨⟨#[116]⟩ ++ d, ⟨#[]⟩, 0⟩ : Fil)]) := small_app hS (by omega) (by show ((⟨#[116]⟩ : ByteArray) ++ d).size ≤ _; omega) (by show (0 : Nat) ≤ _; omega)
                have hl2 : (L ++ [(⟨⟨#[116]⟩ ++ d, ⟨#[]⟩, 0⟩ : Fil)]).length = L.length + 1 := by simp
                clear y5 f5 F5 hown5 hgrow5
                generalize w5.setCell ⟨w.heap.size + 1, 0, none⟩ (.slice (some ⟨gg, 0, none⟩) (L.length + 1) cap) = w6 at hst2 ⊢
                have hfl2 := Lib.hid (fLen_of (hst2.2.2.2.1.cell (i := 0) rfl))
                rw [hl2] at hfl2
                go_wp2
                refine ⟨⟨_, _, _, by rw [hl2]; omega, hS2, hst2⟩, ?_⟩
                rw [hfl.out, hfl2.out]
                omega
            · have hd : decide ((L.length : Int) < 11 + v) = false := by simpa using hlt
              have r0 := hs.2.2.1.cell (i := 0) rfl
              have rf := hs.2.2.1.froz 0
              have c0 := hs.2.2.2.1.cell (i := 0) rfl
              go_wp2
              have k0 := (hs.2.2.1.put 0 (.slice A L.length c)).cell (i := 0) rfl
              exact bodyPost_ret (v := .agg #[.slice A L.length c]) (by simp only [results, Tryz.results58]; simp [go_sem, k0]) rfl (FIN.out L A c wa _ (by omega) hS hs)
        · have d0 : (j == 0) = false := by simpa using e0
          have d1 : (j == 1) = false := by simpa using e1
          obtain ⟨i0, hi0, hz0, hz1, hz2⟩ := info_parts infoFile
          obtain ⟨u0, hu0, hv0, hv1, hv2⟩ := info_parts infoU8
          have hs := hst.drew
          have c0 : w3.drew.cell? ⟨w.heap.size + 1, 0, none⟩ = some (.slice A L.length c) := hs.2.2.2.1.cell (i := 0) rfl
          go_wp2_with (fail)
          go_region_law
            (first
              | (go_simp; go_at_call 36; have hdr := hs.1; (with_reducible refine (n_any B g 2 _ hdr (by omega) (by omega)).mono ?_); clear hdr; rintro e wa ⟨y, rfl, y0, y1, _, hda, hoa⟩; have y2 := y1 (by omega); clear y1; replace hs := hs.draw hgl hda hoa; have ca := hs.2.2.2.1.cell (i := 0) rfl; obtain ⟨q, HQ⟩ : ∃ q : Nat, Hid (q = 3000 + y.toNat) := ⟨_, Lib.hid rfl⟩; have hqb : q ≤ 3001 := (by rw [HQ.out]; omega); have hwr : IntKind.i64.wrap (3000 + y) = (q : Int) := (by rw [IntWalk.i64_in _ (by omega), HQ.out]; omega); obtain ⟨wm, hmk, hownm, hgrm⟩ := run_make_full (P := Tryz.prog) wa wa.heap.size 22 5 u0 (.int .u8 0) 1 Tryz.underlying22 hu0 hv0 hv1 .i64 .i64 q (by rw [hv2]; omega) (by unfold maxLen; omega) (Nat.le_refl _); rw [made_zero] at hownm; have hcv := own_string hownm; obtain ⟨d, HD⟩ : ∃ d, Hid (strOfNums (List.replicate q 0) = d) := ⟨_, Lib.hid rfl⟩; rw [HD.out] at hcv; have hdz : d.size ≤ 3001 := (by rw [← HD.out, strOfNums_size, List.length_replicate]; exact hqb); have hbm : Below wa.heap.size wa wm := (Below.refl _ _).grown hgrm (Nat.le_refl _) (fun k e => by cases e); replace hs := hs.below hbm; have cm := hs.2.2.2.1.cell (i := 0) rfl; have cma := (hs.alloc (.cells #[.string ⟨#[122, 122]⟩, .string d, .int .i64 0] 53)).2.2.2.1.cell (i := 0) rfl; clear hownm hgrm)
              | (refine step_append_lies _ (by rfl) _ _ _ (by rfl) (w.heap.size + 2) 53 i0 _ 3 40 Tryz.underlying23 hi0 hz0 hz1 hz2 rfl (by omega) (.slice A L.length c) L.length (flat L) (by rfl) (hs.2.2.2.2.1.alloc _) ⟨wm.heap.size, 0, none⟩ 1 1 [.string ⟨#[122, 122]⟩, .string d, .int .i64 0] (by rfl) (by rfl) (World.news_of_block (cs := #[.string ⟨#[122, 122]⟩, .string d, .int .i64 0]) (t := 53) (fr := (0, 0)) (heap_alloc_new wm _)) (by simp [Value.oneCell']) (by omega) (by unfold maxLen; omega) (by omega) (by have := hs.2.2.2.1.lt; simp; omega) (wm.heap.size + 1) (by simp) ?_; intro gg cap w5 hown5 hgrow5 hat5 hlt5; have F5 := (hs.alloc (.cells #[.string ⟨#[122, 122]⟩, .string d, .int .i64 0] 53)).2.2.2.1.grown hgrow5 (fun e => by have := (hs.2.2.2.2.1.lt _ e.symm).1; omega); have y5 := F5.cell (i := 0) rfl; have f5 := F5.froz 0))
          all_goals
            have hff : (⟨⟨#[122, 122]⟩, d, 0⟩ : Fil).fits := ⟨by show (2 : Nat) ≤ maxLen; unfold maxLen; omega, by show d.size ≤ maxLen; unfold maxLen; omega, by show (-9223372036854775808 : Int) ≤ 0; omega, by show (0 : Int) ≤ 9223372036854775807; omega⟩
          all_goals
            have hst2 := hs.app hgl ⟨⟨#[122, 122]⟩, d, 0⟩ hff hown5 hgrow5
            have hS2 : Small (L ++ [(⟨⟨#[122, 122]⟩, d, 0⟩ : Fil)]) := small_app hS (by omega) (by show (2 : Nat) ≤ _; omega) (by show d.size ≤ _; omega)
            have hl2 : (L ++ [(⟨⟨#[122, 122]⟩, d, 0⟩ : Fil)]).length = L.length + 1 := by simp
            clear y5 f5 F5 hown5 hgrow5
            generalize w5.setCell ⟨w.heap.size + 1, 0, none⟩ (.slice (some ⟨gg, 0, none⟩) (L.length + 1) cap) = w6 at hst2 ⊢
            have r0 := hst2.2.2.1.cell (i := 0) rfl
            have rf := hst2.2.2.1.froz 0
            have q0 := hst2.2.2.2.1.cell (i := 0) rfl
            rw [hl2] at q0
            go_wp2
            have k0 := (hst2.2.2.1.put 0 (.slice (some ⟨gg, 0, none⟩) (L.length + 1) cap)).cell (i := 0) rfl
            have hF := FIN.out _ _ _ w6 (.slice (some ⟨gg, 0, none⟩) (L.length + 1) cap) (by rw [hl2]; omega) hS2 hst2
            rw [hl2] at hF
            exact bodyPost_ret (v := .agg #[.slice (some ⟨gg, 0, none⟩) (L.length + 1) cap]) (by simp only [results, Tryz.results58]; simp [go_sem, k0]) rfl hF
end Go.Proofs.YtpgodphnjeifhaaGreatDoor
