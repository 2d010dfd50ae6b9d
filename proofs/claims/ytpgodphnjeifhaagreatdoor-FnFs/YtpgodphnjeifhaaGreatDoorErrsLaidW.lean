/- What the card's condition gives of the package's five errors. -/
import Derived.Test.YtpgodphnjeifhaaGreatDoorFFindW
import Derived.Stop.LaidErr
import Derived.LaidMore
import Derived.ProofKit
import Derived.ChangeVars
namespace Go.Proofs.YtpgodphnjeifhaaGreatDoor
open Go.RowKit Go.ChangeShapes Go.WideShapes Go.ChangeAt
open Go.Extern.Stop Go.Stop Go.Extern
set_option linter.unusedVariables false

theorem cellsErr : Tryz.prog.cellsOf 171 = 1 := by kernel_rfl
theorem cellsStr9 : Tryz.prog.cellsOf 9 = 1 := by kernel_rfl
theorem starErr : "*" ++ "errors.errorString" = "*errors.errorString" := by decide
theorem rowErr (u : TypeId) (h : Tryz.prog.typeName? 3 u = some "*errors.errorString") : u = 148 :=
  typeName_ptr_named (nm := "errors.errorString") (by rw [starErr]; kernel_rfl) (by kernel_rfl) (by decide) u (by rw [starErr]; exact h)
abbrev errD (x : List UInt8) : DataW Unit := .iface "*errors.errorString" (.ptr (.agg [.lit (.string x)]))

set_option maxRecDepth 1000000 in
theorem laid_five {n0 n1 n2 n3 n4 : String} {x0 x1 x2 x3 x4 : List UInt8} {W : World} {g0 g1 g2 g3 g4 : Nat}
    (h : laidMet Tryz.prog [(n0, errD x0), (n1, errD x1), (n2, errD x2), (n3, errD x3), (n4, errD x4)] W)
    (hg0 : Tryz.prog.globalNamed n0 = some g0) (hg1 : Tryz.prog.globalNamed n1 = some g1) (hg2 : Tryz.prog.globalNamed n2 = some g2) (hg3 : Tryz.prog.globalNamed n3 = some g3) (hg4 : Tryz.prog.globalNamed n4 = some g4)
    (ht0 : (Tryz.prog.globals[g0]?).map (·.type) = some 64) (ht1 : (Tryz.prog.globals[g1]?).map (·.type) = some 64) (ht2 : (Tryz.prog.globals[g2]?).map (·.type) = some 64) (ht3 : (Tryz.prog.globals[g3]?).map (·.type) = some 64) (ht4 : (Tryz.prog.globals[g4]?).map (·.type) = some 64) :
    ∃ b0 b1 b2 b3 b4 : Addr, (W.cell? ⟨g0, 0, none⟩ = some (errV b0) ∧ W.cell? ⟨g1, 0, none⟩ = some (errV b1) ∧ W.cell? ⟨g2, 0, none⟩ = some (errV b2) ∧ W.cell? ⟨g3, 0, none⟩ = some (errV b3) ∧ W.cell? ⟨g4, 0, none⟩ = some (errV b4)) ∧
      (∀ a ∈ [b0, b1, b2, b3, b4], ∃ c t, W.heap[a.block]? = some (.cells c t (0, 0))) ∧ [b0, b1, b2, b3, b4].Pairwise (· ≠ ·) := by
  obtain ⟨ps, ⟨g0', t0', cs0, f0, p0, q0, hg0', ht0', hv0, hd0, ⟨g1', t1', cs1, f1, p1, q1, hg1', ht1', hv1, hd1, ⟨g2', t2', cs2, f2, p2, q2, hg2', ht2', hv2, hd2, ⟨g3', t3', cs3, f3, p3, q3, hg3', ht3', hv3, hd3, ⟨g4', t4', cs4, f4, p4, q4, hg4', ht4', hv4, hd4, _, e4⟩, e3⟩, e2⟩, e1⟩, e0⟩, hnd, hrows⟩ := h
  obtain rfl := Option.some.inj (hg0.symm.trans hg0')
  obtain rfl := Option.some.inj (hg1.symm.trans hg1')
  obtain rfl := Option.some.inj (hg2.symm.trans hg2')
  obtain rfl := Option.some.inj (hg3.symm.trans hg3')
  obtain rfl := Option.some.inj (hg4.symm.trans hg4')
  obtain rfl := Option.some.inj (ht0.symm.trans ht0')
  obtain rfl := Option.some.inj (ht1.symm.trans ht1')
  obtain rfl := Option.some.inj (ht2.symm.trans ht2')
  obtain rfl := Option.some.inj (ht3.symm.trans ht3')
  obtain rfl := Option.some.inj (ht4.symm.trans ht4')
  subst e4 e3 e2 e1 e0
  obtain ⟨l0⟩ := cs0
  obtain ⟨l1⟩ := cs1
  obtain ⟨l2⟩ := cs2
  obtain ⟨l3⟩ := cs3
  obtain ⟨l4⟩ := cs4
  have ok0 : ∀ u v, l0 = [.iface u v] → Value.okWide Tryz.prog W .any 0 u v := fun u v e => by
    subst e; exact (hrows g0 0 (by simp [MemPlace.row])).2 u v (by simpa using World.var?_cell hg0' hv0 0)
  have ok1 : ∀ u v, l1 = [.iface u v] → Value.okWide Tryz.prog W .any 0 u v := fun u v e => by
    subst e; exact (hrows g1 0 (by simp [MemPlace.row])).2 u v (by simpa using World.var?_cell hg1' hv1 0)
  have ok2 : ∀ u v, l2 = [.iface u v] → Value.okWide Tryz.prog W .any 0 u v := fun u v e => by
    subst e; exact (hrows g2 0 (by simp [MemPlace.row])).2 u v (by simpa using World.var?_cell hg2' hv2 0)
  have ok3 : ∀ u v, l3 = [.iface u v] → Value.okWide Tryz.prog W .any 0 u v := fun u v e => by
    subst e; exact (hrows g3 0 (by simp [MemPlace.row])).2 u v (by simpa using World.var?_cell hg3' hv3 0)
  have ok4 : ∀ u v, l4 = [.iface u v] → Value.okWide Tryz.prog W .any 0 u v := fun u v e => by
    subst e; exact (hrows g4 0 (by simp [MemPlace.row])).2 u v (by simpa using World.var?_cell hg4' hv4 0)
  obtain ⟨a0, s0, rfl, hc0, _, _, rfl⟩ := errorString_of_trod Tryz.underlying64 rowErr Tryz.underlying148 Tryz.underlying171 rfl rfl Tryz.underlying9 cellsErr cellsStr9 hd0 ok0
  obtain ⟨a1, s1, rfl, hc1, _, _, rfl⟩ := errorString_of_trod Tryz.underlying64 rowErr Tryz.underlying148 Tryz.underlying171 rfl rfl Tryz.underlying9 cellsErr cellsStr9 hd1 ok1
  obtain ⟨a2, s2, rfl, hc2, _, _, rfl⟩ := errorString_of_trod Tryz.underlying64 rowErr Tryz.underlying148 Tryz.underlying171 rfl rfl Tryz.underlying9 cellsErr cellsStr9 hd2 ok2
  obtain ⟨a3, s3, rfl, hc3, _, _, rfl⟩ := errorString_of_trod Tryz.underlying64 rowErr Tryz.underlying148 Tryz.underlying171 rfl rfl Tryz.underlying9 cellsErr cellsStr9 hd3 ok3
  obtain ⟨a4, s4, rfl, hc4, _, _, rfl⟩ := errorString_of_trod Tryz.underlying64 rowErr Tryz.underlying148 Tryz.underlying171 rfl rfl Tryz.underlying9 cellsErr cellsStr9 hd4 ok4
  refine ⟨a0, a1, a2, a3, a4, ⟨by simpa using World.var?_cell hg0' hv0 0, by simpa using World.var?_cell hg1' hv1 0, by simpa using World.var?_cell hg2' hv2 0, by simpa using World.var?_cell hg3' hv3 0, by simpa using World.var?_cell hg4' hv4 0⟩, ?_, ?_⟩
  · intro a ha
    simp only [List.mem_cons, List.not_mem_nil, or_false] at ha
    rcases ha with rfl | rfl | rfl | rfl | rfl
    all_goals exact (hrows _ a.off (by simp [MemPlace.row])).1
  · simp only [List.pairwise_cons, List.mem_cons, List.not_mem_nil, or_false, forall_eq_or_imp, forall_eq]
    refine ⟨⟨?_, ?_, ?_, ?_⟩, ⟨?_, ?_, ?_⟩, ⟨?_, ?_⟩, ?_, ?_⟩
    all_goals first
      | (rintro rfl; simp [MemPlace.row] at hnd; done)
      | (intro e; exact absurd e (by simp))
      | exact List.Pairwise.nil
      | simp
theorem trodVars_len {H : Type} {enc : TypeId × Value → H} {P : Program} {w : World} {sp : Nat → Bool} : ∀ {ns : List String} {gs : List (DataW H)} {ps : List MemPlace}, DataW.TrodVars enc P w sp ns gs ps → gs.length = ns.length
  | [], [], _, _ => rfl
  | [], _ :: _, _, h => by simp [DataW.TrodVars] at h
  | _ :: _, [], _, h => by simp [DataW.TrodVars] at h
  | _ :: _, _ :: _, _, ⟨_, _, _, _, _, _, _, _, _, _, h, _⟩ => by simp [trodVars_len h]
end Go.Proofs.YtpgodphnjeifhaaGreatDoor
