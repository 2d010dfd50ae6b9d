/- What a card's condition gives of the error of an invalid segment. -/
import Derived.Test.YtebkblmejkkhfaaGreatDoorQTailW
import Derived.Stop.LaidErr
import Derived.LaidMore
import Derived.ProofKit
import Derived.ChangeVars
namespace Go.Proofs.YtebkblmejkkhfaaGreatDoor
open Go.RowKit Go.ChangeShapes Go.WideShapes Go.ChangeAt
open Go.Extern.Stop Go.Stop Go.Extern
set_option linter.unusedVariables false

theorem cellsErrSg : Tryz.prog.cellsOf 251 = 1 := by kernel_rfl
theorem cellsStrSg : Tryz.prog.cellsOf 9 = 1 := by kernel_rfl
theorem starErrSg : "*" ++ "errors.errorString" = "*errors.errorString" := by decide
theorem rowErrSg (u : TypeId) (h : Tryz.prog.typeName? 3 u = some "*errors.errorString") : u = 249 :=
  typeName_ptr_named (nm := "errors.errorString") (by rw [starErrSg]; kernel_rfl) (by kernel_rfl) (by decide) u (by rw [starErrSg]; exact h)
theorem gSeg : Tryz.prog.globalNamed "loop.example/g00386/impl.errBadSegment" = some 5 := by kernel_rfl
theorem tSeg : (Tryz.prog.globals[5]?).map (·.type) = some 97 := by kernel_rfl
set_option maxRecDepth 1000000 in
theorem seg_of_head {x : List UInt8} {rest : List (String × DataW Unit)} {W : World} (h : laidMet Tryz.prog (("loop.example/g00386/impl.errBadSegment", .iface "*errors.errorString" (.ptr (.agg [.lit (.string x)]))) :: rest) W) : Seg W := by
  obtain ⟨ps, ⟨g0', t0', cs0, f0, p0, q0, hg0', ht0', hv0, hd0, _, e0⟩, hnd, hrows⟩ := h
  obtain rfl := Option.some.inj (gSeg.symm.trans hg0')
  obtain rfl := Option.some.inj (tSeg.symm.trans ht0')
  subst e0
  obtain ⟨l0⟩ := cs0
  have ok0 : ∀ u v, l0 = [.iface u v] → Value.okWide Tryz.prog W .any 0 u v := fun u v e => by
    subst e; exact (hrows 5 0 (by simp [MemPlace.row])).2 u v (by simpa using World.var?_cell hg0' hv0 0)
  obtain ⟨a0, s0, rfl, hc0, _, _, rfl⟩ := errorString_of_trod Tryz.underlying97 rowErrSg Tryz.underlying249 Tryz.underlying251 rfl rfl Tryz.underlying9 cellsErrSg cellsStrSg hd0 ok0
  exact ⟨a0, by simpa using World.var?_cell hg0' hv0 0⟩
theorem vars_len {H : Type} {enc : TypeId × Value → H} {P : Program} {w : World} {sp : Nat → Bool} : ∀ {ns : List String} {gs : List (DataW H)} {ps : List MemPlace}, DataW.TrodVars enc P w sp ns gs ps → gs.length = ns.length
  | [], [], _, _ => rfl
  | [], _ :: _, _, h => by simp [DataW.TrodVars] at h
  | _ :: _, [], _, h => by simp [DataW.TrodVars] at h
  | _ :: _, _ :: _, _, ⟨_, _, _, _, _, _, _, _, _, _, h, _⟩ => by simp [vars_len h]
end Go.Proofs.YtebkblmejkkhfaaGreatDoor
