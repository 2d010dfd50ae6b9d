/- The draw of one of some texts. -/
import Derived.Test.YtpgodphnjeifhaaDoorDrawMac
namespace Go.Proofs.YtpgodphnjeifhaaDoor
open Go.RowKit
set_option linter.unusedVariables false
set_option maxRecDepth 1000000

theorem Drw.blk_ne {w : World} {B g b : Nat} {t : TypeId} {cs : List Value} (h : Drw w B g) (hb : Blk w b t cs) (hne : t ≠ 56) : b ≠ g := by
  obtain ⟨A, n, c, ix, mix, size, h1, _⟩ := h
  intro e
  subst e
  have h2 : w.heap[b]? = some (.cells cs.toArray t (0, 0)) := hb
  have h3 : w.heap[b]? = _ := h1
  rw [h2] at h3
  simp at h3
  exact hne h3.2

set_option maxHeartbeats 1600000 in
theorem pick_any (B g b : Nat) (S : List ByteArray) (w : World) (h : Drw w B g) (hb : Blk w b 9 (S.map Value.string)) (h0 : 0 < S.length) (h1 : S.length ≤ 100) :
    Calls Tryd.prog 39 #[.pointer (some ⟨g, 0, none⟩), .slice (some ⟨b, 0, none⟩) S.length S.length] w fun e w' => ∃ s, s ∈ S ∧ e = .returned (.string s) ∧ Drw w' B g ∧ w.grownBy w' (some g) := by
  have hne := h.blk_ne hb (by decide)
  go_enter Tryd.func39, Tryd.ntmps39
  go_wp2_with (fail)
  refine (n_any B g (S.length : Int) _ h (by omega) (by omega)).mono ?_
  rintro e w1 ⟨v, rfl, v0, v1, v2, hd1, ho1⟩
  obtain ⟨k, rfl⟩ : ∃ k : Nat, v = k := ⟨v.toNat, by omega⟩
  have hk : k < S.length := by by_cases h2 : 1 < (S.length : Int); (have := v1 h2; omega); (have := v2 (by omega); omega)
  have hk' : (k : Int) < (S.length : Int) := by omega
  clear v1 v2
  have hb1 := hb.grown ho1 (fun e => hne (by have := Option.some.inj e; omega))
  have c1 : w1.cell? ⟨b, k, none⟩ = some (.string S[k]) := hb1.cell (by rw [List.getElem?_map, List.getElem?_eq_getElem hk]; rfl)
  go_wp2
  go_ret
  exact ⟨S[k], List.getElem_mem hk, rfl, hd1, ho1⟩
end Go.Proofs.YtpgodphnjeifhaaDoor
