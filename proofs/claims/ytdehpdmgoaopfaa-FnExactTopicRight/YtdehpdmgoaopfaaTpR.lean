/- When a topic is right; the end of a topic. -/
import Derived.Test.YtdehpdmgoaopfaaTp
import Derived.Test.YtdehpdmgoaopfaaCm
import Derived.Test.YtdehpdmgoaopfaaKept
import Derived.Test.YtdehpdmgoaopfaaLess
namespace Go.Proofs.Ytdehpdmgoaopfaa
open Go.RowKit
set_option linter.unusedVariables false
set_option maxRecDepth 1000000

/-- A group that is right in its place. -/
def grpIn (t : Tpc) (i : Nat) (h : i < t.groups.length) : Prop := nameB t.groups[i].name = true ∧ inB t.groups[i].acked t.base (t.base + t.held.length) = true ∧ (0 < i → lessB (t.groups[i - 1]'(by omega)).name t.groups[i].name = true)
/-- A right topic. -/
def topOK (t : Tpc) : Prop := nameB t.name = true ∧ inB t.base 0 1000000000 = true ∧ t.held.length ≤ 20 ∧ (∀ i (h : i < t.held.length), inB t.held[i].size 1 40 = true) ∧ t.groups.length ≤ 4 ∧ t.base + t.held.length ≤ 1000000000 ∧ ∀ i (h : i < t.groups.length), grpIn t i h
/-- TopicRight. -/
noncomputable def topB (t : Tpc) : Bool := @decide (topOK t) (Classical.propDecidable _)
theorem topB_true {t : Tpc} (h : topOK t) : topB t = true := by unfold topB; exact @decide_eq_true _ (Classical.propDecidable _) h
theorem topB_false {t : Tpc} (h : ¬ topOK t) : topB t = false := by unfold topB; exact @decide_eq_false _ (Classical.propDecidable _) h
theorem topB_iff {t : Tpc} : topB t = true ↔ topOK t := ⟨fun h => by unfold topB at h; exact @of_decide_eq_true _ (Classical.propDecidable _) h, topB_true⟩
theorem inB_true {n a b : Int} (h : inB n a b = true) : a ≤ n ∧ n ≤ b := by simpa [inB] using h
theorem inB_of {n a b : Int} (h1 : a ≤ n) (h2 : n ≤ b) : inB n a b = true := by simp [inB, h1, h2]

theorem bl {f : FuncId} {args : Array Value} {w : World} {v : Value} (h : Calls Try.prog f args w fun e w' => e = .returned v ∧ w' = w) : Calls Try.prog f args w fun e w' => e = .returned v ∧ Below w.heap.size w w' :=
  h.mono fun _ _ h => ⟨h.1, by rw [h.2]; exact Below.refl _ _⟩
theorem grp_less {t : Tpc} {q k : Nat} (hq : q + 1 = k) (hlt : k < t.groups.length) (hql : q < t.groups.length) (hl : Op.bytesLess t.groups[q].name.toList t.groups[k].name.toList = true) : 0 < k → lessB (t.groups[k - 1]'(by omega)).name t.groups[k].name = true := by
  intro _
  obtain rfl : q = k - 1 := by omega
  exact hl
theorem not_grp_less {t : Tpc} {q k : Nat} (hq : q + 1 = k) (hlt : k < t.groups.length) (hql : q < t.groups.length) (hl : Op.bytesLess t.groups[q].name.toList t.groups[k].name.toList = false) : ¬ grpIn t k hlt := by
  intro h
  have h2 := h.2.2 (by omega)
  obtain rfl : q = k - 1 := by omega
  unfold lessB at h2
  rw [hl] at h2
  cases h2
theorem endOf_any (nm : ByteArray) (bs : Int) (A : Option Addr) (n c : Nat) (gv : Value) (hn : n ≤ 1048576) (h0 : 0 ≤ bs) (h1 : bs ≤ 1000000000) (h2 : gv.oneCell' = true) (w : World) :
    Calls Try.prog 61 #[topV nm bs (.slice A n c) gv] w fun e w' => e = .returned (.int .i64 (bs + n)) ∧ Below w.heap.size w w' := by
  go_enter Try.func61, Try.ntmps61
  go_wp2
  go_ret
  exact ⟨rfl, below_box _ _⟩
theorem l07End_any (nm : ByteArray) (bs : Int) (A : Option Addr) (n c : Nat) (gv : Value) (hn : n ≤ 1048576) (h0 : 0 ≤ bs) (h1 : bs ≤ 1000000000) (h2 : gv.oneCell' = true) (w : World) :
    Calls Try.prog 59 #[topV nm bs (.slice A n c) gv] w fun e w' => e = .returned (.int .i64 (bs + n)) ∧ Below w.heap.size w w' := by
  go_enter Try.func59, Try.ntmps59
  go_wp2
  go_ret
  exact ⟨rfl, below_box _ _⟩
end Go.Proofs.Ytdehpdmgoaopfaa
