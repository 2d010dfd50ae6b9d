/- The contract of strings.Clone. -/
import Derived.Test.YtpgodphnjeifhaaDoorRow
import Derived.Lib.UnsafeStr
namespace Go.Proofs.YtpgodphnjeifhaaDoor
open Go.RowKit
set_option linter.unusedVariables false

theorem cellsU8 : Tryd.prog.cellsOf 5 = 1 := by kernel_rfl
theorem splice_one {α : Type} (Z X : List α) (hZ : Z.length = X.length) : splice Z 0 X = X := by simp [splice, hZ]

/-- The string over the whole of a new row of bytes. -/
theorem run_clone {w : World} {g : Nat} {Z : List Value} {s : ByteArray} (hp : 0 < s.size) (hs : s.size ≤ 1048576)
    (h : Hid (w.heap[g]? = some (.cells (splice Z 0 (Lib.byteCells s.data.toList)).toArray 5 (0, 0)))) (hZ : Hid (Z.length = s.size)) :
    (Builtin.unsafeString_ #[95, 3] 9 #[.pointer (some ⟨g, 0, none⟩), .int .i64 s.size]).run Tryd.prog w = .ok (.string s) (w.freeze ⟨g, 0, none⟩ s.size) := by
  have e : splice Z 0 (Lib.byteCells s.data.toList) = Lib.byteCells s.data.toList := splice_one _ _ (by rw [bc_len]; exact hZ.out)
  have h' := h.out
  rw [e] at h'
  have hl : s.data.toList.length = s.size := by simp
  have := Lib.run_unsafeString_row (P := Tryd.prog) w 95 3 9 5 Tryd.underlying95 cellsU8 g s.size (by simp [World.shape?, h', bc_len]) s.data.toList
    (by intro e; rw [e] at hl; simp at hl; omega) (by omega) (by omega) (by
      intro j x hj
      have hjl : j < s.data.toList.length := (List.getElem?_eq_some_iff.1 hj).1
      have hadd : (⟨g, 0, none⟩ : Addr).add j = ⟨g, j, none⟩ := by unfold Addr.add; split <;> simp_all
      rw [hadd]
      simp [World.cell?, h', Lib.byteCells, hj])
  rw [hl] at this
  exact this

set_option maxHeartbeats 1600000 in
set_option maxRecDepth 1000000 in
theorem slClone_any (s : ByteArray) (w : World) (hs : s.size ≤ 1048576) :
    Calls Tryd.prog 59 #[.string s] w fun e w' => e = .returned (.string s) ∧ Below w.heap.size w w' := by
  obtain ⟨i0, hi, hz0, hz1, hz2⟩ := info_parts infoU8
  by_cases hz : s.size = 0
  · have he : s = ByteArray.empty := ByteArray.size_eq_zero_iff.1 hz
    subst he
    go_enter Tryd.func59, Tryd.ntmps59
    go_wp2
    go_ret
    exact ⟨rfl, Below.refl _ _⟩
  · have hp : 0 < s.size := by omega
    have hne : ((s.size : Int) == 0) = false := by simpa using ne_empty hp
    clear hz
    go_enter Tryd.func59, Tryd.ntmps59
    go_wp2_with (first
    | (at_make; refine wpList_make_full _ rfl _ _ 22 rfl w.heap.size 5 i0 (.int .u8 0) 1 Tryd.underlying22 hi hz0 hz1 _ _ _ _ s.size rfl rfl rfl rfl (by rw [hz2]; omega) (by unfold maxLen; omega) (Nat.le_refl _) ?_; intro w1 hown1 hgrow1; obtain ⟨Z, HG1, hZ⟩ := own_heap' hown1; have HZ := Lib.hid hZ; clear hZ; have hb1 := (Below.refl w.heap.size w).grown hgrow1 (Nat.le_refl _) (fun k e => by cases e); clear hown1 hgrow1)
    | ((with_reducible refine wpList_copy_str rfl (.tmp 10) (.tmp 11) 22 9 rfl 5 Tryd.underlying22 sizeU8 _ _ _ s rfl rfl w.heap.size 0 _ 5 HG1.out (by omega) (fun _ => rfl) (by rw [HZ.out]; omega) w.heap.size w hb1 (Nat.le_refl _) ?_); intro w2 HG2 hb2; clear HG1 hb1; have hcl := run_clone hp hs HG2 HZ))
    go_ret
    exact ⟨rfl, Lib.below_freeze hb2 (p := ⟨w.heap.size, 0, none⟩) (Nat.le_refl _) _⟩

theorem clone_any (s : ByteArray) (w : World) (hs : s.size ≤ 1048576) :
    Calls Tryd.prog 54 #[.string s] w fun e w' => e = .returned (.string s) ∧ Below w.heap.size w w' := by
  go_enter Tryd.func54, Tryd.ntmps54
  go_wp2_with (go_at_call 59; refine (slClone_any _ _ hs).mono ?_; rintro e w1 ⟨rfl, hb1⟩)
  go_ret
  exact ⟨rfl, hb1⟩


end Go.Proofs.YtpgodphnjeifhaaDoor
