/- The walk of the law of GetNum; contracts of GetText over those of GetNum. Rows of bytes that are known whole; joined. The contract of strings.Clone. -/
import Derived.Test.YtebkblmejkkhfaaGreatDoorGetImplW
import Derived.Test.YtebkblmejkkhfaaGreatDoorDecW
import Derived.Lib.UnsafeStr
namespace Go.Proofs.YtebkblmejkkhfaaGreatDoor
open Go.RowKit
set_option linter.unusedVariables false
/-- What rd reads lies within the string. -/
theorem rd_within {s : ByteArray} {p : Nat} : ∀ (n k u : Nat) {u' m : Nat}, rd s p n k u = .ok (u', m) → p + m ≤ s.size := by
  intro n
  induction n with
  | zero => intro k u u' m h; simp [rd] at h
  | succ n ih =>
    intro k u u' m h
    rw [rd] at h
    split at h
    · rename_i hlt
      split at h
      · cases h
      · split at h
        · split at h
          · cases h
          · cases h; omega
        · exact ih _ _ h
    · cases h

/-- GetNum: spec and impl answer alike; a good answer's offset lies within the string. -/
theorem getNum_both (s : ByteArray) (a0 : Int) (ws : s.size ≤ maxLen) (wa : -9223372036854775808 ≤ a0 ∧ a0 ≤ 9223372036854775807) :
    ∃ n a c : Int, (c = 0 → 0 ≤ a ∧ a ≤ s.size ∧ s.size ≤ 20000) ∧ (∀ w, Calls Tryz.prog 202 #[.string s, .int .i64 a0] w fun e w' => e = .returned (numOut n a c) ∧ Below w.heap.size w w') ∧
      (∀ w, Handle w → Calls Tryz.prog 233 #[.string s, .int .i64 a0] w fun e w' => e = .returned (numOut n a c) ∧ Below w.heap.size w w') := by
  by_cases h1 : 20000 < s.size
  · exact ⟨0, 0, 2, by omega, fun w => specGetNum_size s a0 w ws h1, fun w _ => implGetNum_size s a0 w ws h1⟩
  · by_cases h2 : a0 < 0
    · exact ⟨0, 0, 1, by omega, fun w => specGetNum_neg s a0 w (by omega) h2, fun w _ => implGetNum_neg s a0 w (by omega) h2⟩
    · obtain ⟨p, rfl⟩ : ∃ p : Nat, a0 = p := ⟨a0.toNat, by omega⟩
      have hs := fun w => specGetNum_any s p w (by omega) wa.2
      have hi := fun w hg => implGetNum_any s p w (by omega) wa.2 hg
      cases hr : rd s p 10 0 0 with
      | error c =>
        rw [hr] at hs hi
        refine ⟨0, 0, c, ?_, hs, hi⟩
        intro e
        have : ∀ (n k u : Nat) (c : Int), rd s p n k u = .error c → c ≠ 0 := by
          intro n
          induction n with
          | zero => intro k u c h; simp [rd] at h; omega
          | succ n ih =>
            intro k u c h
            rw [rd] at h
            split at h
            · split at h
              · cases h; omega
              · split at h
                · split at h
                  · cases h; omega
                  · cases h
                · exact ih _ _ _ h
            · cases h; omega
        exact absurd e (this _ _ _ _ hr)
      | ok x =>
        obtain ⟨u, m⟩ := x
        rw [hr] at hs hi
        have := rd_within _ _ _ hr
        exact ⟨unzig u, (p : Int) + m, 0, by omega, hs, hi⟩

end Go.Proofs.YtebkblmejkkhfaaGreatDoor

namespace Go.Proofs.YtebkblmejkkhfaaGreatDoor
open Go.RowKit
set_option linter.unusedVariables false

theorem sizeU8 : (Tryz.prog.info? 5).map (·.size) = some 1 := by kernel_rfl

/-- A row that is owned up to its capacity is its block. -/
theorem own_heap {w : World} {base g n : Nat} {e : TypeId} {xs : List Value} (h : w.ownsRow base e 1 (.slice (some ⟨g, 0, none⟩) n n) n xs) : w.heap[g]? = some (.cells xs.toArray e (0, 0)) := by
  obtain ⟨hl, hh⟩ := h
  rcases hh with ⟨h1, _⟩ | ⟨g', cap, cur, h1, _, hb, _, _, hs, ht⟩
  · cases h1
  · simp at h1
    obtain ⟨rfl, rfl⟩ := h1
    rw [hb]
    have : cur.toList = xs := by rw [← ht, List.take_of_length_le (by simp [hs])]
    rw [← this]
theorem own_heap' {w : World} {base g n : Nat} {e : TypeId} {xs : List Value} (h : w.ownsRow base e 1 (.slice (some ⟨g, 0, none⟩) n n) n xs) : ∃ Z : List Value, Hid (w.heap[g]? = some (.cells Z.toArray e (0, 0))) ∧ Z.length = n :=
  ⟨xs, own_heap h, by simpa using h.1⟩

theorem bc_len (a : ByteArray) : (Lib.byteCells a.data.toList).length = a.size := by rw [Lib.byteCells_length, ← Lib.size_eq]
theorem ne_empty {b : ByteArray} (h : 0 < b.size) : ¬ b = ByteArray.empty := by intro e; subst e; simp at h

theorem splice_len0 {Z : List Value} {a : ByteArray} {m : Nat} (h : Z.length = a.size + m) : (splice Z 0 (Lib.byteCells a.data.toList)).length = a.size + m := by
  rw [length_splice _ _ _ (by rw [bc_len]; omega), h]
theorem conv_two {w : World} {g n : Nat} {Z : List Value} {a b : ByteArray} (hn : n = a.size + b.size) (hs : n ≤ 1048576)
    (h : Hid (w.heap[g]? = some (.cells (splice (splice Z 0 (Lib.byteCells a.data.toList)) a.size (Lib.byteCells b.data.toList)).toArray 5 (0, 0)))) (hZ : Hid (Z.length = a.size + b.size)) :
    (convert 22 9 (.slice (some ⟨g, 0, none⟩) n n)).run Tryz.prog w = .ok (.string (a ++ b)) w := by
  have e : splice (splice Z 0 (Lib.byteCells a.data.toList)) a.size (Lib.byteCells b.data.toList) = Lib.byteCells (a.data.toList ++ b.data.toList) := by
    have := splice_two Z (Lib.byteCells a.data.toList) (Lib.byteCells b.data.toList) (by rw [bc_len, bc_len]; exact hZ.out)
    rw [bc_len] at this
    rw [this, byteCells_append]
  have h' := h.out
  rw [e] at h'
  have hl : (Lib.byteCells (a.data.toList ++ b.data.toList)).length = n := by rw [← byteCells_append, List.length_append, bc_len, bc_len, hn]
  rw [← str_append]
  refine own_bytes (base := 0) (n := n) ⟨by simpa using hl, .inr ⟨g, n, _, rfl, Nat.zero_le _, h', Nat.le_refl _, ?_, by simpa using hl, ?_⟩⟩
  · unfold maxLen; omega
  · rw [List.take_of_length_le (by simp [hl])]

end Go.Proofs.YtebkblmejkkhfaaGreatDoor

namespace Go.Proofs.YtebkblmejkkhfaaGreatDoor
open Go.RowKit
set_option linter.unusedVariables false

theorem cellsU8 : Tryz.prog.cellsOf 5 = 1 := by kernel_rfl
theorem splice_one {α : Type} (Z X : List α) (hZ : Z.length = X.length) : splice Z 0 X = X := by simp [splice, hZ]

/-- The string over the whole of a new row of bytes. -/
theorem run_clone {w : World} {g : Nat} {Z : List Value} {s : ByteArray} (hp : 0 < s.size) (hs : s.size ≤ 1048576)
    (h : Hid (w.heap[g]? = some (.cells (splice Z 0 (Lib.byteCells s.data.toList)).toArray 5 (0, 0)))) (hZ : Hid (Z.length = s.size)) :
    (Builtin.unsafeString_ #[174, 3] 9 #[.pointer (some ⟨g, 0, none⟩), .int .i64 s.size]).run Tryz.prog w = .ok (.string s) (w.freeze ⟨g, 0, none⟩ s.size) := by
  have e : splice Z 0 (Lib.byteCells s.data.toList) = Lib.byteCells s.data.toList := splice_one _ _ (by rw [bc_len]; exact hZ.out)
  have h' := h.out
  rw [e] at h'
  have hl : s.data.toList.length = s.size := by simp
  have := Lib.run_unsafeString_row (P := Tryz.prog) w 174 3 9 5 Tryz.underlying174 cellsU8 g s.size (by simp [World.shape?, h', bc_len]) s.data.toList
    (by intro e; rw [e] at hl; simp at hl; omega) (by omega) (by omega) (by
      intro j x hj
      have hjl : j < s.data.toList.length := (List.getElem?_eq_some_iff.1 hj).1
      have hadd : (⟨g, 0, none⟩ : Addr).add j = ⟨g, j, none⟩ := by unfold Addr.add; split <;> simp_all
      rw [hadd]
      simp [World.cell?, h', Lib.byteCells, hj])
  rw [hl] at this
  exact this

set_option maxHeartbeats 1600000 in
set_option maxRecDepth 1000000 in
theorem slClone_any (s : ByteArray) (w : World) (hs : s.size ≤ 1048576) :
    Calls Tryz.prog 133 #[.string s] w fun e w' => e = .returned (.string s) ∧ Below w.heap.size w w' := by
  obtain ⟨i0, hi, hz0, hz1, hz2⟩ := info_parts infoU8
  by_cases hz : s.size = 0
  · have he : s = ByteArray.empty := ByteArray.size_eq_zero_iff.1 hz
    subst he
    go_enter Tryz.func133, Tryz.ntmps133
    go_wp2
    go_ret
    exact ⟨rfl, Below.refl _ _⟩
  · have hp : 0 < s.size := by omega
    have hne : ((s.size : Int) == 0) = false := by simpa using ne_empty hp
    clear hz
    go_enter Tryz.func133, Tryz.ntmps133
    go_wp2_with (first
    | (at_make; refine wpList_make_full _ rfl _ _ 22 rfl w.heap.size 5 i0 (.int .u8 0) 1 Tryz.underlying22 hi hz0 hz1 _ _ _ _ s.size rfl rfl rfl rfl (by rw [hz2]; omega) (by unfold maxLen; omega) (Nat.le_refl _) ?_; intro w1 hown1 hgrow1; obtain ⟨Z, HG1, hZ⟩ := own_heap' hown1; have HZ := Lib.hid hZ; clear hZ; have hb1 := (Below.refl w.heap.size w).grown hgrow1 (Nat.le_refl _) (fun k e => by cases e); clear hown1 hgrow1)
    | ((with_reducible refine wpList_copy_str rfl (.tmp 10) (.tmp 11) 22 9 rfl 5 Tryz.underlying22 sizeU8 _ _ _ s rfl rfl w.heap.size 0 _ 5 HG1.out (by omega) (fun _ => rfl) (by rw [HZ.out]; omega) w.heap.size w hb1 (Nat.le_refl _) ?_); intro w2 HG2 hb2; clear HG1 hb1; have hcl := run_clone hp hs HG2 HZ))
    go_ret
    exact ⟨rfl, Lib.below_freeze hb2 (p := ⟨w.heap.size, 0, none⟩) (Nat.le_refl _) _⟩

theorem clone_any (s : ByteArray) (w : World) (hs : s.size ≤ 1048576) :
    Calls Tryz.prog 86 #[.string s] w fun e w' => e = .returned (.string s) ∧ Below w.heap.size w w' := by
  go_enter Tryz.func86, Tryz.ntmps86
  go_wp2_with (go_at_call 133; refine (slClone_any _ _ hs).mono ?_; rintro e w1 ⟨rfl, hb1⟩)
  go_ret
  exact ⟨rfl, hb1⟩


end Go.Proofs.YtebkblmejkkhfaaGreatDoor
