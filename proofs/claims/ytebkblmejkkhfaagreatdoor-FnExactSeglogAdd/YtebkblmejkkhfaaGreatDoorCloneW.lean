/- The contracts of the map's find. Rows of bytes that are known whole; joined. The contract of strings.Clone. -/
import Derived.Test.YtebkblmejkkhfaaGreatDoorIsW
import Derived.RegionTactic
import Derived.BigRegion
import Derived.Test.YtebkblmejkkhfaaGreatDoorNameW
import Derived.Lib.UnsafeStr
namespace Go.Proofs.YtebkblmejkkhfaaGreatDoor
open Go.RowKit
set_option linter.unusedVariables false
set_option maxRecDepth 1000000

theorem zeroFile (w : World) : (zeroValue 53).run Tryz.prog w = .ok zeroFil.val w := Tryz.zeroValue53 w
theorem keyed : Maps.Keyed Tryz.prog 9 := Maps.string_keyed Tryz.underlying9
theorem key_mk {s : ByteArray} (hs : s.size ≤ maxLen) : keyOf Tryz.prog 9 (.string s) = some (.string s.data.toList) := WideMaps.keyOf_string_mk Tryz.underlying9 hs

set_option maxHeartbeats 1000000 in
set_option maxRecDepth 1000000 in
theorem find_some (b n : Nat) (L : List Fil) (s : ByteArray) (f : Fil) (w : World) (hM : MapF w b n L) (hs : s.size ≤ maxLen) (hf : findF L s = some f) :
    Calls Tryz.prog 85 #[.map (some b), .string s] w fun e w' => e = .returned (.tuple #[f.val, .nilIface]) ∧ Below w.heap.size w w' := by
  have hM1 := World.ownsMap.alloc hM (.cells #[.string ⟨#[]⟩, .string ⟨#[]⟩, .int .i64 0] 53)
  go_enter Tryz.func85, Tryz.ntmps85
  go_wp2_with (at_lookup; refine wpList_lookup_own_ok _ rfl _ _ 95 rfl 9 53 keyed Tryz.underlying95 _ (zeroFile _) (fileD zeroFil) [] (filElem_mk _) b n _ rfl hM1 _ _ rfl (key_mk hs) ?_)
  intro v ps hv
  rw [at_D, hf] at hv
  have hv' := filElem_inv hv
  have hh : Maps.has (DataW.map (L.map ent)) (.string s.data.toList) = true := by rw [has_D, hf]; rfl
  rw [hh, hv']
  unfold Fil.val
  go_wp2
  refine bodyPost_ret (v := .tuple #[f.val, .nilIface]) (by simp [results, Tryz.results85, go_sem, Fil.val]) rfl ⟨rfl, ?_⟩
  exact ((Below.refl _ _).alloc (Nat.le_refl _) _).alloc (by simp) _

set_option maxHeartbeats 1000000 in
set_option maxRecDepth 1000000 in
theorem find_none (b n : Nat) (L : List Fil) (s : ByteArray) (a0 a1 a2 a3 a4 : Addr) (w : World) (hM : MapF w b n L) (hs : s.size ≤ maxLen) (hE : Errs w a0 a1 a2 a3 a4) (hf : findF L s = none) :
    Calls Tryz.prog 85 #[.map (some b), .string s] w fun e w' => e = .returned (.tuple #[zeroFil.val, errV a2]) ∧ Below w.heap.size w w' := by
  have hM1 := World.ownsMap.alloc hM (.cells #[.string ⟨#[]⟩, .string ⟨#[]⟩, .int .i64 0] 53)
  have hb0 : Below w.heap.size w ((w.alloc (.cells #[.string ⟨#[]⟩, .string ⟨#[]⟩, .int .i64 0] 53)).alloc (.cells #[.string ⟨#[]⟩, .string ⟨#[]⟩, .int .i64 0] 53)) := ((Below.refl _ _).alloc (Nat.le_refl _) _).alloc (by simp) _
  have e2 := (hE.below hb0).1.2.2.1
  go_enter Tryz.func85, Tryz.ntmps85
  go_wp2_with (at_lookup; refine wpList_lookup_own_ok _ rfl _ _ 95 rfl 9 53 keyed Tryz.underlying95 _ (zeroFile _) (fileD zeroFil) [] (filElem_mk _) b n _ rfl hM1 _ _ rfl (key_mk hs) ?_)
  intro v ps hv
  rw [at_D, hf] at hv
  have hv' := filElem_inv hv
  have hh : Maps.has (DataW.map (L.map ent)) (.string s.data.toList) = false := by rw [has_D, hf]; rfl
  rw [hh, hv']
  unfold Fil.val zeroFil
  go_wp2
  go_region
  go_wp2
  have hk := ((Blk.fresh w 53 [.string ⟨#[]⟩, .string ⟨#[]⟩, .int .i64 0]).alloc (.cells #[.string ⟨#[]⟩, .string ⟨#[]⟩, .int .i64 0] 53)).drew
  have d0 := hk.cell (i := 0) rfl
  have d1 := hk.cell (i := 1) rfl
  have d2 := hk.cell (i := 2) rfl
  refine bodyPost_ret (v := .tuple #[zeroFil.val, errV a2]) (by simp [results, Tryz.results85, go_sem, Fil.val, zeroFil, d0, d1, d2]) rfl ⟨rfl, ?_⟩
  exact below_drew hb0

theorem tooLong_any (s : ByteArray) (w : World) (hs : s.size ≤ maxLen) : Calls Tryz.prog 74 #[.string s] w fun e w' => e = .returned (.bool (decide (20000 < s.size))) ∧ w' = w := by
  unfold maxLen at hs
  go_enter Tryz.func74, Tryz.ntmps74
  go_wp2
  go_ret
  exact ⟨retB (by simp; omega), rfl⟩
end Go.Proofs.YtebkblmejkkhfaaGreatDoor

namespace Go.Proofs.YtebkblmejkkhfaaGreatDoor
open Go.RowKit
set_option linter.unusedVariables false

theorem sizeU8 : (Tryz.prog.info? 5).map (·.size) = some 1 := by kernel_rfl

/-- A row that is owned up to its capacity is its block. -/
theorem own_heap {w : World} {base g n : Nat} {e : TypeId} {xs : List Value} (h : w.ownsRow base e 1 (.slice (some ⟨g, 0, none⟩) n n) n xs) : w.heap[g]? = some (.cells xs.toArray e (0, 0)) := by
  obtain ⟨hl, hh⟩ := h
  rcases hh with ⟨h1, _⟩ | ⟨g', cap, cur, h1, _, hb, _, _, hs, ht⟩
  · cases h1
  · simp at h1
    obtain ⟨rfl, rfl⟩ := h1
    rw [hb]
    have : cur.toList = xs := by rw [← ht, List.take_of_length_le (by simp [hs])]
    rw [← this]
theorem own_heap' {w : World} {base g n : Nat} {e : TypeId} {xs : List Value} (h : w.ownsRow base e 1 (.slice (some ⟨g, 0, none⟩) n n) n xs) : ∃ Z : List Value, Hid (w.heap[g]? = some (.cells Z.toArray e (0, 0))) ∧ Z.length = n :=
  ⟨xs, own_heap h, by simpa using h.1⟩

theorem bc_len (a : ByteArray) : (Lib.byteCells a.data.toList).length = a.size := by rw [Lib.byteCells_length, ← Lib.size_eq]
theorem ne_empty {b : ByteArray} (h : 0 < b.size) : ¬ b = ByteArray.empty := by intro e; subst e; simp at h

theorem splice_len0 {Z : List Value} {a : ByteArray} {m : Nat} (h : Z.length = a.size + m) : (splice Z 0 (Lib.byteCells a.data.toList)).length = a.size + m := by
  rw [length_splice _ _ _ (by rw [bc_len]; omega), h]
theorem conv_two {w : World} {g n : Nat} {Z : List Value} {a b : ByteArray} (hn : n = a.size + b.size) (hs : n ≤ 1048576)
    (h : Hid (w.heap[g]? = some (.cells (splice (splice Z 0 (Lib.byteCells a.data.toList)) a.size (Lib.byteCells b.data.toList)).toArray 5 (0, 0)))) (hZ : Hid (Z.length = a.size + b.size)) :
    (convert 22 9 (.slice (some ⟨g, 0, none⟩) n n)).run Tryz.prog w = .ok (.string (a ++ b)) w := by
  have e : splice (splice Z 0 (Lib.byteCells a.data.toList)) a.size (Lib.byteCells b.data.toList) = Lib.byteCells (a.data.toList ++ b.data.toList) := by
    have := splice_two Z (Lib.byteCells a.data.toList) (Lib.byteCells b.data.toList) (by rw [bc_len, bc_len]; exact hZ.out)
    rw [bc_len] at this
    rw [this, byteCells_append]
  have h' := h.out
  rw [e] at h'
  have hl : (Lib.byteCells (a.data.toList ++ b.data.toList)).length = n := by rw [← byteCells_append, List.length_append, bc_len, bc_len, hn]
  rw [← str_append]
  refine own_bytes (base := 0) (n := n) ⟨by simpa using hl, .inr ⟨g, n, _, rfl, Nat.zero_le _, h', Nat.le_refl _, ?_, by simpa using hl, ?_⟩⟩
  · unfold maxLen; omega
  · rw [List.take_of_length_le (by simp [hl])]

end Go.Proofs.YtebkblmejkkhfaaGreatDoor

namespace Go.Proofs.YtebkblmejkkhfaaGreatDoor
open Go.RowKit
set_option linter.unusedVariables false

theorem cellsU8 : Tryz.prog.cellsOf 5 = 1 := by kernel_rfl
theorem splice_one {α : Type} (Z X : List α) (hZ : Z.length = X.length) : splice Z 0 X = X := by simp [splice, hZ]

/-- The string over the whole of a new row of bytes. -/
theorem run_clone {w : World} {g : Nat} {Z : List Value} {s : ByteArray} (hp : 0 < s.size) (hs : s.size ≤ 1048576)
    (h : Hid (w.heap[g]? = some (.cells (splice Z 0 (Lib.byteCells s.data.toList)).toArray 5 (0, 0)))) (hZ : Hid (Z.length = s.size)) :
    (Builtin.unsafeString_ #[174, 3] 9 #[.pointer (some ⟨g, 0, none⟩), .int .i64 s.size]).run Tryz.prog w = .ok (.string s) (w.freeze ⟨g, 0, none⟩ s.size) := by
  have e : splice Z 0 (Lib.byteCells s.data.toList) = Lib.byteCells s.data.toList := splice_one _ _ (by rw [bc_len]; exact hZ.out)
  have h' := h.out
  rw [e] at h'
  have hl : s.data.toList.length = s.size := by simp
  have := Lib.run_unsafeString_row (P := Tryz.prog) w 174 3 9 5 Tryz.underlying174 cellsU8 g s.size (by simp [World.shape?, h', bc_len]) s.data.toList
    (by intro e; rw [e] at hl; simp at hl; omega) (by omega) (by omega) (by
      intro j x hj
      have hjl : j < s.data.toList.length := (List.getElem?_eq_some_iff.1 hj).1
      have hadd : (⟨g, 0, none⟩ : Addr).add j = ⟨g, j, none⟩ := by unfold Addr.add; split <;> simp_all
      rw [hadd]
      simp [World.cell?, h', Lib.byteCells, hj])
  rw [hl] at this
  exact this

set_option maxHeartbeats 1600000 in
set_option maxRecDepth 1000000 in
theorem slClone_any (s : ByteArray) (w : World) (hs : s.size ≤ 1048576) :
    Calls Tryz.prog 133 #[.string s] w fun e w' => e = .returned (.string s) ∧ Below w.heap.size w w' := by
  obtain ⟨i0, hi, hz0, hz1, hz2⟩ := info_parts infoU8
  by_cases hz : s.size = 0
  · have he : s = ByteArray.empty := ByteArray.size_eq_zero_iff.1 hz
    subst he
    go_enter Tryz.func133, Tryz.ntmps133
    go_wp2
    go_ret
    exact ⟨rfl, Below.refl _ _⟩
  · have hp : 0 < s.size := by omega
    have hne : ((s.size : Int) == 0) = false := by simpa using ne_empty hp
    clear hz
    go_enter Tryz.func133, Tryz.ntmps133
    go_wp2_with (first
    | (at_make; refine wpList_make_full _ rfl _ _ 22 rfl w.heap.size 5 i0 (.int .u8 0) 1 Tryz.underlying22 hi hz0 hz1 _ _ _ _ s.size rfl rfl rfl rfl (by rw [hz2]; omega) (by unfold maxLen; omega) (Nat.le_refl _) ?_; intro w1 hown1 hgrow1; obtain ⟨Z, HG1, hZ⟩ := own_heap' hown1; have HZ := Lib.hid hZ; clear hZ; have hb1 := (Below.refl w.heap.size w).grown hgrow1 (Nat.le_refl _) (fun k e => by cases e); clear hown1 hgrow1)
    | ((with_reducible refine wpList_copy_str rfl (.tmp 10) (.tmp 11) 22 9 rfl 5 Tryz.underlying22 sizeU8 _ _ _ s rfl rfl w.heap.size 0 _ 5 HG1.out (by omega) (fun _ => rfl) (by rw [HZ.out]; omega) w.heap.size w hb1 (Nat.le_refl _) ?_); intro w2 HG2 hb2; clear HG1 hb1; have hcl := run_clone hp hs HG2 HZ))
    go_ret
    exact ⟨rfl, Lib.below_freeze hb2 (p := ⟨w.heap.size, 0, none⟩) (Nat.le_refl _) _⟩

theorem clone_any (s : ByteArray) (w : World) (hs : s.size ≤ 1048576) :
    Calls Tryz.prog 86 #[.string s] w fun e w' => e = .returned (.string s) ∧ Below w.heap.size w w' := by
  go_enter Tryz.func86, Tryz.ntmps86
  go_wp2_with (go_at_call 133; refine (slClone_any _ _ hs).mono ?_; rintro e w1 ⟨rfl, hb1⟩)
  go_ret
  exact ⟨rfl, hb1⟩


end Go.Proofs.YtebkblmejkkhfaaGreatDoor
