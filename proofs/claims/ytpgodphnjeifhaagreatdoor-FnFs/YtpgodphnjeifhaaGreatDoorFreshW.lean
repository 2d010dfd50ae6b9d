/- A region that draws its order, whose operations only read, and whose callees keep what is known of the world (they may make memory): one walk, over a class of worlds. The contract of strings.Clone. The contract of freshFile: a file's copy. -/
import Derived.Test.YtpgodphnjeifhaaGreatDoorRowW
import Derived.BigQuiet
import Derived.Lib.UnsafeStr
import Derived.Test.YtpgodphnjeifhaaGreatDoorFilRightW
import Derived.Deep.RegionHeld3
import Derived.RegionTactic
namespace Go.Proofs.YtpgodphnjeifhaaGreatDoor
open Go.RowKit
set_option linter.unusedVariables false

/-- A class of worlds, told by a map from some type. -/
theorem class_of (S : World → Prop) : ∃ (I : Type) (f : I → World), ∀ W, (∃ s, W = f s) ↔ S W :=
  ⟨{ W : World // S W }, Subtype.val, fun W => ⟨fun ⟨s, e⟩ => e ▸ s.2, fun h => ⟨⟨W, h⟩, rfl⟩⟩⟩

theorem wp_region_kept {P : Program} {id : Nat} {Q : Exit → Act → World → Prop} {a : Act} {w : World} {l : List Oper} {I : Type} (f : I → World) (hm : P.follows .mixedOrders = true) (hB : Region.lexB .any l.toArray = true) (h0 : ∃ s, w.drew = f s)
    (h : wpQuiet P l.toArray (fun w' => ∃ s, w' = f s) (fun a' => ∀ w', (∃ s, w' = f s) → Q .normal a' w') l a) : (Code.region id l.toArray true).wp P Q a w :=
  wp_region_quiet (C := fun w' => ∃ s, w' = f s) hm hB h0 (by simpa using h)

/-- The worlds that come of w by making memory. -/
theorem class_grown (w : World) : ∃ (I : Type) (f : I → World), Nonempty I ∧ (∃ s, w.drew = f s) ∧ (∀ s, Below w.heap.size w (f s)) ∧ (∀ s W', Below (f s).heap.size (f s) W' → ∃ s', W' = f s') ∧ (∀ W, (∃ s, W = f s) → Below w.heap.size w W) := by
  obtain ⟨I, f, hf⟩ := class_of (fun W => Below w.heap.size w W)
  have h0 : ∃ s, w.drew = f s := (hf _).2 (below_drew (Below.refl _ _))
  exact ⟨I, f, ⟨h0.choose⟩, h0, fun s => (hf _).1 ⟨s, rfl⟩, fun s W' h => (hf _).2 (((hf _).1 ⟨s, rfl⟩).trans (h.mono ((hf _).1 ⟨s, rfl⟩).size)), fun W h => (hf _).1 h⟩
theorem kept_cell {w W : World} {a : Addr} {v : Value} (h : Below w.heap.size w W) (hc : w.cell? a = some v) : W.cell? a = some v := by
  rw [← hc]; exact World.cell?_of_block (h.block _ (World.block_lt_of_cell? w a hc))
theorem row_off {w : World} {base n size : Nat} {e : TypeId} {v : Value} {xs : List Value} (h : w.ownsRow base e size v n xs) {p : Addr} (hp : v.ownBlock ≠ some p.block) (u : Value) : (w.setCell p u).ownsRow base e size v n xs :=
  h.kept (row := some p.block) ⟨rfl, rfl, rfl, by simp [World.setCell], fun k _ hne => Below.heap_setCell w p u k (fun e => hne (by rw [e]))⟩ (.inr hp)
theorem cell_put_far {w : World} {a p : Addr} {v : Value} (h : w.cell? a = some v) (hne : a.block ≠ p.block) (u : Value) : (w.setCell p u).cell? a = some v := by
  rw [← h]; exact World.cell?_of_block (Below.heap_setCell w p u _ hne)
theorem row_cell {w : World} {base g n c size : Nat} {e : TypeId} {xs : List Value} (h : w.ownsRow base e size (.slice (some ⟨g, 0, none⟩) n c) n xs) {j : Nat} (hj : j < n * size) : ∃ u, w.cell? ⟨g, j, none⟩ = some u := by
  have hl := h.1
  exact ⟨xs[j]'(by omega), by rw [h.cellAt j hj, List.getElem?_eq_getElem]⟩

end Go.Proofs.YtpgodphnjeifhaaGreatDoor

namespace Go.Proofs.YtpgodphnjeifhaaGreatDoor
open Go.RowKit
set_option linter.unusedVariables false

theorem cellsU8 : Tryz.prog.cellsOf 5 = 1 := by kernel_rfl
theorem splice_one {α : Type} (Z X : List α) (hZ : Z.length = X.length) : splice Z 0 X = X := by simp [splice, hZ]

/-- The string over the whole of a new row of bytes. -/
theorem run_clone {w : World} {g : Nat} {Z : List Value} {s : ByteArray} (hp : 0 < s.size) (hs : s.size ≤ 1048576)
    (h : Hid (w.heap[g]? = some (.cells (splice Z 0 (Lib.byteCells s.data.toList)).toArray 5 (0, 0)))) (hZ : Hid (Z.length = s.size)) :
    (Builtin.unsafeString_ #[111, 3] 9 #[.pointer (some ⟨g, 0, none⟩), .int .i64 s.size]).run Tryz.prog w = .ok (.string s) (w.freeze ⟨g, 0, none⟩ s.size) := by
  have e : splice Z 0 (Lib.byteCells s.data.toList) = Lib.byteCells s.data.toList := splice_one _ _ (by rw [bc_len]; exact hZ.out)
  have h' := h.out
  rw [e] at h'
  have hl : s.data.toList.length = s.size := by simp
  have := Lib.run_unsafeString_row (P := Tryz.prog) w 111 3 9 5 Tryz.underlying111 cellsU8 g s.size (by simp [World.shape?, h', bc_len]) s.data.toList
    (by intro e; rw [e] at hl; simp at hl; omega) (by omega) (by omega) (by
      intro j x hj
      have hjl : j < s.data.toList.length := (List.getElem?_eq_some_iff.1 hj).1
      have hadd : (⟨g, 0, none⟩ : Addr).add j = ⟨g, j, none⟩ := by unfold Addr.add; split <;> simp_all
      rw [hadd]
      simp [World.cell?, h', Lib.byteCells, hj])
  rw [hl] at this
  exact this

set_option maxHeartbeats 1600000 in
set_option maxRecDepth 1000000 in
theorem slClone_any (s : ByteArray) (w : World) (hs : s.size ≤ 1048576) :
    Calls Tryz.prog 76 #[.string s] w fun e w' => e = .returned (.string s) ∧ Below w.heap.size w w' := by
  obtain ⟨i0, hi, hz0, hz1, hz2⟩ := info_parts infoU8
  by_cases hz : s.size = 0
  · have he : s = ByteArray.empty := ByteArray.size_eq_zero_iff.1 hz
    subst he
    go_enter Tryz.func76, Tryz.ntmps76
    go_wp2
    go_ret
    exact ⟨rfl, Below.refl _ _⟩
  · have hp : 0 < s.size := by omega
    have hne : ((s.size : Int) == 0) = false := by simpa using ne_empty hp
    clear hz
    go_enter Tryz.func76, Tryz.ntmps76
    go_wp2_with (first
    | (at_make; refine wpList_make_full _ rfl _ _ 22 rfl w.heap.size 5 i0 (.int .u8 0) 1 Tryz.underlying22 hi hz0 hz1 _ _ _ _ s.size rfl rfl rfl rfl (by rw [hz2]; omega) (by unfold maxLen; omega) (Nat.le_refl _) ?_; intro w1 hown1 hgrow1; obtain ⟨Z, HG1, hZ⟩ := own_heap' hown1; have HZ := Lib.hid hZ; clear hZ; have hb1 := (Below.refl w.heap.size w).grown hgrow1 (Nat.le_refl _) (fun k e => by cases e); clear hown1 hgrow1)
    | ((with_reducible refine wpList_copy_str rfl (.tmp 10) (.tmp 11) 22 9 rfl 5 Tryz.underlying22 sizeU8 _ _ _ s rfl rfl w.heap.size 0 _ 5 HG1.out (by omega) (fun _ => rfl) (by rw [HZ.out]; omega) w.heap.size w hb1 (Nat.le_refl _) ?_); intro w2 HG2 hb2; clear HG1 hb1; have hcl := run_clone hp hs HG2 HZ))
    go_ret
    exact ⟨rfl, Lib.below_freeze hb2 (p := ⟨w.heap.size, 0, none⟩) (Nat.le_refl _) _⟩

theorem clone_any (s : ByteArray) (w : World) (hs : s.size ≤ 1048576) :
    Calls Tryz.prog 50 #[.string s] w fun e w' => e = .returned (.string s) ∧ Below w.heap.size w w' := by
  go_enter Tryz.func50, Tryz.ntmps50
  go_wp2_with (go_at_call 76; refine (slClone_any _ _ hs).mono ?_; rintro e w1 ⟨rfl, hb1⟩)
  go_ret
  exact ⟨rfl, hb1⟩


end Go.Proofs.YtpgodphnjeifhaaGreatDoor

namespace Go.Proofs.YtpgodphnjeifhaaGreatDoor
open Go.RowKit
set_option linter.unusedVariables false
set_option maxRecDepth 1000000

theorem kept_froz {w W : World} {a : Addr} {v : Value} (h : Below w.heap.size w W) (hc : w.cell? a = some v) (hf : w.frozen? a = false) : W.frozen? a = false := by
  rw [← hf]; exact World.frozen?_of_block (h.block _ (World.block_lt_of_cell? w a hc))

set_option maxHeartbeats 4000000 in
set_option maxRecDepth 1000000 in
theorem freshFile_any (f : Fil) (w : World) (h0 : f.name.size ≤ 1048576) (h1 : f.data.size ≤ 1048576) : Calls Tryz.prog 61 #[f.val] w fun e w' => e = .returned f.val ∧ Below w.heap.size w w' := by
  obtain ⟨s0, s1, k⟩ := f
  simp only at h0 h1
  unfold Fil.val
  simp only
  have hA0 := (Blk.fresh w 53 [.string s0, .string s1, .int .i64 k]).alloc (.cells #[.string ⟨#[]⟩, .string ⟨#[]⟩, .int .i64 0] 53)
  have hB0 := Blk.fresh (w.alloc (.cells #[.string s0, .string s1, .int .i64 k] 53)) 53 [.string ⟨#[]⟩, .string ⟨#[]⟩, .int .i64 0]
  simp only [World.size_alloc] at hB0
  have hb0 : Below w.heap.size w ((w.alloc (.cells #[.string s0, .string s1, .int .i64 k] 53)).alloc (.cells #[.string ⟨#[]⟩, .string ⟨#[]⟩, .int .i64 0] 53)) := ((Below.refl _ _).alloc (Nat.le_refl _) _).alloc (by simp) _
  go_enter Tryz.func61, Tryz.ntmps61
  go_wp2
  generalize (w.alloc (.cells #[.string s0, .string s1, .int .i64 k] 53)).alloc (.cells #[.string ⟨#[]⟩, .string ⟨#[]⟩, .int .i64 0] 53) = v0 at hA0 hB0 hb0 ⊢
  have key : ∀ W W' : World, (W.cell? ⟨w.heap.size, 0, none⟩ = some (.string s0) ∧ W.cell? ⟨w.heap.size, 1, none⟩ = some (.string s1) ∧ W.cell? ⟨w.heap.size, 2, none⟩ = some (.int .i64 k)) → Below W.heap.size W W' → (W'.cell? ⟨w.heap.size, 0, none⟩ = some (.string s0) ∧ W'.cell? ⟨w.heap.size, 1, none⟩ = some (.string s1) ∧ W'.cell? ⟨w.heap.size, 2, none⟩ = some (.int .i64 k)) :=
    fun W W' ⟨a, b, c⟩ hb => ⟨kept_cell hb a, kept_cell hb b, kept_cell hb c⟩
  have x0 := hA0.drew.cell (i := 0) rfl
  have x1 := hA0.drew.cell (i := 1) rfl
  have x2 := hA0.drew.cell (i := 2) rfl
  have hB0d := hB0.drew
  have hb0d := below_drew hb0
  go_region_held3 (fun W => W.cell? ⟨w.heap.size, 0, none⟩ = some (.string s0) ∧ W.cell? ⟨w.heap.size, 1, none⟩ = some (.string s1) ∧ W.cell? ⟨w.heap.size, 2, none⟩ = some (.int .i64 k))
    (first
      | exact ⟨x0, x1, x2⟩
      | exact key _ _ (by assumption) hb1
      | exact key _ _ (by assumption) hb2
      | go_keep)
    (first
      | (go_at_call 50; refine (clone_any s0 _ h0).mono ?_; rintro e w1 ⟨rfl, hb1⟩; have hB1 := hB0d.below hb1 hB0d.lt)
      | (go_at_call 50; refine (clone_any s1 _ h1).mono ?_; rintro e w2 ⟨rfl, hb2⟩; have hB2 := hB1.below hb2 hB1.lt; have t0 := hB2.cell (i := 0) rfl; have t1 := hB2.cell (i := 1) rfl; have t2 := hB2.cell (i := 2) rfl; have f0 := hB2.froz 0; have f1 := hB2.froz 1; have f2 := hB2.froz 2))
  have hw2 : Below w.heap.size w w2 := (hb0d.trans (hb1.mono hb0d.size)).trans (hb2.mono (Nat.le_trans hb0d.size hb1.size))
  have hp := ((hB2.put 0 (.string s0)).put 1 (.string s1)).put 2 (.int .i64 k)
  have k0 := hp.cell (i := 0) rfl
  have k1 := hp.cell (i := 1) rfl
  have k2 := hp.cell (i := 2) rfl
  clear t0 t1 t2 f0 f1 f2
  go_wp2
  refine bodyPost_ret (v := .agg #[.string s0, .string s1, .int .i64 k]) (by simp only [results, Tryz.results61]; simp [go_sem, k0, k1, k2]) rfl ⟨rfl, ?_⟩
  exact ((hw2.setCell (by simp) _).setCell (by simp) _).setCell (by simp) _

theorem syncedFile_any (f : Fil) (w : World) (hf : f.fits) : Calls Tryz.prog 79 #[f.val] w fun e w' => e = .returned (Fil.val ⟨f.name, f.data, (f.data.size : Int)⟩) ∧ Below w.heap.size w w' := by
  obtain ⟨s0, s1, k⟩ := f
  have h1 := hf.2.1
  simp only at h1
  unfold maxLen at h1
  unfold Fil.val
  simp only
  go_enter Tryz.func79, Tryz.ntmps79
  go_wp2
  refine bodyPost_ret (v := .agg #[.string s0, .string s1, .int .i64 s1.size]) (by simp [results, Tryz.results79, go_sem]) rfl ⟨rfl, ?_⟩
  exact ((Below.refl _ _).alloc (Nat.le_refl _) _).alloc (by simp) _
end Go.Proofs.YtpgodphnjeifhaaGreatDoor
