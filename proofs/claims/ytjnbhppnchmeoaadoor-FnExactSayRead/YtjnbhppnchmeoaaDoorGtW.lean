/- Rows of bytes that are known whole; joined. The contract of strings.Clone. Contracts of GetText over those of GetNum, and the walk of its law. What GetText answers, as a function of the string and the place; the contracts of GetText in these words. -/
import Derived.Test.YtjnbhppnchmeoaaDoorRdW
import Derived.Lib.UnsafeStr
import Derived.Test.YtjnbhppnchmeoaaDoorGetTextW
import Derived.RegionTactic
import Derived.BigRegion
namespace Go.Proofs.YtjnbhppnchmeoaaDoor
open Go.RowKit
set_option linter.unusedVariables false

theorem sizeU8 : (Tryd.prog.info? 5).map (·.size) = some 1 := by kernel_rfl

/-- A row that is owned up to its capacity is its block. -/
theorem own_heap {w : World} {base g n : Nat} {e : TypeId} {xs : List Value} (h : w.ownsRow base e 1 (.slice (some ⟨g, 0, none⟩) n n) n xs) : w.heap[g]? = some (.cells xs.toArray e (0, 0)) := by
  obtain ⟨hl, hh⟩ := h
  rcases hh with ⟨h1, _⟩ | ⟨g', cap, cur, h1, _, hb, _, _, hs, ht⟩
  · cases h1
  · simp at h1
    obtain ⟨rfl, rfl⟩ := h1
    rw [hb]
    have : cur.toList = xs := by rw [← ht, List.take_of_length_le (by simp [hs])]
    rw [← this]
theorem own_heap' {w : World} {base g n : Nat} {e : TypeId} {xs : List Value} (h : w.ownsRow base e 1 (.slice (some ⟨g, 0, none⟩) n n) n xs) : ∃ Z : List Value, Hid (w.heap[g]? = some (.cells Z.toArray e (0, 0))) ∧ Z.length = n :=
  ⟨xs, own_heap h, by simpa using h.1⟩

theorem bc_len (a : ByteArray) : (Lib.byteCells a.data.toList).length = a.size := by rw [Lib.byteCells_length, ← Lib.size_eq]
theorem ne_empty {b : ByteArray} (h : 0 < b.size) : ¬ b = ByteArray.empty := by intro e; subst e; simp at h

theorem splice_len0 {Z : List Value} {a : ByteArray} {m : Nat} (h : Z.length = a.size + m) : (splice Z 0 (Lib.byteCells a.data.toList)).length = a.size + m := by
  rw [length_splice _ _ _ (by rw [bc_len]; omega), h]
theorem conv_two {w : World} {g n : Nat} {Z : List Value} {a b : ByteArray} (hn : n = a.size + b.size) (hs : n ≤ 1048576)
    (h : Hid (w.heap[g]? = some (.cells (splice (splice Z 0 (Lib.byteCells a.data.toList)) a.size (Lib.byteCells b.data.toList)).toArray 5 (0, 0)))) (hZ : Hid (Z.length = a.size + b.size)) :
    (convert 118 9 (.slice (some ⟨g, 0, none⟩) n n)).run Tryd.prog w = .ok (.string (a ++ b)) w := by
  have e : splice (splice Z 0 (Lib.byteCells a.data.toList)) a.size (Lib.byteCells b.data.toList) = Lib.byteCells (a.data.toList ++ b.data.toList) := by
    have := splice_two Z (Lib.byteCells a.data.toList) (Lib.byteCells b.data.toList) (by rw [bc_len, bc_len]; exact hZ.out)
    rw [bc_len] at this
    rw [this, byteCells_append]
  have h' := h.out
  rw [e] at h'
  have hl : (Lib.byteCells (a.data.toList ++ b.data.toList)).length = n := by rw [← byteCells_append, List.length_append, bc_len, bc_len, hn]
  rw [← str_append]
  refine own_bytes (base := 0) (n := n) ⟨by simpa using hl, .inr ⟨g, n, _, rfl, Nat.zero_le _, h', Nat.le_refl _, ?_, by simpa using hl, ?_⟩⟩
  · unfold maxLen; omega
  · rw [List.take_of_length_le (by simp [hl])]

end Go.Proofs.YtjnbhppnchmeoaaDoor

namespace Go.Proofs.YtjnbhppnchmeoaaDoor
open Go.RowKit
set_option linter.unusedVariables false

theorem cellsU8 : Tryd.prog.cellsOf 5 = 1 := by kernel_rfl
theorem splice_one {α : Type} (Z X : List α) (hZ : Z.length = X.length) : splice Z 0 X = X := by simp [splice, hZ]

/-- The string over the whole of a new row of bytes. -/
theorem run_clone {w : World} {g : Nat} {Z : List Value} {s : ByteArray} (hp : 0 < s.size) (hs : s.size ≤ 1048576)
    (h : Hid (w.heap[g]? = some (.cells (splice Z 0 (Lib.byteCells s.data.toList)).toArray 5 (0, 0)))) (hZ : Hid (Z.length = s.size)) :
    (Builtin.unsafeString_ #[146, 3] 9 #[.pointer (some ⟨g, 0, none⟩), .int .i64 s.size]).run Tryd.prog w = .ok (.string s) (w.freeze ⟨g, 0, none⟩ s.size) := by
  have e : splice Z 0 (Lib.byteCells s.data.toList) = Lib.byteCells s.data.toList := splice_one _ _ (by rw [bc_len]; exact hZ.out)
  have h' := h.out
  rw [e] at h'
  have hl : s.data.toList.length = s.size := by simp
  have := Lib.run_unsafeString_row (P := Tryd.prog) w 146 3 9 5 Tryd.underlying146 cellsU8 g s.size (by simp [World.shape?, h', bc_len]) s.data.toList
    (by intro e; rw [e] at hl; simp at hl; omega) (by omega) (by omega) (by
      intro j x hj
      have hjl : j < s.data.toList.length := (List.getElem?_eq_some_iff.1 hj).1
      have hadd : (⟨g, 0, none⟩ : Addr).add j = ⟨g, j, none⟩ := by unfold Addr.add; split <;> simp_all
      rw [hadd]
      simp [World.cell?, h', Lib.byteCells, hj])
  rw [hl] at this
  exact this

set_option maxHeartbeats 1600000 in
set_option maxRecDepth 1000000 in
theorem slClone_any (s : ByteArray) (w : World) (hs : s.size ≤ 1048576) :
    Calls Tryd.prog 92 #[.string s] w fun e w' => e = .returned (.string s) ∧ Below w.heap.size w w' := by
  obtain ⟨i0, hi, hz0, hz1, hz2⟩ := info_parts infoU8
  by_cases hz : s.size = 0
  · have he : s = ByteArray.empty := ByteArray.size_eq_zero_iff.1 hz
    subst he
    go_enter Tryd.func92, Tryd.ntmps92
    go_wp2
    go_ret
    exact ⟨rfl, Below.refl _ _⟩
  · have hp : 0 < s.size := by omega
    have hne : ((s.size : Int) == 0) = false := by simpa using ne_empty hp
    clear hz
    go_enter Tryd.func92, Tryd.ntmps92
    go_wp2_with (first
    | (at_make; refine wpList_make_full _ rfl _ _ 118 rfl w.heap.size 5 i0 (.int .u8 0) 1 Tryd.underlying118 hi hz0 hz1 _ _ _ _ s.size rfl rfl rfl rfl (by rw [hz2]; omega) (by unfold maxLen; omega) (Nat.le_refl _) ?_; intro w1 hown1 hgrow1; obtain ⟨Z, HG1, hZ⟩ := own_heap' hown1; have HZ := Lib.hid hZ; clear hZ; have hb1 := (Below.refl w.heap.size w).grown hgrow1 (Nat.le_refl _) (fun k e => by cases e); clear hown1 hgrow1)
    | ((with_reducible refine wpList_copy_str rfl (.tmp 10) (.tmp 11) 118 9 rfl 5 Tryd.underlying118 sizeU8 _ _ _ s rfl rfl w.heap.size 0 _ 5 HG1.out (by omega) (fun _ => rfl) (by rw [HZ.out]; omega) w.heap.size w hb1 (Nat.le_refl _) ?_); intro w2 HG2 hb2; clear HG1 hb1; have hcl := run_clone hp hs HG2 HZ))
    go_ret
    exact ⟨rfl, Lib.below_freeze hb2 (p := ⟨w.heap.size, 0, none⟩) (Nat.le_refl _) _⟩

theorem clone_any (s : ByteArray) (w : World) (hs : s.size ≤ 1048576) :
    Calls Tryd.prog 67 #[.string s] w fun e w' => e = .returned (.string s) ∧ Below w.heap.size w w' := by
  go_enter Tryd.func67, Tryd.ntmps67
  go_wp2_with (go_at_call 92; refine (slClone_any _ _ hs).mono ?_; rintro e w1 ⟨rfl, hb1⟩)
  go_ret
  exact ⟨rfl, hb1⟩


end Go.Proofs.YtjnbhppnchmeoaaDoor

namespace Go.Proofs.YtjnbhppnchmeoaaDoor
open Go.RowKit
set_option linter.unusedVariables false

def textV (s : ByteArray) (n a c : Int) : Value :=
  if c ≠ 0 then textOut ⟨#[]⟩ 0 c else if n < 0 ∨ 20000 < n then textOut ⟨#[]⟩ 0 3 else if (s.size : Int) < a + n then textOut ⟨#[]⟩ 0 4 else textOut (s.extract a.toNat (a + n).toNat) (a + n) 0
theorem textV_c {s : ByteArray} {n a c : Int} (h : c ≠ 0) : textV s n a c = textOut ⟨#[]⟩ 0 c := by unfold textV; rw [if_pos h]
theorem textV_n {s : ByteArray} {n a : Int} (h : n < 0 ∨ 20000 < n) : textV s n a 0 = textOut ⟨#[]⟩ 0 3 := by unfold textV; rw [if_neg (by omega), if_pos h]
theorem textV_e {s : ByteArray} {n a : Int} (h : ¬ (n < 0 ∨ 20000 < n)) (h2 : (s.size : Int) < a + n) : textV s n a 0 = textOut ⟨#[]⟩ 0 4 := by unfold textV; rw [if_neg (by omega), if_neg h, if_pos h2]
theorem textV_ok {s : ByteArray} {n a : Int} (h : ¬ (n < 0 ∨ 20000 < n)) (h2 : ¬ (s.size : Int) < a + n) : textV s n a 0 = textOut (s.extract a.toNat (a + n).toNat) (a + n) 0 := by unfold textV; rw [if_neg (by omega), if_neg h, if_neg h2]

/-- Below, behind the result's block and a call. -/
theorem below_res {w w1 : World} {o1 : Obj} (hb1 : Below (w.alloc o1).heap.size (w.alloc o1) w1) : Below w.heap.size w w1 :=
  ((Below.refl w.heap.size w).alloc (Nat.le_refl _) _).trans (hb1.mono (by simp))

/-- Below, behind three stores into the result's block and one block more. -/
theorem below_fin {w w1 : World} {v0 v1 v2 : Value} {o : Obj} (hb : Below w.heap.size w w1) (h : w.heap.size ≤ w1.heap.size) :
    Below w.heap.size w ((((w1.setCell ⟨w.heap.size, 0, none⟩ v0).setCell ⟨w.heap.size, 1, none⟩ v1).setCell ⟨w.heap.size, 2, none⟩ v2).alloc o) :=
  (((hb.setCell (Nat.le_refl _) _).setCell (Nat.le_refl _) _).setCell (Nat.le_refl _) _).alloc (by simpa [World.setCell] using h) _

set_option maxHeartbeats 4000000 in
theorem specGetText_of (s : ByteArray) (a0 n a c : Int) (w : World) (hN : Hid (∀ w, Calls Tryd.prog 37 #[.string s, .int .i64 a0] w fun e w' => e = .returned (numOut n a c) ∧ Below w.heap.size w w'))
    (hc : c = 0 → 0 ≤ a ∧ a ≤ s.size ∧ s.size ≤ 20000) :
    Calls Tryd.prog 38 #[.string s, .int .i64 a0] w fun e w' => e = .returned (textV s n a c) ∧ Below w.heap.size w w' := by
  by_cases hc0 : c = 0
  · obtain ⟨ha, ha2, hs⟩ := hc hc0
    subst hc0
    clear hc
    by_cases hn : n < 0 ∨ 20000 < n
    · rw [textV_n hn]
      have hnb : n < 0 ∨ (¬ n < 0 ∧ 20000 < n) := by omega
      clear hn
      rcases hnb with hn | ⟨hn0, hn⟩
      all_goals
        go_enter Tryd.func38, Tryd.ntmps38
        go_wp2_with (go_at_call 37; refine (hN.out _).mono ?_; rintro e w1 ⟨rfl, hb1⟩; obtain ⟨hc1, hf1⟩ := bcell hb1; have hz1 := hb1.size; simp at hz1; have hlt : w.heap.size < w1.heap.size := hz1)
        refine bodyPost_ret (v := textOut ⟨#[]⟩ 0 3) (by simp [results, Tryd.results38, hc1, hlt, go_sem]) rfl ⟨rfl, ?_⟩
        exact below_fin (below_res hb1) (by omega)
    · by_cases he : (s.size : Int) < a + n
      · rw [textV_e hn he]
        have hn0 : ¬ n < 0 := by omega
        have hn1 : ¬ 20000 < n := by omega
        have he2 : (s.size : Int) - n < a := by omega
        clear hn
        go_enter Tryd.func38, Tryd.ntmps38
        go_wp2_with (go_at_call 37; refine (hN.out _).mono ?_; rintro e w1 ⟨rfl, hb1⟩; obtain ⟨hc1, hf1⟩ := bcell hb1; have hz1 := hb1.size; simp at hz1; have hlt : w.heap.size < w1.heap.size := hz1)
        refine bodyPost_ret (v := textOut ⟨#[]⟩ 0 4) (by simp [results, Tryd.results38, hc1, hlt, go_sem]) rfl ⟨rfl, ?_⟩
        exact below_fin (below_res hb1) (by omega)
      · rw [textV_ok hn he]
        have hn0 : 0 ≤ n := by omega
        have hn1 : n ≤ 20000 := by omega
        have he2 : ¬ (s.size : Int) - n < a := by omega
        have i1 : IntKind.i64.wrap (a + n) = a + n := IntWalk.i64_in _ (by omega)
        have i2 : 0 ≤ a + n := by omega
        have i3 : a + n ≤ (s.size : Int) := by omega
        have i4 : a ≤ a + n := by omega
        clear hn
        go_enter Tryd.func38, Tryd.ntmps38
        go_wp2_with (go_at_call 37; refine (hN.out _).mono ?_; rintro e w1 ⟨rfl, hb1⟩; obtain ⟨hc1, hf1⟩ := bcell hb1; have hz1 := hb1.size; simp at hz1; have hlt : w.heap.size < w1.heap.size := hz1)
        go_region
        go_wp2
        refine bodyPost_ret (v := textOut (s.extract a.toNat (a + n).toNat) (a + n) 0) (by simp [results, Tryd.results38, hc1, hlt, go_sem]) rfl ⟨rfl, ?_⟩
        exact (below_fin (below_res hb1) (by omega)).drew
  · rw [textV_c hc0]
    have hcb : (c != 0) = true := by simpa using hc0
    clear hc
    go_enter Tryd.func38, Tryd.ntmps38
    go_wp2_with (go_at_call 37; refine (hN.out _).mono ?_; rintro e w1 ⟨rfl, hb1⟩; obtain ⟨hc1, hf1⟩ := bcell hb1; have hz1 := hb1.size; simp at hz1; have hlt : w.heap.size < w1.heap.size := hz1)
    refine bodyPost_ret (v := textOut ⟨#[]⟩ 0 c) (by simp [results, Tryd.results38, hc1, hlt, go_sem]) rfl ⟨rfl, ?_⟩
    exact below_fin (below_res hb1) (by omega)

theorem extract_le (s : ByteArray) (a b : Nat) : (s.extract a b).size ≤ s.size := by simp; omega

set_option maxHeartbeats 4000000 in
theorem implGetText_of (s : ByteArray) (a0 n a c : Int) (w : World) (hg : Handle w) (hN : Hid (∀ w, Handle w → Calls Tryd.prog 42 #[.string s, .int .i64 a0] w fun e w' => e = .returned (numOut n a c) ∧ Below w.heap.size w w'))
    (hc : c = 0 → 0 ≤ a ∧ a ≤ s.size ∧ s.size ≤ 20000) :
    Calls Tryd.prog 43 #[.string s, .int .i64 a0] w fun e w' => e = .returned (textV s n a c) ∧ Below w.heap.size w w' := by
  have hg' := Handle.below hg ((Below.refl _ w).alloc (Nat.le_refl _) (.cells #[.string ⟨#[]⟩, .int .i64 0, .int .i64 0] 78))
  have HG := Lib.hid hg'
  clear hg' hg
  by_cases hc0 : c = 0
  · obtain ⟨ha, ha2, hs⟩ := hc hc0
    subst hc0
    clear hc
    by_cases hn : n < 0 ∨ 20000 < n
    · rw [textV_n hn]
      have hnb : n < 0 ∨ (¬ n < 0 ∧ 20000 < n) := by omega
      clear hn
      rcases hnb with hn | ⟨hn0, hn⟩
      all_goals
        go_enter Tryd.func43, Tryd.ntmps43
        go_wp2_with (go_at_call 42; refine (hN.out _ HG.out).mono ?_; rintro e w1 ⟨rfl, hb1⟩; obtain ⟨hc1, hf1⟩ := bcell hb1; have hz1 := hb1.size; simp at hz1; have hlt : w.heap.size < w1.heap.size := hz1)
        refine bodyPost_ret (v := textOut ⟨#[]⟩ 0 3) (by simp [results, Tryd.results43, hc1, hlt, go_sem]) rfl ⟨rfl, ?_⟩
        exact below_fin (below_res hb1) (by omega)
    · by_cases he : (s.size : Int) < a + n
      · rw [textV_e hn he]
        have hn0 : 0 ≤ n := by omega
        have hn1 : n ≤ 20000 := by omega
        clear hn
        go_enter Tryd.func43, Tryd.ntmps43
        go_wp2_with (go_at_call 42; refine (hN.out _ HG.out).mono ?_; rintro e w1 ⟨rfl, hb1⟩; obtain ⟨hc1, hf1⟩ := bcell hb1; have hz1 := hb1.size; simp at hz1; have hlt : w.heap.size < w1.heap.size := hz1)
        refine bodyPost_ret (v := textOut ⟨#[]⟩ 0 4) (by simp [results, Tryd.results43, hc1, hlt, go_sem]) rfl ⟨rfl, ?_⟩
        exact below_fin (below_res hb1) (by omega)
      · rw [textV_ok hn he]
        have hn0 : 0 ≤ n := by omega
        have hn1 : n ≤ 20000 := by omega
        have i2 : 0 ≤ a + n := by omega
        have i3 : a + n ≤ (s.size : Int) := by omega
        have i4 : a ≤ a + n := by omega
        have hx := extract_le s a.toNat (a + n).toNat
        have HK := Lib.hid (fun w => clone_any (s.extract a.toNat (a + n).toNat) w (by omega))
        clear hn hx
        go_enter Tryd.func43, Tryd.ntmps43
        go_wp2_with (first
          | (go_at_call 42; refine (hN.out _ HG.out).mono ?_; rintro e w1 ⟨rfl, hb1⟩; obtain ⟨hc1, hf1⟩ := bcell hb1; have hz1 := hb1.size; simp at hz1; have hlt : w.heap.size < w1.heap.size := hz1)
          | (go_at_call 67; refine (HK.out _).mono ?_; rintro e w2 ⟨rfl, hb2⟩; obtain ⟨hc2, hf2⟩ := bcell hb2; have hz2 := hb2.size; simp at hz2; have hlt2 : w.heap.size < w2.heap.size := (by omega)))
        have hc3 := (bcell ((hb1.alloc (by simp; omega) (.cells #[.int .i64 n, .int .i64 a, .int .i64 0] 75)).trans (hb2.mono (by simp; omega)))).1
        clear hc1 hc2 hf1 hf2
        refine bodyPost_ret (v := textOut (s.extract a.toNat (a + n).toNat) (a + n) 0) (by simp [results, Tryd.results43, hc3, go_sem]) rfl ⟨rfl, ?_⟩
        exact (((((below_res hb1).alloc (by omega) _).trans (hb2.mono (by simp; omega))).setCell (p := ⟨w.heap.size, 0, none⟩) (Nat.le_refl _) _).setCell (p := ⟨w.heap.size, 1, none⟩) (Nat.le_refl _) _).setCell (p := ⟨w.heap.size, 2, none⟩) (Nat.le_refl _) _
  · rw [textV_c hc0]
    have hcb : (c != 0) = true := by simpa using hc0
    clear hc
    go_enter Tryd.func43, Tryd.ntmps43
    go_wp2_with (go_at_call 42; refine (hN.out _ HG.out).mono ?_; rintro e w1 ⟨rfl, hb1⟩; obtain ⟨hc1, hf1⟩ := bcell hb1; have hz1 := hb1.size; simp at hz1; have hlt : w.heap.size < w1.heap.size := hz1)
    refine bodyPost_ret (v := textOut ⟨#[]⟩ 0 c) (by simp [results, Tryd.results43, hc1, hlt, go_sem]) rfl ⟨rfl, ?_⟩
    exact below_fin (below_res hb1) (by omega)

theorem textV_form (s : ByteArray) (n a c : Int) : ∃ t b d, textV s n a c = textOut t b d := by
  unfold textV; split
  · exact ⟨_, _, _, rfl⟩
  · split
    · exact ⟨_, _, _, rfl⟩
    · split
      · exact ⟨_, _, _, rfl⟩
      · exact ⟨_, _, _, rfl⟩

end Go.Proofs.YtjnbhppnchmeoaaDoor

namespace Go.Proofs.YtjnbhppnchmeoaaDoor
open Go.RowKit
set_option linter.unusedVariables false

theorem rd_err_ne {s : ByteArray} {p : Nat} : ∀ (n k u : Nat) {c : Int}, rd s p n k u = .error c → c ≠ 0 := by
  intro n
  induction n with
  | zero => intro k u c h; simp [rd] at h; omega
  | succ n ih =>
    intro k u c h
    rw [rd] at h
    split at h
    · split at h
      · cases h; omega
      · split at h
        · split at h
          · cases h; omega
          · cases h
        · exact ih _ _ h
    · cases h; omega
def gt (s : ByteArray) (p : Nat) : Except Int (ByteArray × Nat) :=
  match rd s p 10 0 0 with
  | .error c => .error c
  | .ok (u, m) => if unzig u < 0 ∨ 20000 < unzig u then .error 3 else if s.size < p + m + (unzig u).toNat then .error 4
      else .ok (s.extract (p + m) (p + m + (unzig u).toNat), p + m + (unzig u).toNat)
def txV : Except Int (ByteArray × Nat) → Value
  | .error c => textOut ⟨#[]⟩ 0 c
  | .ok (t, q) => textOut t q 0
theorem gt_err {s : ByteArray} {p : Nat} {c : Int} (h : gt s p = .error c) : c ≠ 0 := by
  unfold gt at h
  cases hr : rd s p 10 0 0 with
  | error c' => rw [hr] at h; cases h; exact rd_err_ne _ _ _ hr
  | ok x =>
    obtain ⟨u, m⟩ := x
    rw [hr] at h
    simp only at h
    split at h
    · cases h; omega
    · split at h
      · cases h; omega
      · cases h
theorem gt_ok {s : ByteArray} {p : Nat} {t : ByteArray} {q : Nat} (h : gt s p = .ok (t, q)) : t.size ≤ s.size ∧ p ≤ q ∧ q ≤ s.size := by
  unfold gt at h
  cases hr : rd s p 10 0 0 with
  | error c' => rw [hr] at h; cases h
  | ok x =>
    obtain ⟨u, m⟩ := x
    rw [hr] at h
    simp only at h
    split at h
    · cases h
    · split at h
      · cases h
      · cases h
        refine ⟨?_, by omega, by omega⟩
        simp
        omega
theorem textV_rd {s : ByteArray} {p : Nat} :
    (∀ c, rd s p 10 0 0 = .error c → textV s 0 0 c = txV (gt s p)) ∧ (∀ u m, rd s p 10 0 0 = .ok (u, m) → textV s (unzig u) ((p : Int) + m) 0 = txV (gt s p)) := by
  constructor
  · intro c h
    rw [textV_c (rd_err_ne _ _ _ h)]
    unfold gt; rw [h]; rfl
  · intro u m h
    unfold gt; rw [h]
    simp only
    by_cases h1 : unzig u < 0 ∨ 20000 < unzig u
    · rw [if_pos h1, textV_n h1]; rfl
    · rw [if_neg h1]
      by_cases h2 : s.size < p + m + (unzig u).toNat
      · rw [if_pos h2, textV_e h1 (by omega)]; rfl
      · rw [if_neg h2, textV_ok h1 (by omega)]
        have e1 : ((p : Int) + m).toNat = p + m := by omega
        have e2 : ((p : Int) + m + unzig u).toNat = p + m + (unzig u).toNat := by omega
        have e3 : (p : Int) + m + unzig u = ((p + m + (unzig u).toNat : Nat) : Int) := by omega
        rw [e1, e2, e3]; rfl

theorem specGetText_gt (s : ByteArray) (p : Nat) (w : World) (hs : s.size ≤ 20000) (hp : (p : Int) ≤ 9223372036854775807) :
    Calls Tryd.prog 38 #[.string s, .int .i64 p] w fun e w' => e = .returned (txV (gt s p)) ∧ Below w.heap.size w w' := by
  have hN := fun w => specGetNum_any s p w hs hp
  cases hr : rd s p 10 0 0 with
  | error c =>
    rw [hr] at hN
    rw [← textV_rd.1 c hr]
    exact specGetText_of s p 0 0 c w (Lib.hid hN) (fun e => absurd e (rd_err_ne _ _ _ hr))
  | ok x =>
    obtain ⟨u, m⟩ := x
    rw [hr] at hN
    rw [← textV_rd.2 u m hr]
    have := rd_within _ _ _ hr
    exact specGetText_of s p (unzig u) ((p : Int) + m) 0 w (Lib.hid hN) (fun _ => ⟨by omega, by omega, hs⟩)
theorem implGetText_gt (s : ByteArray) (p : Nat) (w : World) (hg : Handle w) (hs : s.size ≤ 20000) (hp : (p : Int) ≤ 9223372036854775807) :
    Calls Tryd.prog 43 #[.string s, .int .i64 p] w fun e w' => e = .returned (txV (gt s p)) ∧ Below w.heap.size w w' := by
  have hN := fun w hg => implGetNum_any s p w hs hp hg
  cases hr : rd s p 10 0 0 with
  | error c =>
    rw [hr] at hN
    rw [← textV_rd.1 c hr]
    exact implGetText_of s p 0 0 c w hg (Lib.hid hN) (fun e => absurd e (rd_err_ne _ _ _ hr))
  | ok x =>
    obtain ⟨u, m⟩ := x
    rw [hr] at hN
    rw [← textV_rd.2 u m hr]
    have := rd_within _ _ _ hr
    exact implGetText_of s p (unzig u) ((p : Int) + m) 0 w hg (Lib.hid hN) (fun _ => ⟨by omega, by omega, hs⟩)

end Go.Proofs.YtjnbhppnchmeoaaDoor
