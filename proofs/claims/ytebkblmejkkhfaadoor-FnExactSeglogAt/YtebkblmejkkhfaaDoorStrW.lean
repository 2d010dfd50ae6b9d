/- The marks that the exact laws write into rows, to see who owns them. Rows of strings: what the exact laws do with them. -/
import Derived.Test.YtebkblmejkkhfaaDoorFilOwnW
import Derived.Test.YtebkblmejkkhfaaDoorKeptW
namespace Go.Proofs.YtebkblmejkkhfaaDoor
open Go.RowKit
set_option linter.unusedVariables false

/-- The digits of a number; none for 0. -/
def dec (k : Nat) : List UInt8 := if h : k = 0 then [] else dec (k / 10) ++ [(48 + k % 10).toUInt8]
termination_by k
decreasing_by omega
theorem dec_zero : dec 0 = [] := by unfold dec; simp
theorem dec_step {k : Nat} (h : 0 < k) : dec k = dec (k / 10) ++ [(48 + k % 10).toUInt8] := by rw [dec, dif_neg (by omega)]
theorem dec_len : ∀ k, (dec k).length ≤ k := by
  intro k
  induction k using Nat.strongRecOn with
  | ind k ih =>
    by_cases h : k = 0
    · subst h; rw [dec_zero]; simp
    · rw [dec_step (by omega), List.length_append, List.length_singleton]
      have := ih (k / 10) (by omega)
      omega
theorem dec_digit {k : Nat} (h : 0 < k) : ∃ x : UInt8, (x.toNat : Int) = 48 + (k : Int) % 10 ∧ dec k = dec (k / 10) ++ [x] :=
  ⟨(48 + k % 10).toUInt8, by rw [Nat.toUInt8, UInt8.toNat_ofNat']; omega, dec_step h⟩
/-- A mark. -/
def markS (k : Nat) : ByteArray := ⟨(109 :: dec k).toArray⟩

set_option maxHeartbeats 1000000 in
theorem markText_any (k : Nat) (w : World) (h0 : 1 ≤ k) (h1 : k ≤ 4000000) : Calls Tryd.prog 55 #[.int .i64 k] w fun e w' => e = .returned (.string (markS k)) ∧ Below w.heap.size w w' := by
  have h0' : ¬ (k : Int) ≤ 0 := by omega
  have hdk := dec_len k
  go_enter Tryd.func55, Tryd.ntmps55
  go_wp2
  go_loopw [0, 3] (fun i o wr => ∃ (j : Nat) (out : ByteArray), i = .int .i64 j ∧ o = .string out ∧ j ≤ k ∧ dec j ++ out.data.toList = dec k ∧ Below w.heap.size w wr) (fun i _ _ => (intOf i).toNat)
  case atStart => exact ⟨k, _, rfl, rfl, Nat.le_refl _, by simp, Below.refl _ _⟩
  case round =>
    obtain ⟨j, out, rfl, rfl, hj, hd, hb⟩ := hrel
    have hs : out.size ≤ 4000000 := by
      have : (dec j ++ out.data.toList).length = (dec k).length := by rw [hd]
      simp at this
      omega
    by_cases hlt : 0 < j
    · have hlt' : (0 : Int) < (j : Int) := by omega
      obtain ⟨x, hx, hdj⟩ := dec_digit hlt
      have hcv : (convert 58 9 (.slice (some ⟨wr.heap.size, 0, none⟩) 1 1)).run Tryd.prog (wr.alloc (.cells #[.int .u8 (48 + (j : Int) % 10)] 5)) = .ok (.string ⟨[x].toArray⟩) (wr.alloc (.cells #[.int .u8 (48 + (j : Int) % 10)] 5)) := by
        refine own_bytes (base := 0) (n := 1) ?_
        have : Lib.byteCells [x] = [.int .u8 (48 + (j : Int) % 10)] := by simp [Lib.byteCells, hx]
        rw [this]
        exact own_block (l := [.int .u8 (48 + (j : Int) % 10)]) (Nat.zero_le _) (by simp [maxLen]) (heap_alloc_new wr _)
      obtain ⟨sx, hsx⟩ : ∃ sx : ByteArray, (⟨[x].toArray⟩ : ByteArray) = sx := ⟨_, rfl⟩
      have hsx1 : sx.size = 1 := by rw [← hsx]; rfl
      rw [hsx] at hcv
      go_wp2
      refine ⟨⟨j / 10, sx ++ out, by go_num, rfl, by omega, ?_, hb.alloc hb.size _⟩, by simp [intOf]; omega⟩
      rw [← hd, hdj, ← hsx]
      simp
    · obtain rfl : j = 0 := by omega
      simp only [show ((0 : Nat) : Int) = 0 from rfl]
      go_wp2
      go_ret
      rw [dec_zero, List.nil_append] at hd
      refine ⟨retS ?_, hb⟩
      unfold markS
      rw [← hd]
      apply ByteArray.ext
      simp

theorem gr_set {w w' : World} {g i : Nat} (h : w.grownBy w' (some g)) (v : Value) : w.grownBy (w'.setCell ⟨g, i, none⟩ v) (some g) :=
  ⟨h.os, h.tape, h.output, by simpa [World.setCell] using h.size, fun k hk hne => (Below.heap_setCell w' _ v k (fun e => hne (by rw [e]))).trans (h.block k hk hne)⟩
theorem gr_below {w w' w2 : World} {row : Option Nat} (h : w.grownBy w' row) (hb : Below w'.heap.size w' w2) : w.grownBy w2 row :=
  ⟨hb.os.trans h.os, hb.tape.trans h.tape, hb.output.trans h.output, Nat.le_trans h.size hb.size, fun k hk hne => (hb.block k (by have := h.size; omega)).trans (h.block k hk hne)⟩
/-- The marks of n files, from k on. -/
def markL (n k : Nat) : List Fil := (List.range n).map fun i => ⟨markS (k + 3 * i), markS (k + 3 * i + 1), ((k + 3 * i + 2 : Nat) : Int)⟩
theorem markL_len (n k : Nat) : (markL n k).length = n := by simp [markL]
theorem markL_get {n k i : Nat} (h : i < n) : (markL n k)[i]'(by rw [markL_len]; exact h) = ⟨markS (k + 3 * i), markS (k + 3 * i + 1), ((k + 3 * i + 2 : Nat) : Int)⟩ := by simp [markL]
theorem markS_size (k : Nat) : (markS k).size ≤ k + 1 := by
  have := dec_len k
  unfold markS
  show (109 :: dec k).toArray.size ≤ _
  simp
  exact this
theorem markL_fits {n k : Nat} (h : k + 3 * n ≤ 4000000) : ∀ f ∈ markL n k, f.fits := by
  intro f hf
  obtain ⟨i, hi, rfl⟩ := List.mem_map.1 hf
  have hi' : i < n := by simpa using hi
  have s0 := markS_size (k + 3 * i)
  have s1 := markS_size (k + 3 * i + 1)
  refine ⟨?_, ?_, ?_, ?_⟩
  · show (markS (k + 3 * i)).size ≤ maxLen
    unfold maxLen; omega
  · show (markS (k + 3 * i + 1)).size ≤ maxLen
    unfold maxLen; omega
  · show (-9223372036854775808 : Int) ≤ ((k + 3 * i + 2 : Nat) : Int)
    omega
  · show ((k + 3 * i + 2 : Nat) : Int) ≤ 9223372036854775807
    omega
/-- Marked up to j. -/
theorem part_set {α : Type} {M L : List α} {j : Nat} (hM : M.length = L.length) (h : j < L.length) : (M.take j ++ L.drop j).set j (M[j]'(by omega)) = M.take (j + 1) ++ L.drop (j + 1) := by
  rw [List.set_append_right _ _ (by simp; omega), List.length_take, show j - min j M.length = 0 by omega, List.drop_eq_getElem_cons h, List.set_cons_zero, List.take_succ_eq_append_getElem (by omega), List.append_assoc]
  rfl

set_option maxHeartbeats 2000000 in
theorem markFileS_some (g n c base k : Nat) (L : List Fil) (w : World) (hR : w.ownsRow base 56 3 (.slice (some ⟨g, 0, none⟩) n c) n (flat L)) (h0 : 1 ≤ k) (h1 : k + 3 * n ≤ 4000000) :
    Calls Tryd.prog 42 #[.slice (some ⟨g, 0, none⟩) n c, .int .i64 k] w fun e w' => e = .returned (.int .i64 ((k + 3 * n : Nat) : Int)) ∧
      w'.ownsRow base 56 3 (.slice (some ⟨g, 0, none⟩) n c) n (flat (markL n k)) ∧ w.grownBy w' (some g) := by
  have hl := hR.1
  rw [flat_len] at hl
  have hl' : L.length = n := by omega
  clear hl
  go_enter Tryd.func42, Tryd.ntmps42
  go_wp2
  go_loopw [1, 5] (fun q i wr => ∃ j : Nat, j ≤ n ∧ i = .int .i64 j ∧ q = .int .i64 ((k + 3 * j : Nat) : Int) ∧ wr.ownsRow base 56 3 (.slice (some ⟨g, 0, none⟩) n c) n (flat ((markL n k).take j ++ L.drop j)) ∧ w.grownBy wr (some g)) (fun _ i _ => n - (intOf i).toNat)
  case atStart => exact ⟨0, by omega, rfl, rfl, by simpa using hR, World.grownBy.refl _ _⟩
  case round =>
    obtain ⟨j, hj, rfl, rfl, hr, hg⟩ := hrel
    by_cases hlt : j < n
    · have hlt' : (j : Int) < (n : Int) := by omega
      go_wp2_with (fail)
      refine (markText_any (k + 3 * j) _ (by omega) (by omega)).mono ?_
      rintro e w1 ⟨rfl, hb1⟩
      have r1 := row_below hr hb1 (Nat.le_refl _)
      have g1 := gr_below hg hb1
      obtain ⟨u1, c1⟩ := row_cell r1 (j := j * 3) (by omega)
      have f1 := r1.frozenAt (j * 3)
      have s1 := (r1.stored (j * 3) (.string (markS (k + 3 * j)))).1
      have t1 := gr_set g1 (i := j * 3) (.string (markS (k + 3 * j)))
      go_wp2_with (fail)
      generalize w1.setCell ⟨g, j * 3, none⟩ (.string (markS (k + 3 * j))) = v1 at s1 t1 ⊢
      clear c1 f1 r1 g1
      refine (markText_any (k + 3 * j + 1) _ (by omega) (by omega)).mono ?_
      rintro e w2 ⟨rfl, hb2⟩
      have r2 := row_below s1 hb2 (Nat.le_refl _)
      have g2 := gr_below t1 hb2
      obtain ⟨u2, c2⟩ := row_cell r2 (j := j * 3 + 1) (by omega)
      have f2 := r2.frozenAt (j * 3 + 1)
      have s2 := (r2.stored (j * 3 + 1) (.string (markS (k + 3 * j + 1)))).1
      have t2 := gr_set g2 (i := j * 3 + 1) (.string (markS (k + 3 * j + 1)))
      obtain ⟨u3, c3⟩ := row_cell r2 (j := j * 3 + 2) (by omega)
      have f3 := r2.frozenAt (j * 3 + 2)
      have s3 := (s2.stored (j * 3 + 2) (.int .i64 ((k + 3 * j + 2 : Nat) : Int))).1
      have t3 := gr_set t2 (i := j * 3 + 2) (.int .i64 ((k + 3 * j + 2 : Nat) : Int))
      have e3 := flat_set ⟨markS (k + 3 * j), markS (k + 3 * j + 1), ((k + 3 * j + 2 : Nat) : Int)⟩ ((markL n k).take j ++ L.drop j) j
      simp only at e3
      rw [e3, ← markL_get hlt, part_set (by rw [markL_len]; omega) (by omega)] at s3
      have hv : ((k + 3 * j + 2 : Nat) : Int) = (k : Int) + 3 * (j : Int) + 1 + 1 := by omega
      rw [hv] at s3 t3
      go_wp2
      exact ⟨⟨j + 1, by omega, by go_num, by go_num, s3, t3⟩, by simp [intOf]; omega⟩
    · obtain rfl : j = n := by omega
      go_wp2
      go_ret
      rw [List.take_of_length_le (by rw [markL_len]; exact Nat.le_refl _), List.drop_of_length_le (by omega), List.append_nil] at hr
      exact ⟨rfl, hr, hg⟩
end Go.Proofs.YtebkblmejkkhfaaDoor

namespace Go.Proofs.YtebkblmejkkhfaaDoor
open Go.RowKit
set_option linter.unusedVariables false

/-- The strings of a slice, below block B. -/
def Strs (w : World) (B : Nat) (A : Option Addr) (L : List ByteArray) : Prop :=
  L.length ≤ maxLen ∧ ∀ i (h : i < L.length), ∃ a, A = some a ∧ a.block < B ∧ w.cell? (a.add i) = some (.string L[i])
theorem Strs.below {w w' : World} {B C : Nat} {A : Option Addr} {L : List ByteArray} (h : Strs w B A L) (hb : Below C w w') (hC : B ≤ C) : Strs w' B A L :=
  ⟨h.1, fun i hi => by
    obtain ⟨a, e, h1, h2⟩ := h.2 i hi
    exact ⟨a, e, h1, by rw [World.cell?_of_block (a := a.add _) (hb.block _ (by rw [add_blk]; omega))]; exact h2⟩⟩
theorem Strs.mono {w : World} {B B' : Nat} {A : Option Addr} {L : List ByteArray} (h : Strs w B A L) (hb : B ≤ B') : Strs w B' A L :=
  ⟨h.1, fun i hi => by
    obtain ⟨a, e, h1, h2⟩ := h.2 i hi
    exact ⟨a, e, by omega, h2⟩⟩
/-- A row of strings of the call's own. -/
def OwnS (w : World) (base : Nat) (v : Value) (L : List ByteArray) : Prop := w.ownsRow base 9 1 v L.length (L.map Value.string)
theorem OwnS.strs {w : World} {base c n : Nat} {A : Option Addr} {L : List ByteArray} (h : OwnS w base (.slice A n c) L) : n = L.length ∧ Strs w w.heap.size A L := by
  rcases h.2 with ⟨hv, hz⟩ | ⟨g, cap, cur, hv, hb, hg, hl, hm, hs, ht⟩
  · have : L = [] := List.eq_nil_of_length_eq_zero hz
    subst this
    cases hv
    exact ⟨rfl, by simp [maxLen], fun i h => absurd h (by simp)⟩
  · cases hv
    refine ⟨rfl, by omega, fun i hi => ?_⟩
    have hc := World.ownsRow.cells h (g := g) rfl i (.string L[i]) (by simp [hi])
    exact ⟨⟨g, 0, none⟩, rfl, (Array.getElem?_eq_some_iff.1 hg).1, hc⟩

/-- The marks of n strings, from k on. -/
def markN (n k : Nat) : List ByteArray := (List.range n).map fun i => markS (k + i)
theorem markN_len (n k : Nat) : (markN n k).length = n := by simp [markN]
theorem markN_get {n k i : Nat} (h : i < n) : (markN n k)[i]'(by rw [markN_len]; exact h) = markS (k + i) := by simp [markN]

theorem infoStr : (Tryd.prog.info? 9).map (fun i => (i.zero, i.size, i.bytes)) = some (some (.string ⟨#[]⟩), 1, 16) := by kernel_rfl
theorem below_apps {B base : Nat} {w wr w1 : World} {e : TypeId} {size n : Nat} {v : Value} {xs : List Value} {o : Obj} (hb : Below B w wr) (hB : B ≤ w.heap.size) (hown : wr.ownsRow base e size v n xs) (hBb : B ≤ base) (hg : (wr.alloc o).grownBy w1 v.ownBlock) : Below B w w1 :=
  (hb.alloc (Nat.le_trans hB hb.size) o).grown hg (by have := hb.size; simp; omega) (fun k e => Nat.le_trans hBb (hown.lt k e).1)
theorem one_str (s : ByteArray) : ∀ u ∈ [Value.string s], u.oneCell' = true := by intro u hu; simp at hu; subst hu; rfl
theorem ownS_snoc {w : World} {base : Nat} {v : Value} {L : List ByteArray} {x : ByteArray} (h : w.ownsRow base 9 1 v (L.length + 1) (L.map Value.string ++ [.string x])) : OwnS w base v (L ++ [x]) := by
  unfold OwnS
  simpa using h
theorem ownS_base {w : World} {base base' : Nat} {v : Value} {L : List ByteArray} (h : OwnS w base v L) (hb : base' ≤ base) : OwnS w base' v L := by
  obtain ⟨h0, h1⟩ := h
  refine ⟨h0, ?_⟩
  rcases h1 with h1 | ⟨g, cap, cur, r1, r2, r3⟩
  · exact .inl h1
  · exact .inr ⟨g, cap, cur, r1, by omega, r3⟩
theorem ownS_some {w : World} {base : Nat} {v : Value} {L : List ByteArray} (h : OwnS w base v L) : ∃ A c, v = .slice A L.length c := by
  rcases h.2 with ⟨rfl, hz⟩ | ⟨g, cap, cur, rfl, _⟩
  · exact ⟨none, 0, by rw [hz]⟩
  · exact ⟨_, _, rfl⟩

end Go.Proofs.YtebkblmejkkhfaaDoor
