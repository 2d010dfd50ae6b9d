/- What is read fits; rows of the call's own are read. ChangeRight: spec and impl answer alike. The changes of a new view, the fields of a message: spec.l10Changes, impl.numberedRight, impl.viewRight. SayRight: spec and impl answer alike. -/
import Derived.Test.YtjnbhppnchmeoaaDoorSyRCW
import Derived.Test.YtjnbhppnchmeoaaDoorSyRPW
import Derived.Test.YtjnbhppnchmeoaaDoorRdW
import Derived.BigRegion
import Derived.WalkMore
import Derived.Test.YtjnbhppnchmeoaaDoorCmMathW
namespace Go.Proofs.YtjnbhppnchmeoaaDoor
open Go.RowKit
set_option linter.unusedVariables false
set_option maxRecDepth 1000000

theorem rd_u64 {s : ByteArray} {p u' m : Nat} : ∀ (n k u : Nat), n + k = 10 → u < 2 ^ (7 * k) → rd s p n k u = .ok (u', m) → u' < 18446744073709551616
  | 0, _, _, _, _, h => by simp [rd] at h
  | n + 1, k, u, hnk, hu, h => by
    rw [rd] at h
    split at h
    · rename_i hlt
      split at h
      · cases h
      · rename_i h9
        split at h
        · rename_i hb
          split at h
          · cases h
          · cases h
            exact step_u64 (by omega) hu hb h9
        · refine rd_u64 n (k + 1) _ (by omega) ?_ h
          have hp := pow7 k
          rw [hp]
          have : s[p + k].toNat % 128 * 2 ^ (7 * k) ≤ 127 * 2 ^ (7 * k) := Nat.mul_le_mul_right _ (by omega)
          omega
    · cases h
theorem unzig_in {u : Nat} (h : u < 18446744073709551616) : -9223372036854775808 ≤ unzig u ∧ unzig u ≤ 9223372036854775807 := by
  unfold unzig
  split <;> omega
theorem rN_in (s : ByteArray) (o : Option Nat) : -9223372036854775808 ≤ (rN s o).1 ∧ (rN s o).1 ≤ 9223372036854775807 := by
  cases o with
  | none => exact ⟨by show (-9223372036854775808 : Int) ≤ 0; decide, by show (0 : Int) ≤ 9223372036854775807; decide⟩
  | some p =>
    cases hr : rd s p 10 0 0 with
    | error c => simp only [rN, hr]; decide
    | ok x =>
      obtain ⟨u, m⟩ := x
      simp only [rN, hr]
      exact unzig_in (rd_u64 10 0 0 rfl (by decide) hr)
theorem rT_in (s : ByteArray) (o : Option Nat) : (rT s o).1.size ≤ s.size := by
  cases o with
  | none => exact Nat.zero_le _
  | some p =>
    cases hr : gt s p with
    | error c => simp only [rT, hr]; exact Nat.zero_le _
    | ok x => obtain ⟨t, q⟩ := x; simp only [rT, hr]; exact (gt_ok hr).1
theorem rL_all {α : Type} {f : Option Nat → α × Option Nat} {Q : α → Prop} (hf : ∀ o, Q (f o).1) : ∀ (k : Nat) (o : Option Nat), ∀ x ∈ (rL f k o).1, Q x
  | 0, _, x, h => absurd h (by simp [rL])
  | k + 1, o, x, h => by
    rcases List.mem_cons.1 (show x ∈ (f o).1 :: (rL f k (f o).2).1 from h) with e | e
    · subst e; exact hf o
    · exact rL_all hf k _ x e
/-- The numbers of a proof are int64. -/
def Prf.nums (p : Prf) : Prop := ∀ x ∈ p.who, -9223372036854775808 ≤ x ∧ x ≤ 9223372036854775807
theorem rPrf_in {s : ByteArray} (hs : s.size ≤ 20000) (o : Option Nat) : (rPrf s o).1.fits ∧ (rPrf s o).1.nums :=
  ⟨⟨rN_in _ _, rN_in _ _, Nat.le_trans (rT_in _ _) (by unfold maxLen; omega)⟩, rL_all (rN_in s) _ _⟩
theorem rCng_in {s : ByteArray} (hs : s.size ≤ 20000) (o : Option Nat) : (rCng s o).1.fits ∧ ∀ p ∈ (rCng s o).1.proofs, p.nums :=
  ⟨⟨rN_in _ _, rN_in _ _, rL_all (Q := Prf.fits) (fun o => (rPrf_in hs o).1) _ _⟩, rL_all (Q := Prf.nums) (fun o => (rPrf_in hs o).2) _ _⟩
theorem rSy_in {s : ByteArray} (hs : s.size ≤ 20000) : (rSy s).1.fits ∧ ∀ c ∈ (rSy s).1.changes, ∀ p ∈ c.proofs, p.nums :=
  ⟨⟨rN_in _ _, rN_in _ _, rN_in _ _, rN_in _ _, Nat.le_trans (rT_in _ _) (by unfold maxLen; omega), rL_all (Q := Cng.fits) (fun o => (rCng_in hs o).1) _ _⟩, rL_all (Q := fun c : Cng => ∀ p ∈ c.proofs, Prf.nums p) (fun o => (rCng_in hs o).2) _ _⟩
theorem PrfsO.read {w : World} {base : Nat} {M : List PrfA} (h : PrfsO w base M) (hn : ∀ m ∈ M, m.t.nums) : PrfAs w base w.heap.size M := fun i hi =>
  (Rw.of (h.1 i hi)).ints (hn _ (List.getElem_mem hi))
theorem CngsO.read {w : World} {base n c : Nat} {A : Option Addr} {L : List CM} (hr : w.ownsRow base 66 3 (.slice A n c) n (cflat (L.map CM.m))) (hl : L.length = n) (h : CngsO w base L) (hn : ∀ c ∈ L, ∀ p ∈ c.M, p.t.nums) : Chs w base w.heap.size A ((L.map CM.m).map (·.t)) := by
  refine CngAs.rd (lo := base) (B := w.heap.size) hr (by simpa using hl) (fun i hi => ?_) (Nat.le_refl _) (Nat.le_refl _)
  have hi' : i < L.length := by simpa using hi
  simp only [List.getElem_map]
  have hlen : L[i].M.length = L[i].m.t.proofs.length := by rw [← h.all i hi', List.length_map]
  have hs : PrfAs w base w.heap.size L[i].M := by
    intro j hj
    have hm : L[i].M[j] ∈ inn L := List.mem_flatMap.2 ⟨L[i], List.getElem_mem hi', List.getElem_mem hj⟩
    obtain ⟨q, hq, he⟩ := List.getElem_of_mem hm
    have := (h.own.1 q hq)
    rw [he] at this
    exact (Rw.of this).ints (hn _ (List.getElem_mem hi') _ (List.getElem_mem hj))
  have := PrfAs.rd (h.row i hi') hlen hs (Nat.le_refl _) (Nat.le_refl _)
  rw [h.all i hi'] at this
  exact this
end Go.Proofs.YtjnbhppnchmeoaaDoor

namespace Go.Proofs.YtjnbhppnchmeoaaDoor
open Go.RowKit
set_option linter.unusedVariables false
set_option maxRecDepth 1000000

theorem who_any {n : Int} {r : Bool} (h : decide (0 ≤ n ∧ n ≤ 3) = r) (w : World) : Calls Tryd.prog 100 #[.int .i64 n] w fun e w' => e = .returned (.bool r) ∧ w = w' := by
  go_enter Tryd.func100, Tryd.ntmps100
  go_wp2_with (go_at_call 36; refine (is_any h _).mono ?_; rintro e w1 ⟨rfl, rfl⟩)
  go_ret
  exact ⟨rfl, rfl⟩
set_option maxHeartbeats 8000000 in
theorem specChangeRight_any (t : Cng) (A : Option Addr) (c : Nat) (w : World) {lo : Nat} (hf : t.fits) (hA : Prs w lo w.heap.size A t.proofs) :
    Calls Tryd.prog 105 #[cngV t (.slice A t.proofs.length c)] w fun e w' => e = .returned (.bool (cngB t)) ∧ Below w.heap.size w w' := by
  obtain ⟨frm, view, L⟩ := t
  obtain ⟨f0, f1, f2⟩ := hf
  simp only at f0 f1 f2 hA ⊢
  have hn := hA.1
  unfold maxLen at hn
  have HR : Hid (cngB ⟨frm, view, L⟩ = ((decide (0 ≤ frm ∧ frm ≤ 3) && decide (1 ≤ view ∧ view ≤ 7)) && pr view 0 L)) := Lib.hid rfl
  generalize cngB ⟨frm, view, L⟩ = Z at HR ⊢
  have hb0 := below_bx w (.cells #[.int .i64 frm, .int .i64 view, .slice A L.length c] 66)
  have hK := Blk.fresh w 66 [.int .i64 frm, .int .i64 view, .slice A L.length c]
  simp only [List.toArray] at hK
  rcases Bool.eq_false_or_eq_true (decide (0 ≤ frm ∧ frm ≤ 3)) with h1 | h1
  rotate_left
  · have I1 := Lib.hid (fun W => who_any h1 W)
    rw [h1] at HR
    obtain rfl : Z = false := by rw [HR.out]; rfl
    clear HR
    go_enter Tryd.func105, Tryd.ntmps105
    go_wp2_with (go_at_call 100; (with_reducible refine (I1.out _).mono ?_); rintro e w1 ⟨rfl, rfl⟩)
    go_ret
    exact ⟨rfl, hb0⟩
  have I1 := Lib.hid (fun W => who_any h1 W)
  rcases Bool.eq_false_or_eq_true (decide (1 ≤ view ∧ view ≤ 7)) with h2 | h2
  rotate_left
  · have I2 := Lib.hid (fun W => is_any h2 W)
    rw [h1, h2] at HR
    obtain rfl : Z = false := by rw [HR.out]; rfl
    clear HR
    go_enter Tryd.func105, Tryd.ntmps105
    go_wp2_with (first | (go_at_call 100; (with_reducible refine (I1.out _).mono ?_); rintro e w1 ⟨rfl, rfl⟩) | (go_at_call 36; (with_reducible refine (I2.out _).mono ?_); rintro e w1 ⟨rfl, rfl⟩))
    go_ret
    exact ⟨rfl, hb0⟩
  have I2 := Lib.hid (fun W => is_any h2 W)
  rw [h1, h2] at HR
  have HV : Hid (pr view 0 L = Z) := Lib.hid (by rw [HR.out]; rfl)
  clear HR
  go_enter Tryd.func105, Tryd.ntmps105
  go_wp2_with (first | (go_at_call 100; (with_reducible refine (I1.out _).mono ?_); rintro e w1 ⟨rfl, rfl⟩) | (go_at_call 36; (with_reducible refine (I2.out _).mono ?_); rintro e w1 ⟨rfl, rfl⟩))
  generalize w.alloc (.cells #[.int .i64 frm, .int .i64 view, .slice A L.length c] 66) = w1 at hK hb0 ⊢
  go_loopw [3] (fun i wr => ∃ (k : Nat) (last : Int), k ≤ L.length ∧ i = .int .i64 k ∧ Hid (k = 0 → last = 0) ∧ Hid (∀ h : k - 1 < L.length, 0 < k → L[k - 1].seq = last) ∧ Hid (pr view last (L.drop k) = Z) ∧ Blk wr w.heap.size 66 [.int .i64 frm, .int .i64 view, .slice A L.length c] ∧ Below w.heap.size w wr) (fun i _ => L.length - (intOf i).toNat)
  case atStart => exact ⟨0, 0, by omega, rfl, Lib.hid fun _ => rfl, Lib.hid fun _ h => absurd h (Nat.lt_irrefl 0), HV, hK, hb0⟩
  case round =>
    clear HV hK hb0
    obtain ⟨k, last, hk, rfl, HA0, HA1, HQ, hK2, hw2⟩ := hrel
    have b2 := hK2.cell (i := 2) rfl
    by_cases hlt : k < L.length
    rotate_left
    · obtain rfl : k = L.length := by omega
      obtain rfl : Z = true := by rw [← HQ.out, pr_end (Nat.le_refl _)]
      go_wp2
      go_ret
      exact ⟨rfl, hw2⟩
    obtain ⟨a, rfl, hab, C, c1, a0, a1, a2, a3, hC⟩ := (hA.on hw2).at k hlt
    have hlt' : (k : Int) < (L.length : Int) := by omega
    have hG := Blk.fresh wr 90 [.int .i64 L[k].view, .int .i64 L[k].seq, .string L[k].op, .slice C L[k].who.length c1]
    have hbx := below_bx wr (.cells #[.int .i64 L[k].view, .int .i64 L[k].seq, .string L[k].op, .slice C L[k].who.length c1] 90)
    have hw4 := hw2.alloc hw2.size (.cells #[.int .i64 L[k].view, .int .i64 L[k].seq, .string L[k].op, .slice C L[k].who.length c1] 90)
    have hK3 := hK2.alloc (.cells #[.int .i64 L[k].view, .int .i64 L[k].seq, .string L[k].op, .slice C L[k].who.length c1] 90)
    have hp : ∀ q, (h : q + 1 = k) → (wr.alloc (.cells #[.int .i64 L[k].view, .int .i64 L[k].seq, .string L[k].op, .slice C L[k].who.length c1] 90)).cell? ⟨(a.add (q * 4)).block, (a.add (q * 4)).off + 1, none⟩ = some (.int .i64 (L[q]'(by omega)).seq) := by
      intro q h
      obtain ⟨a', e, _, _, _, _, h2, _⟩ := (hA.on hw4).at q (by omega)
      cases e
      exact h2
    have hC2 := hC.on hbx
    simp only [List.toArray] at hG
    go_wp2
    generalize wr.alloc (.cells #[.int .i64 L[k].view, .int .i64 L[k].seq, .string L[k].op, .slice C L[k].who.length c1] 90) = w3 at hG hw4 hp hC2 hK3 ⊢
    clear a0 a1 a2 a3 hbx b2 hK2 hw2
    obtain ⟨I, f, hI', g0, gk, gc, ge⟩ := class_grown w3
    have x0 := fun s => kept_cell (gk s) (hG.cell (i := 0) rfl)
    have x1 := fun s => kept_cell (gk s) (hG.cell (i := 1) rfl)
    have x2 := fun s => kept_cell (gk s) (hG.cell (i := 2) rfl)
    have x3 := fun s => kept_cell (gk s) (hG.cell (i := 3) rfl)
    have y1 := fun s => kept_cell (gk s) (hK3.cell (i := 1) rfl)
    have y2 := fun s => kept_cell (gk s) (hK3.cell (i := 2) rfl)
    have TR := Lib.hid (fun s => specProofRight_any L[k] C c1 (f s) (f2 _ (List.getElem_mem hlt)) (hC2.on (gk s)))
    have HW : Hid (∀ W, Below w3.heap.size w3 W → Blk W w.heap.size 66 [.int .i64 frm, .int .i64 view, .slice (some a) L.length c] ∧ Below w.heap.size w W) := Lib.hid fun W h => ⟨hK3.below h hK3.lt, hw4.trans (h.mono hw4.size)⟩
    have HB := Lib.hid (pr_bad (v := view) (last := last) hlt)
    have HX := Lib.hid (pr_next (v := view) (last := last) hlt)
    have HS := Lib.hid (fun h : prfB L[k] = true => prfB_seq h)
    clear hG hw4 hK3 hC2
    rcases Bool.eq_false_or_eq_true (prfB L[k]) with hN | hN
    rotate_left
    · rw [hN] at TR
      obtain rfl : Z = false := by rw [← HQ.out, HB.out (fun h => by rw [hN] at h; exact absurd h.1 (by decide))]
      refine wp_region_kept f (by kernel_rfl) (by kernel_rfl) g0 ?_
      repeat (first
        | go_big_quiet_skip
        | (go_big_quiet_want; go_big_quiet_op; first
            | go_big_quiet_on
            | (apply Exists.intro; refine ⟨fun s => ?_, ?_⟩; (go_at_call 121; (with_reducible refine (TR.out _).mono ?_); rintro e w4 ⟨rfl, hb4⟩; exact ⟨rfl, gc _ _ hb4⟩); go_big_quiet_on)))
      refine wpQuiet_nil ?_
      intro w5 h5
      have hb5 := ge _ h5
      go_wp2
      go_ret
      exact ⟨rfl, (HW.out _ hb5).2⟩
    rw [hN] at TR
    have hs := HS.out hN
    by_cases hv : L[k].view < view
    rotate_left
    · obtain rfl : Z = false := by rw [← HQ.out, HB.out (fun h => hv h.2.1)]
      have hd2 : decide (view ≤ L[k].view) = true := by simp; omega
      clear hs hp
      refine wp_region_kept f (by kernel_rfl) (by kernel_rfl) g0 ?_
      repeat (first
        | go_big_quiet_skip
        | (go_big_quiet_want; go_big_quiet_op; first
            | go_big_quiet_on
            | (apply Exists.intro; refine ⟨fun s => ?_, ?_⟩; (go_at_call 121; (with_reducible refine (TR.out _).mono ?_); rintro e w4 ⟨rfl, hb4⟩; exact ⟨rfl, gc _ _ hb4⟩); go_big_quiet_on)))
      refine wpQuiet_nil ?_
      intro w5 h5
      have hb5 := ge _ h5
      go_wp2
      go_ret
      exact ⟨rfl, (HW.out _ hb5).2⟩
    have hd2 : decide (view ≤ L[k].view) = false := by simp; omega
    by_cases hk0 : 0 < k
    rotate_left
    · have hd : decide ((0 : Int) < (k : Int)) = false := by simp; omega
      have hl0 := HA0.out (by omega)
      have HN : Hid (pr view L[k].seq (L.drop (k + 1)) = Z) := Lib.hid (by rw [← HX.out ⟨hN, hv, by omega⟩, HQ.out])
      clear hs hp hl0
      refine wp_region_kept f (by kernel_rfl) (by kernel_rfl) g0 ?_
      repeat (first
        | go_big_quiet_skip
        | (go_big_quiet_want; go_big_quiet_op; first
            | go_big_quiet_on
            | (apply Exists.intro; refine ⟨fun s => ?_, ?_⟩; (go_at_call 121; (with_reducible refine (TR.out _).mono ?_); rintro e w4 ⟨rfl, hb4⟩; exact ⟨rfl, gc _ _ hb4⟩); go_big_quiet_on)))
      refine wpQuiet_nil ?_
      intro w5 h5
      have hb5 := ge _ h5
      go_wp2
      exact ⟨⟨k + 1, L[k].seq, by omega, by go_num, Lib.hid (fun h => absurd h (by omega)), Lib.hid (fun h _ => by simp), HN, (HW.out _ hb5).1, (HW.out _ hb5).2⟩, by simp [intOf]; omega⟩
    obtain ⟨q, hq⟩ : ∃ q, q + 1 = k := ⟨k - 1, by omega⟩
    have p0 := fun s => kept_cell (gk s) (hp q hq)
    have hd : decide ((0 : Int) < (k : Int)) = true := by simp; omega
    have e1 : IntKind.i64.wrap ((k : Int) - 1) = (q : Int) := by rw [IntWalk.i64_in _ (by omega)]; omega
    have e2 : (q : Int) < (L.length : Int) := by omega
    have e3 : (0 : Int) ≤ (q : Int) := by omega
    have hlast : L[q].seq = last := by
      have := HA1.out (by omega) hk0
      obtain rfl : q = k - 1 := by omega
      exact this
    simp only [hlast] at p0
    by_cases hl : last < L[k].seq
    rotate_left
    · obtain rfl : Z = false := by rw [← HQ.out, HB.out (fun h => hl h.2.2)]
      have hd3 : decide (L[k].seq ≤ last) = true := by simp; omega
      clear hs hp hlast hq
      refine wp_region_kept f (by kernel_rfl) (by kernel_rfl) g0 ?_
      repeat (first
        | go_big_quiet_skip
        | (go_big_quiet_want; go_big_quiet_op; first
            | go_big_quiet_on
            | (apply Exists.intro; refine ⟨fun s => ?_, ?_⟩; (go_at_call 121; (with_reducible refine (TR.out _).mono ?_); rintro e w4 ⟨rfl, hb4⟩; exact ⟨rfl, gc _ _ hb4⟩); go_big_quiet_on)))
      refine wpQuiet_nil ?_
      intro w5 h5
      have hb5 := ge _ h5
      go_wp2
      go_ret
      exact ⟨rfl, (HW.out _ hb5).2⟩
    have hd3 : decide (L[k].seq ≤ last) = false := by simp; omega
    have HN : Hid (pr view L[k].seq (L.drop (k + 1)) = Z) := Lib.hid (by rw [← HX.out ⟨hN, hv, hl⟩, HQ.out])
    clear hs hp hlast hq
    refine wp_region_kept f (by kernel_rfl) (by kernel_rfl) g0 ?_
    repeat (first
      | go_big_quiet_skip
      | (go_big_quiet_want; go_big_quiet_op; first
          | go_big_quiet_on
          | (apply Exists.intro; refine ⟨fun s => ?_, ?_⟩; (go_at_call 121; (with_reducible refine (TR.out _).mono ?_); rintro e w4 ⟨rfl, hb4⟩; exact ⟨rfl, gc _ _ hb4⟩); go_big_quiet_on)))
    refine wpQuiet_nil ?_
    intro w5 h5
    have hb5 := ge _ h5
    go_wp2
    exact ⟨⟨k + 1, L[k].seq, by omega, by go_num, Lib.hid (fun h => absurd h (by omega)), Lib.hid (fun h _ => by simp), HN, (HW.out _ hb5).1, (HW.out _ hb5).2⟩, by simp [intOf]; omega⟩

theorem implBallot_any (t : Cng) (x : Value) (w : World) : Calls Tryd.prog 81 #[cngV t x] w fun e w' => e = .returned (.bool (balB t)) ∧ Below w.heap.size w w' := by
  obtain ⟨frm, view, L⟩ := t
  have HR : Hid (balB ⟨frm, view, L⟩ = (decide (0 ≤ frm ∧ frm ≤ 3) && decide (1 ≤ view ∧ view ≤ 7))) := Lib.hid rfl
  generalize balB ⟨frm, view, L⟩ = Z at HR ⊢
  rcases Bool.eq_false_or_eq_true (decide (0 ≤ frm ∧ frm ≤ 3)) with h1 | h1
  rotate_left
  · have I1 := Lib.hid (fun W => replQ_any h1 W)
    rw [h1] at HR
    obtain rfl : Z = false := by rw [HR.out]; rfl
    clear HR
    go_enter Tryd.func81, Tryd.ntmps81
    go_wp2_with (go_at_call 55; (with_reducible refine (I1.out _).mono ?_); rintro e w1 ⟨rfl, rfl⟩)
    go_ret
    exact ⟨rfl, below_bx _ _⟩
  have I1 := Lib.hid (fun W => replQ_any h1 W)
  obtain ⟨r, Hr⟩ : ∃ r, Hid (decide (1 ≤ view ∧ view ≤ 7) = r) := ⟨_, Lib.hid rfl⟩
  have I2 := Lib.hid (fun W => inQ_any Hr.out W)
  rw [h1, Hr.out] at HR
  obtain rfl : Z = r := by rw [HR.out]; rfl
  clear HR
  go_enter Tryd.func81, Tryd.ntmps81
  go_wp2_with (first | (go_at_call 55; (with_reducible refine (I1.out _).mono ?_); rintro e w1 ⟨rfl, rfl⟩) | (go_at_call 41; (with_reducible refine (I2.out _).mono ?_); rintro e w1 ⟨rfl, rfl⟩))
  go_ret
  exact ⟨rfl, below_bx _ _⟩
set_option maxHeartbeats 8000000 in
theorem proofsRight_any (L : List Cng) (A : Option Addr) (c : Nat) (w : World) {lo : Nat} (hf : ∀ t ∈ L, t.fits) (hA : Chs w lo w.heap.size A L) :
    Calls Tryd.prog 82 #[.slice A L.length c] w fun e w' => e = .returned (.bool (allP L)) ∧ Below w.heap.size w w' := by
  have hn := hA.1
  unfold maxLen at hn
  obtain ⟨Z, HZ⟩ : ∃ Z, Hid (allP L = Z) := ⟨_, Lib.hid rfl⟩
  rw [HZ.out]
  go_enter Tryd.func82, Tryd.ntmps82
  go_wp2
  go_step3
  go_wp2
  go_step3
  go_wp2
  go_loopw [3, 11] (fun r i wr => ∃ (k : Nat), k ≤ L.length ∧ r = .bool true ∧ i = .int .i64 k ∧ Hid (allP (L.drop k) = Z) ∧ Below w.heap.size w wr) (fun _ i _ => L.length - (intOf i).toNat)
  case atStart => exact ⟨0, by omega, rfl, rfl, HZ, Below.refl _ _⟩
  case round =>
    clear HZ
    obtain ⟨k, hk, rfl, rfl, HQ, hb⟩ := hrel
    by_cases hlt : k < L.length
    rotate_left
    · obtain rfl : k = L.length := by omega
      obtain rfl : Z = true := by rw [← HQ.out, allP_end (Nat.le_refl _)]
      go_wp2
      first | (rw [Exit.noGoto_ret]; go_ret) | go_ret
      exact ⟨rfl, hb⟩
    obtain ⟨a, rfl, hab, C, c1, a0, a1, a2, hC⟩ := (hA.on hb).at k hlt
    have hfx := hf _ (List.getElem_mem hlt)
    have HAT := Lib.hid (allP_at hlt)
    have hlt' : (k : Int) < (L.length : Int) := by omega
    generalize L[k] = ck at a0 a1 a2 hC hfx HAT
    obtain ⟨frm, view, Q⟩ := ck
    obtain ⟨f0, f1, f2⟩ := hfx
    simp only at a0 a1 a2 hC f0 f1 f2
    obtain ⟨V, HV⟩ : ∃ V, Hid (pr view 0 Q = V) := ⟨_, Lib.hid rfl⟩
    have HZV : Hid (Z = (V && allP (L.drop (k + 1)))) := Lib.hid (by rw [← HQ.out, HAT.out, ← HV.out]; rfl)
    have hqn := hC.1
    unfold maxLen at hqn
    have hG := Blk.fresh wr 66 [.int .i64 frm, .int .i64 view, .slice C Q.length c1]
    have hbx := below_bx wr (.cells #[.int .i64 frm, .int .i64 view, .slice C Q.length c1] 66)
    have hw4 := hb.alloc hb.size (.cells #[.int .i64 frm, .int .i64 view, .slice C Q.length c1] 66)
    have hC2 := hC.on hbx
    simp only [List.toArray] at hG
    have u2 := hG.cell (i := 2) rfl
    clear HQ HAT
    go_wp2_with (fail)
    clear u2 a0 a1 a2 hbx hC hb
    generalize wr.alloc (.cells #[.int .i64 frm, .int .i64 view, .slice C Q.length c1] 66) = w3 at hG hw4 hC2 ⊢
    generalize wr.heap.size = g3 at hG ⊢
    go_loopw [3, 6, 18] (fun r l i wr => ∃ (j : Nat) (last : Int), j ≤ Q.length ∧ r = .bool true ∧ l = .int .i64 last ∧ i = .int .i64 j ∧ Hid (pr view last (Q.drop j) = V) ∧ Below w3.heap.size w3 wr) (fun _ _ i _ => Q.length - (intOf i).toNat)
    case atStart => exact ⟨0, 0, by omega, rfl, rfl, rfl, HV, Below.refl _ _⟩
    case round =>
      clear HV
      obtain ⟨j, last, hj, rfl, rfl, rfl, HQ, hq⟩ := hrel
      by_cases hjt : j < Q.length
      rotate_left
      · obtain rfl : j = Q.length := by omega
        obtain rfl : V = true := by rw [← HQ.out, pr_end (Nat.le_refl _)]
        have HN : Hid (allP (L.drop (k + 1)) = Z) := Lib.hid (by rw [HZV.out]; rfl)
        have hw5 := hw4.trans (hq.mono hw4.size)
        go_wp2
        exact ⟨⟨k + 1, by omega, rfl, by go_num, HN, hw5⟩, by simp [intOf]; omega⟩
      obtain ⟨b, rfl, hbb, D, d1, b0, b1, b2, b3, hD⟩ := (hC2.on hq).at j hjt
      have hjt' : (j : Int) < (Q.length : Int) := by omega
      have hP := Blk.fresh wr 90 [.int .i64 Q[j].view, .int .i64 Q[j].seq, .string Q[j].op, .slice D Q[j].who.length d1]
      have hby := below_bx wr (.cells #[.int .i64 Q[j].view, .int .i64 Q[j].seq, .string Q[j].op, .slice D Q[j].who.length d1] 90)
      have hq4 := hq.alloc hq.size (.cells #[.int .i64 Q[j].view, .int .i64 Q[j].seq, .string Q[j].op, .slice D Q[j].who.length d1] 90)
      have hG4 := hG.below hq4 hG.lt
      have hD2 := hD.on hby
      simp only [List.toArray] at hP
      have TR := Lib.hid (implProofRight_any Q[j] D d1 (wr.alloc (.cells #[.int .i64 Q[j].view, .int .i64 Q[j].seq, .string Q[j].op, .slice D Q[j].who.length d1] 90)) (f2 _ (List.getElem_mem hjt)) hD2)
      have z0 := hP.cell (i := 0) rfl
      have z1 := hP.cell (i := 1) rfl
      have u1 := hG4.cell (i := 1) rfl
      have HWI : Hid (∀ W, Below (wr.alloc (.cells #[.int .i64 Q[j].view, .int .i64 Q[j].seq, .string Q[j].op, .slice D Q[j].who.length d1] 90)).heap.size (wr.alloc (.cells #[.int .i64 Q[j].view, .int .i64 Q[j].seq, .string Q[j].op, .slice D Q[j].who.length d1] 90)) W → Below w3.heap.size w3 W) := Lib.hid fun W h => hq4.trans (h.mono hq4.size)
      have HWW : Hid (∀ W, Below (wr.alloc (.cells #[.int .i64 Q[j].view, .int .i64 Q[j].seq, .string Q[j].op, .slice D Q[j].who.length d1] 90)).heap.size (wr.alloc (.cells #[.int .i64 Q[j].view, .int .i64 Q[j].seq, .string Q[j].op, .slice D Q[j].who.length d1] 90)) W → Below w.heap.size w W) := Lib.hid fun W h => hw4.trans ((hq4.trans (h.mono hq4.size)).mono hw4.size)
      have HB := Lib.hid (pr_bad (v := view) (last := last) hjt)
      have HX := Lib.hid (pr_next (v := view) (last := last) hjt)
      have HZ0 : Hid (V = false → Z = false) := Lib.hid fun h => by rw [HZV.out, h]; rfl
      clear hP hby hq4 hG4 hD2 hD hq
      rcases Bool.eq_false_or_eq_true (prfB Q[j]) with hN | hN
      rotate_left
      · rw [hN] at TR
        have hV : V = false := by rw [← HQ.out, HB.out (fun h => by rw [hN] at h; exact absurd h.1 (by decide))]
        obtain rfl := HZ0.out hV
        clear hV HQ HZV HZ0
        go_wp2_with (go_at_call 108; (with_reducible refine TR.out.mono ?_); rintro e w5 ⟨rfl, hb5⟩; have x0 := kept_cell hb5 z0; have x1 := kept_cell hb5 z1; have y1 := kept_cell hb5 u1)
        first | (rw [Exit.noGoto_ret]; go_ret) | go_ret
        exact ⟨rfl, HWW.out _ hb5⟩
      rw [hN] at TR
      by_cases hv : Q[j].view < view
      rotate_left
      · have hV : V = false := by rw [← HQ.out, HB.out (fun h => hv h.2.1)]
        obtain rfl := HZ0.out hV
        have hd2 : decide (view ≤ Q[j].view) = true := by simp; omega
        clear hV HQ HZV HZ0
        go_wp2_with (go_at_call 108; (with_reducible refine TR.out.mono ?_); rintro e w5 ⟨rfl, hb5⟩; have x0 := kept_cell hb5 z0; have x1 := kept_cell hb5 z1; have y1 := kept_cell hb5 u1)
        first | (rw [Exit.noGoto_ret]; go_ret) | go_ret
        exact ⟨rfl, HWW.out _ hb5⟩
      have hd2 : decide (view ≤ Q[j].view) = false := by simp; omega
      by_cases hl : last < Q[j].seq
      rotate_left
      · have hV : V = false := by rw [← HQ.out, HB.out (fun h => hl h.2.2)]
        obtain rfl := HZ0.out hV
        have hd3 : decide (Q[j].seq ≤ last) = true := by simp; omega
        clear hV HQ HZV HZ0
        go_wp2_with (go_at_call 108; (with_reducible refine TR.out.mono ?_); rintro e w5 ⟨rfl, hb5⟩; have x0 := kept_cell hb5 z0; have x1 := kept_cell hb5 z1; have y1 := kept_cell hb5 u1)
        first | (rw [Exit.noGoto_ret]; go_ret) | go_ret
        exact ⟨rfl, HWW.out _ hb5⟩
      have hd3 : decide (Q[j].seq ≤ last) = false := by simp; omega
      have HN : Hid (pr view Q[j].seq (Q.drop (j + 1)) = V) := Lib.hid (by rw [← HX.out ⟨hN, hv, hl⟩, HQ.out])
      go_wp2_with (go_at_call 108; (with_reducible refine TR.out.mono ?_); rintro e w5 ⟨rfl, hb5⟩; have x0 := kept_cell hb5 z0; have x1 := kept_cell hb5 z1; have y1 := kept_cell hb5 u1)
      exact ⟨⟨j + 1, Q[j].seq, by omega, rfl, rfl, by go_num, HN, HWI.out _ hb5⟩, by simp [intOf]; omega⟩

/-- A slice of one change that a call has made. -/
theorem Blk.chs {w : World} {g lo : Nat} {t : TypeId} {frm view : Int} {A : Option Addr} {c : Nat} {L : List Prf} (h : Blk w g t [.int .i64 frm, .int .i64 view, .slice A L.length c]) (hL : Prs w lo w.heap.size A L) : Chs w 0 w.heap.size (some ⟨g, 0, none⟩) [⟨frm, view, L⟩] :=
  ⟨by simp [maxLen], fun i hi => by
    obtain rfl : i = 0 := by simpa using hi
    exact ⟨⟨g, 0, none⟩, rfl, Nat.zero_le _, h.lt, A, c, h.cell (i := 0) rfl, h.cell (i := 1) rfl, h.cell (i := 2) rfl, hL.mono (Nat.zero_le _) (Nat.le_refl _)⟩⟩
theorem allP_one (c : Cng) : allP [c] = chP c := by unfold allP allP; rw [Bool.and_true]
end Go.Proofs.YtjnbhppnchmeoaaDoor

namespace Go.Proofs.YtjnbhppnchmeoaaDoor
open Go.RowKit
set_option linter.unusedVariables false
set_option maxRecDepth 1000000

set_option maxHeartbeats 8000000 in
theorem specChanges_any (L : List Cng) (v : Int) (A : Option Addr) (c : Nat) (w : World) {lo : Nat} (hf : ∀ t ∈ L, t.fits) (hA : Chs w lo w.heap.size A L) :
    Calls Tryd.prog 106 #[.slice A L.length c, .int .i64 v] w fun e w' => e = .returned (.bool (cr v (-1) L && decide (3 ≤ L.length))) ∧ Below w.heap.size w w' := by
  have hn := hA.1
  unfold maxLen at hn
  obtain ⟨V, HV⟩ : ∃ V, Hid (cr v (-1) L = V) := ⟨_, Lib.hid rfl⟩
  obtain ⟨Z, HZ⟩ : ∃ Z, Hid (Z = (V && decide (3 ≤ L.length))) := ⟨_, Lib.hid rfl⟩
  rw [HV.out, ← HZ.out]
  go_enter Tryd.func106, Tryd.ntmps106
  go_wp2
  go_loopw [5] (fun i wr => ∃ (k : Nat) (last : Int), k ≤ L.length ∧ i = .int .i64 k ∧ Hid (k = 0 → last = -1) ∧ Hid (∀ h : k - 1 < L.length, 0 < k → L[k - 1].frm = last) ∧ Hid (cr v last (L.drop k) = V) ∧ Below w.heap.size w wr) (fun i _ => L.length - (intOf i).toNat)
  case atStart => exact ⟨0, -1, by omega, rfl, Lib.hid fun _ => rfl, Lib.hid fun _ h => absurd h (Nat.lt_irrefl 0), HV, Below.refl _ _⟩
  case round =>
    clear HV
    obtain ⟨k, last, hk, rfl, HA0, HA1, HQ, hw2⟩ := hrel
    by_cases hlt : k < L.length
    rotate_left
    · obtain rfl : k = L.length := by omega
      obtain rfl : V = true := by rw [← HQ.out, cr_end (Nat.le_refl _)]
      have HZ2 : Hid (decide ((3 : Int) ≤ (L.length : Int)) = Z) := Lib.hid (by rw [HZ.out, Bool.true_and]; simp; omega)
      go_wp2
      go_ret
      exact ⟨by rw [← HZ2.out]; rfl, hw2⟩
    obtain ⟨a, rfl, hab, C, c1, a0, a1, a2, hC⟩ := (hA.on hw2).at k hlt
    have hlt' : (k : Int) < (L.length : Int) := by omega
    have hp : ∀ q, (h : q + 1 = k) → wr.cell? (a.add (q * 3)) = some (.int .i64 (L[q]'(by omega)).frm) := by
      intro q h
      obtain ⟨a', e, _, _, _, h2, _⟩ := (hA.on hw2).at q (by omega)
      cases e
      exact h2
    go_wp2_with (fail)
    obtain ⟨I, f, hI', g0, gk, gc, ge⟩ := class_grown wr
    have x0 := fun s => kept_cell (gk s) a0
    have x1 := fun s => kept_cell (gk s) a1
    have x2 := fun s => kept_cell (gk s) a2
    have TR := Lib.hid (fun s => specChangeRight_any L[k] C c1 (f s) (hf _ (List.getElem_mem hlt)) (hC.on (gk s)))
    have HW : Hid (∀ W, Below wr.heap.size wr W → Below w.heap.size w W) := Lib.hid fun W h => hw2.trans (h.mono hw2.size)
    have HB := Lib.hid (cr_bad (v := v) (last := last) hlt)
    have HX := Lib.hid (cr_next (v := v) (last := last) hlt)
    have HS := Lib.hid (fun h : cngB L[k] = true => balB_frm (c := L[k]) (by unfold cngB at h; rw [Bool.and_eq_true] at h; exact h.1))
    have HF : Hid (V = false → Z = false) := Lib.hid fun h => by rw [HZ.out, h]; rfl
    clear hw2 hC a0 a1 a2
    rcases Bool.eq_false_or_eq_true (cngB L[k]) with hN | hN
    rotate_left
    · rw [hN] at TR
      have hV : V = false := by rw [← HQ.out, HB.out (fun h => by rw [hN] at h; exact absurd h.1 (by decide))]
      obtain rfl := HF.out hV
      clear hV HQ HZ HF hp
      refine wp_region_kept f (by kernel_rfl) (by kernel_rfl) g0 ?_
      repeat (first
        | go_big_quiet_skip
        | (go_big_quiet_want; go_big_quiet_op; first
            | go_big_quiet_on
            | (apply Exists.intro; refine ⟨fun s => ?_, ?_⟩; (first | (go_at_call 105; (with_reducible refine (TR.out _).mono ?_); rintro e w4 ⟨rfl, hb4⟩; exact ⟨rfl, gc _ _ hb4⟩)); go_big_quiet_on)))
      refine wpQuiet_nil ?_
      intro w5 h5
      have hb5 := ge _ h5
      go_wp2
      go_ret
      exact ⟨rfl, HW.out _ hb5⟩
    rw [hN] at TR
    have hs := HS.out hN
    by_cases hv : L[k].view = v
    rotate_left
    · have hV : V = false := by rw [← HQ.out, HB.out (fun h => hv h.2.1)]
      obtain rfl := HF.out hV
      have hd2 : (L[k].view != v) = true := by simp; exact hv
      clear hV HQ HZ HF hs hp
      refine wp_region_kept f (by kernel_rfl) (by kernel_rfl) g0 ?_
      repeat (first
        | go_big_quiet_skip
        | (go_big_quiet_want; go_big_quiet_op; first
            | go_big_quiet_on
            | (apply Exists.intro; refine ⟨fun s => ?_, ?_⟩; (first | (go_at_call 105; (with_reducible refine (TR.out _).mono ?_); rintro e w4 ⟨rfl, hb4⟩; exact ⟨rfl, gc _ _ hb4⟩)); go_big_quiet_on)))
      refine wpQuiet_nil ?_
      intro w5 h5
      have hb5 := ge _ h5
      go_wp2
      go_ret
      exact ⟨rfl, HW.out _ hb5⟩
    have hd2 : (L[k].view != v) = false := by simp; exact hv
    by_cases hk0 : 0 < k
    rotate_left
    · have hd : decide ((0 : Int) < (k : Int)) = false := by simp; omega
      have hl0 := HA0.out (by omega)
      have HN : Hid (cr v L[k].frm (L.drop (k + 1)) = V) := Lib.hid (by rw [← HX.out ⟨hN, hv, by omega⟩, HQ.out])
      clear hs hp hl0 hv
      refine wp_region_kept f (by kernel_rfl) (by kernel_rfl) g0 ?_
      repeat (first
        | go_big_quiet_skip
        | (go_big_quiet_want; go_big_quiet_op; first
            | go_big_quiet_on
            | (apply Exists.intro; refine ⟨fun s => ?_, ?_⟩; (first | (go_at_call 105; (with_reducible refine (TR.out _).mono ?_); rintro e w4 ⟨rfl, hb4⟩; exact ⟨rfl, gc _ _ hb4⟩)); go_big_quiet_on)))
      refine wpQuiet_nil ?_
      intro w5 h5
      have hb5 := ge _ h5
      go_wp2
      exact ⟨⟨k + 1, L[k].frm, by omega, by go_num, Lib.hid (fun h => absurd h (by omega)), Lib.hid (fun h _ => by simp), HN, HW.out _ hb5⟩, by simp [intOf]; omega⟩
    obtain ⟨q, hq⟩ : ∃ q, q + 1 = k := ⟨k - 1, by omega⟩
    have p0 := fun s => kept_cell (gk s) (hp q hq)
    have hd : decide ((0 : Int) < (k : Int)) = true := by simp; omega
    have e1 : IntKind.i64.wrap ((k : Int) - 1) = (q : Int) := by rw [IntWalk.i64_in _ (by omega)]; omega
    have e2 : (q : Int) < (L.length : Int) := by omega
    have e3 : (0 : Int) ≤ (q : Int) := by omega
    have hlast : L[q].frm = last := by
      have := HA1.out (by omega) hk0
      obtain rfl : q = k - 1 := by omega
      exact this
    simp only [hlast] at p0
    by_cases hl : last < L[k].frm
    rotate_left
    · have hV : V = false := by rw [← HQ.out, HB.out (fun h => hl h.2.2)]
      obtain rfl := HF.out hV
      have hd3 : decide (L[k].frm ≤ last) = true := by simp; omega
      clear hV HQ HZ HF hs hp hlast hq hv
      refine wp_region_kept f (by kernel_rfl) (by kernel_rfl) g0 ?_
      repeat (first
        | go_big_quiet_skip
        | (go_big_quiet_want; go_big_quiet_op; first
            | go_big_quiet_on
            | (apply Exists.intro; refine ⟨fun s => ?_, ?_⟩; (first | (go_at_call 105; (with_reducible refine (TR.out _).mono ?_); rintro e w4 ⟨rfl, hb4⟩; exact ⟨rfl, gc _ _ hb4⟩)); go_big_quiet_on)))
      refine wpQuiet_nil ?_
      intro w5 h5
      have hb5 := ge _ h5
      go_wp2
      go_ret
      exact ⟨rfl, HW.out _ hb5⟩
    have hd3 : decide (L[k].frm ≤ last) = false := by simp; omega
    have HN : Hid (cr v L[k].frm (L.drop (k + 1)) = V) := Lib.hid (by rw [← HX.out ⟨hN, hv, hl⟩, HQ.out])
    clear hs hp hlast hq hv
    refine wp_region_kept f (by kernel_rfl) (by kernel_rfl) g0 ?_
    repeat (first
      | go_big_quiet_skip
      | (go_big_quiet_want; go_big_quiet_op; first
          | go_big_quiet_on
          | (apply Exists.intro; refine ⟨fun s => ?_, ?_⟩; (first | (go_at_call 105; (with_reducible refine (TR.out _).mono ?_); rintro e w4 ⟨rfl, hb4⟩; exact ⟨rfl, gc _ _ hb4⟩)); go_big_quiet_on)))
    refine wpQuiet_nil ?_
    intro w5 h5
    have hb5 := ge _ h5
    go_wp2
    exact ⟨⟨k + 1, L[k].frm, by omega, by go_num, Lib.hid (fun h => absurd h (by omega)), Lib.hid (fun h _ => by simp), HN, HW.out _ hb5⟩, by simp [intOf]; omega⟩

set_option maxHeartbeats 4000000 in
theorem numbered_any (y : Sy) (A : Option Addr) (c : Nat) (w : World) (hf : y.op.size ≤ maxLen) (hl : y.changes.length ≤ maxLen) {b1 b2 b3 b4 : Bool} (h1 : decide (0 ≤ y.view ∧ y.view ≤ 7) = b1) (h2 : decide (1 ≤ y.seq ∧ y.seq ≤ 6) = b2) (h3 : decide (y.op.size ≤ 120) = b3) (h4 : decide (y.changes.length = 0) = b4) :
    Calls Tryd.prog 57 #[syV y (.slice A y.changes.length c)] w fun e w' => e = .returned (.bool (b1 && (b2 && (b3 && b4)))) ∧ Below w.heap.size w w' := by
  obtain ⟨kind, frm, view, seq, op, L⟩ := y
  simp only at hf hl h1 h2 h3 h4
  have I1 := Lib.hid (fun W => inQ_any h1 W)
  have I2 := Lib.hid (fun W => inQ_any h2 W)
  have I3 := Lib.hid (fun W => implOp_any hf h3 W)
  have e4 : ((L.length : Int) == 0) = b4 := by rw [← h4]; cases L <;> simp <;> omega
  have hb0 := below_bx w (.cells #[.int .i64 kind, .int .i64 frm, .int .i64 view, .int .i64 seq, .string op, .slice A L.length c] 34)
  unfold maxLen at hl
  clear h1 h2 h3 h4
  cases b1
  · go_enter Tryd.func57, Tryd.ntmps57
    go_wp2_with (first | (go_at_call 41; (with_reducible refine (I1.out _).mono ?_); rintro e w1 ⟨rfl, rfl⟩) | (go_at_call 41; (with_reducible refine (I2.out _).mono ?_); rintro e w1 ⟨rfl, rfl⟩) | (go_at_call 80; (with_reducible refine (I3.out _).mono ?_); rintro e w1 ⟨rfl, rfl⟩))
    go_ret
    exact ⟨rfl, hb0⟩
  cases b2
  · go_enter Tryd.func57, Tryd.ntmps57
    go_wp2_with (first | (go_at_call 41; (with_reducible refine (I1.out _).mono ?_); rintro e w1 ⟨rfl, rfl⟩) | (go_at_call 41; (with_reducible refine (I2.out _).mono ?_); rintro e w1 ⟨rfl, rfl⟩) | (go_at_call 80; (with_reducible refine (I3.out _).mono ?_); rintro e w1 ⟨rfl, rfl⟩))
    go_ret
    exact ⟨rfl, hb0⟩
  cases b3
  · go_enter Tryd.func57, Tryd.ntmps57
    go_wp2_with (first | (go_at_call 41; (with_reducible refine (I1.out _).mono ?_); rintro e w1 ⟨rfl, rfl⟩) | (go_at_call 41; (with_reducible refine (I2.out _).mono ?_); rintro e w1 ⟨rfl, rfl⟩) | (go_at_call 80; (with_reducible refine (I3.out _).mono ?_); rintro e w1 ⟨rfl, rfl⟩))
    go_ret
    exact ⟨rfl, hb0⟩
  go_enter Tryd.func57, Tryd.ntmps57
  go_wp2_with (first | (go_at_call 41; (with_reducible refine (I1.out _).mono ?_); rintro e w1 ⟨rfl, rfl⟩) | (go_at_call 41; (with_reducible refine (I2.out _).mono ?_); rintro e w1 ⟨rfl, rfl⟩) | (go_at_call 80; (with_reducible refine (I3.out _).mono ?_); rintro e w1 ⟨rfl, rfl⟩))
  go_ret
  exact ⟨rfl, hb0⟩
set_option maxHeartbeats 8000000 in
theorem viewRight_any (y : Sy) (A : Option Addr) (c : Nat) (w : World) {lo : Nat} (hf : y.fits) (hA : Chs w lo w.heap.size A y.changes) {b1 b2 b3 : Bool} (h1 : decide (1 ≤ y.view ∧ y.view ≤ 7) = b1) (h2 : decide (y.seq = 0) = b2) (h3 : decide (y.op.size = 0) = b3) :
    Calls Tryd.prog 58 #[syV y (.slice A y.changes.length c)] w fun e w' => e = .returned (.bool (b1 && (b2 && (b3 && cr y.view (-1) y.changes)))) ∧ Below w.heap.size w w' := by
  obtain ⟨kind, frm, view, seq, op, L⟩ := y
  obtain ⟨_, _, _, _, _, hfL⟩ := hf
  simp only at hfL hA h1 h2 h3
  have hn := hA.1
  unfold maxLen at hn
  have I1 := Lib.hid (fun W => inQ_any h1 W)
  have hb0 := below_bx w (.cells #[.int .i64 kind, .int .i64 frm, .int .i64 view, .int .i64 seq, .string op, .slice A L.length c] 34)
  have hK := Blk.fresh w 34 [.int .i64 kind, .int .i64 frm, .int .i64 view, .int .i64 seq, .string op, .slice A L.length c]
  simp only [List.toArray] at hK
  cases b1
  · clear h1 h2 h3
    go_enter Tryd.func58, Tryd.ntmps58
    go_wp2_with (go_at_call 41; (with_reducible refine (I1.out _).mono ?_); rintro e w1 ⟨rfl, rfl⟩)
    go_ret
    exact ⟨rfl, hb0⟩
  cases b2
  · have e2 : (seq != 0) = true := by have := of_decide_eq_false h2; simp; exact this
    clear h1 h2 h3
    go_enter Tryd.func58, Tryd.ntmps58
    go_wp2_with (go_at_call 41; (with_reducible refine (I1.out _).mono ?_); rintro e w1 ⟨rfl, rfl⟩)
    go_ret
    exact ⟨rfl, hb0⟩
  have e2 : (seq != 0) = false := by have := of_decide_eq_true h2; simp; exact this
  cases b3
  · have e3 : (op.toList == []) = false := empty_list h3
    have e3' : (op.toList != []) = true := by rw [bne, e3]; rfl
    clear h1 h2 h3
    go_enter Tryd.func58, Tryd.ntmps58
    go_wp2_with (go_at_call 41; (with_reducible refine (I1.out _).mono ?_); rintro e w1 ⟨rfl, rfl⟩)
    go_ret
    exact ⟨rfl, hb0⟩
  obtain rfl := empty_eq h3
  clear h1 h2 h3
  obtain ⟨Z, HZ⟩ : ∃ Z, Hid (cr view (-1) L = Z) := ⟨_, Lib.hid rfl⟩
  have HZA : Hid (Z = (br view (-1) L && allP L)) := Lib.hid (by rw [← HZ.out]; exact cr_br view L (-1))
  rw [HZ.out, Bool.true_and, Bool.true_and, Bool.true_and]
  obtain ⟨V, HV⟩ : ∃ V, Hid (br view (-1) L = V) := ⟨_, Lib.hid rfl⟩
  have HV0 := HV
  have PR := Lib.hid (fun W (h : Below w.heap.size w W) => proofsRight_any L A c W hfL (hA.on h))
  clear HZ
  go_enter Tryd.func58, Tryd.ntmps58
  go_wp2_with (go_at_call 41; (with_reducible refine (I1.out _).mono ?_); rintro e w1 ⟨rfl, rfl⟩)
  generalize w.alloc (.cells #[.int .i64 kind, .int .i64 frm, .int .i64 view, .int .i64 seq, .string ⟨#[]⟩, .slice A L.length c] 34) = w1 at hK hb0 ⊢
  go_loopw [22] (fun i wr => ∃ (k : Nat) (last : Int), k ≤ L.length ∧ i = .int .i64 k ∧ Hid (k = 0 → last = -1) ∧ Hid (∀ h : k - 1 < L.length, 0 < k → L[k - 1].frm = last) ∧ Hid (br view last (L.drop k) = V) ∧ Blk wr w.heap.size 34 [.int .i64 kind, .int .i64 frm, .int .i64 view, .int .i64 seq, .string ⟨#[]⟩, .slice A L.length c] ∧ Below w.heap.size w wr) (fun i _ => L.length - (intOf i).toNat)
  case atStart => exact ⟨0, -1, by omega, rfl, Lib.hid fun _ => rfl, Lib.hid fun _ h => absurd h (Nat.lt_irrefl 0), HV, hK, hb0⟩
  case round =>
    clear HV hK hb0
    obtain ⟨k, last, hk, rfl, HA0, HA1, HQ, hK2, hw2⟩ := hrel
    have b5 := hK2.cell (i := 5) rfl
    by_cases hlt : k < L.length
    rotate_left
    · obtain rfl : k = L.length := by omega
      obtain rfl : V = true := by rw [← HQ.out, br_end (Nat.le_refl _)]
      have hz : allP L = Z := by rw [HZA.out, HV0.out]; rfl
      have PR2 := Lib.hid (PR.out _ hw2)
      rw [hz] at PR2
      clear hz
      go_wp2_with (fail)
      clear b5
      refine PR2.out.mono ?_
      rintro e w5 ⟨rfl, hb5⟩
      go_wp2
      go_ret
      exact ⟨rfl, hw2.trans (hb5.mono hw2.size)⟩
    obtain ⟨a, rfl, hab, C, c1, a0, a1, a2, hC⟩ := (hA.on hw2).at k hlt
    have hlt' : (k : Int) < (L.length : Int) := by omega
    have hG := Blk.fresh wr 66 [.int .i64 L[k].frm, .int .i64 L[k].view, .slice C L[k].proofs.length c1]
    have hw4 := hw2.alloc hw2.size (.cells #[.int .i64 L[k].frm, .int .i64 L[k].view, .slice C L[k].proofs.length c1] 66)
    have hK3 := hK2.alloc (.cells #[.int .i64 L[k].frm, .int .i64 L[k].view, .slice C L[k].proofs.length c1] 66)
    have hp : ∀ q, (h : q + 1 = k) → (wr.alloc (.cells #[.int .i64 L[k].frm, .int .i64 L[k].view, .slice C L[k].proofs.length c1] 66)).cell? (a.add (q * 3)) = some (.int .i64 (L[q]'(by omega)).frm) := by
      intro q h
      obtain ⟨a', e, _, _, _, h2, _⟩ := (hA.on hw4).at q (by omega)
      cases e
      exact h2
    simp only [List.toArray] at hG
    go_wp2_with (fail)
    generalize wr.alloc (.cells #[.int .i64 L[k].frm, .int .i64 L[k].view, .slice C L[k].proofs.length c1] 66) = w3 at hG hw4 hp hK3 ⊢
    clear a0 a1 a2 b5 hK2 hw2
    obtain ⟨I, f, hI', g0, gk, gc, ge⟩ := class_grown w3
    have x0 := fun s => kept_cell (gk s) (hG.cell (i := 0) rfl)
    have x1 := fun s => kept_cell (gk s) (hG.cell (i := 1) rfl)
    have x2 := fun s => kept_cell (gk s) (hG.cell (i := 2) rfl)
    have y2 := fun s => kept_cell (gk s) (hK3.cell (i := 2) rfl)
    have y5 := fun s => kept_cell (gk s) (hK3.cell (i := 5) rfl)
    have TR := Lib.hid (fun s => implBallot_any L[k] (.slice C L[k].proofs.length c1) (f s))
    have HW : Hid (∀ W, Below w3.heap.size w3 W → Blk W w.heap.size 34 [.int .i64 kind, .int .i64 frm, .int .i64 view, .int .i64 seq, .string ⟨#[]⟩, .slice (some a) L.length c] ∧ Below w.heap.size w W) := Lib.hid fun W h => ⟨hK3.below h hK3.lt, hw4.trans (h.mono hw4.size)⟩
    have HB := Lib.hid (br_bad (v := view) (last := last) hlt)
    have HX := Lib.hid (br_next (v := view) (last := last) hlt)
    have HS := Lib.hid (fun h : balB L[k] = true => balB_frm h)
    have HF : Hid (V = false → Z = false) := Lib.hid fun h => by rw [HZA.out, HV0.out, h]; rfl
    clear hw4 hK3 hG
    rcases Bool.eq_false_or_eq_true (balB L[k]) with hN | hN
    rotate_left
    · rw [hN] at TR
      have hV : V = false := by rw [← HQ.out, HB.out (fun h => by rw [hN] at h; exact absurd h.1 (by decide))]
      obtain rfl := HF.out hV
      clear hV HQ HV0 HZA HF hp
      refine wp_region_kept f (by kernel_rfl) (by kernel_rfl) g0 ?_
      repeat (first
        | go_big_quiet_skip
        | (go_big_quiet_want; go_big_quiet_op; first
            | go_big_quiet_on
            | (apply Exists.intro; refine ⟨fun s => ?_, ?_⟩; (first | (go_at_call 81; (with_reducible refine (TR.out _).mono ?_); rintro e w4 ⟨rfl, hb4⟩; exact ⟨rfl, gc _ _ hb4⟩)); go_big_quiet_on)))
      refine wpQuiet_nil ?_
      intro w5 h5
      have hb5 := ge _ h5
      go_wp2
      go_ret
      exact ⟨rfl, (HW.out _ hb5).2⟩
    rw [hN] at TR
    have hs := HS.out hN
    by_cases hv : L[k].view = view
    rotate_left
    · have hV : V = false := by rw [← HQ.out, HB.out (fun h => hv h.2.1)]
      obtain rfl := HF.out hV
      have hd2 : (L[k].view != view) = true := by simp; exact hv
      clear hV HQ HV0 HZA HF hs hp
      refine wp_region_kept f (by kernel_rfl) (by kernel_rfl) g0 ?_
      repeat (first
        | go_big_quiet_skip
        | (go_big_quiet_want; go_big_quiet_op; first
            | go_big_quiet_on
            | (apply Exists.intro; refine ⟨fun s => ?_, ?_⟩; (first | (go_at_call 81; (with_reducible refine (TR.out _).mono ?_); rintro e w4 ⟨rfl, hb4⟩; exact ⟨rfl, gc _ _ hb4⟩)); go_big_quiet_on)))
      refine wpQuiet_nil ?_
      intro w5 h5
      have hb5 := ge _ h5
      go_wp2
      go_ret
      exact ⟨rfl, (HW.out _ hb5).2⟩
    have hd2 : (L[k].view != view) = false := by simp; exact hv
    by_cases hk0 : 0 < k
    rotate_left
    · have hd : decide ((0 : Int) < (k : Int)) = false := by simp; omega
      have hl0 := HA0.out (by omega)
      have HN : Hid (br view L[k].frm (L.drop (k + 1)) = V) := Lib.hid (by rw [← HX.out ⟨hN, hv, by omega⟩, HQ.out])
      clear hs hp hl0 hv
      refine wp_region_kept f (by kernel_rfl) (by kernel_rfl) g0 ?_
      repeat (first
        | go_big_quiet_skip
        | (go_big_quiet_want; go_big_quiet_op; first
            | go_big_quiet_on
            | (apply Exists.intro; refine ⟨fun s => ?_, ?_⟩; (first | (go_at_call 81; (with_reducible refine (TR.out _).mono ?_); rintro e w4 ⟨rfl, hb4⟩; exact ⟨rfl, gc _ _ hb4⟩)); go_big_quiet_on)))
      refine wpQuiet_nil ?_
      intro w5 h5
      have hb5 := ge _ h5
      go_wp2
      exact ⟨⟨k + 1, L[k].frm, by omega, by go_num, Lib.hid (fun h => absurd h (by omega)), Lib.hid (fun h _ => by simp), HN, (HW.out _ hb5).1, (HW.out _ hb5).2⟩, by simp [intOf]; omega⟩
    obtain ⟨q, hq⟩ : ∃ q, q + 1 = k := ⟨k - 1, by omega⟩
    have p0 := fun s => kept_cell (gk s) (hp q hq)
    have hd : decide ((0 : Int) < (k : Int)) = true := by simp; omega
    have e1 : IntKind.i64.wrap ((k : Int) - 1) = (q : Int) := by rw [IntWalk.i64_in _ (by omega)]; omega
    have e2 : (q : Int) < (L.length : Int) := by omega
    have e3 : (0 : Int) ≤ (q : Int) := by omega
    have hlast : L[q].frm = last := by
      have := HA1.out (by omega) hk0
      obtain rfl : q = k - 1 := by omega
      exact this
    simp only [hlast] at p0
    by_cases hl : last < L[k].frm
    rotate_left
    · have hV : V = false := by rw [← HQ.out, HB.out (fun h => hl h.2.2)]
      obtain rfl := HF.out hV
      have hd3 : decide (L[k].frm ≤ last) = true := by simp; omega
      clear hV HQ HV0 HZA HF hs hp hlast hq hv
      refine wp_region_kept f (by kernel_rfl) (by kernel_rfl) g0 ?_
      repeat (first
        | go_big_quiet_skip
        | (go_big_quiet_want; go_big_quiet_op; first
            | go_big_quiet_on
            | (apply Exists.intro; refine ⟨fun s => ?_, ?_⟩; (first | (go_at_call 81; (with_reducible refine (TR.out _).mono ?_); rintro e w4 ⟨rfl, hb4⟩; exact ⟨rfl, gc _ _ hb4⟩)); go_big_quiet_on)))
      refine wpQuiet_nil ?_
      intro w5 h5
      have hb5 := ge _ h5
      go_wp2
      go_ret
      exact ⟨rfl, (HW.out _ hb5).2⟩
    have hd3 : decide (L[k].frm ≤ last) = false := by simp; omega
    have HN : Hid (br view L[k].frm (L.drop (k + 1)) = V) := Lib.hid (by rw [← HX.out ⟨hN, hv, hl⟩, HQ.out])
    clear hs hp hlast hq hv
    refine wp_region_kept f (by kernel_rfl) (by kernel_rfl) g0 ?_
    repeat (first
      | go_big_quiet_skip
      | (go_big_quiet_want; go_big_quiet_op; first
          | go_big_quiet_on
          | (apply Exists.intro; refine ⟨fun s => ?_, ?_⟩; (first | (go_at_call 81; (with_reducible refine (TR.out _).mono ?_); rintro e w4 ⟨rfl, hb4⟩; exact ⟨rfl, gc _ _ hb4⟩)); go_big_quiet_on)))
    refine wpQuiet_nil ?_
    intro w5 h5
    have hb5 := ge _ h5
    go_wp2
    exact ⟨⟨k + 1, L[k].frm, by omega, by go_num, Lib.hid (fun h => absurd h (by omega)), Lib.hid (fun h _ => by simp), HN, (HW.out _ hb5).1, (HW.out _ hb5).2⟩, by simp [intOf]; omega⟩

end Go.Proofs.YtjnbhppnchmeoaaDoor

namespace Go.Proofs.YtjnbhppnchmeoaaDoor
open Go.RowKit
set_option linter.unusedVariables false
set_option maxRecDepth 1000000

theorem wf_in {v : Int} (h : -9223372036854775808 ≤ v ∧ v ≤ 9223372036854775807) : (Lit.int .i64 v).wf = true := by
  simpa [Lit.wf, IntKind.min, IntKind.max, IntKind.signed, IntKind.bits] using h
set_option maxHeartbeats 16000000 in
theorem specSayRight_any (y : Sy) (A : Option Addr) (c : Nat) (w : World) {lo : Nat} (hf : y.fits) (hA : Chs w lo w.heap.size A y.changes) :
    Calls Tryd.prog 78 #[syV y (.slice A y.changes.length c)] w fun e w' => e = .returned (.bool (sayB y)) ∧ Below w.heap.size w w' := by
  have HR : Hid (sayB y = (decide (0 ≤ y.frm ∧ y.frm ≤ 3) && (decide (0 ≤ y.view ∧ y.view ≤ 7) && restB y))) := Lib.hid rfl
  have HN := Lib.hid (rest_num (y := y))
  have HC := Lib.hid (rest_chg (y := y))
  have HW := Lib.hid (rest_new (y := y))
  have HO := Lib.hid (rest_no (y := y))
  have HN2 : Hid (numB y = (decide (1 ≤ y.seq ∧ y.seq ≤ 6) && (decide (y.op.size ≤ 120) && (decide (y.changes.length = 0) && decide (y.kind ≠ 1 ∨ y.frm = leadI y.view))))) := Lib.hid rfl
  have HC2 : Hid (chgB y = (decide (1 ≤ y.view) && (decide (y.seq = 0) && (decide (y.op.size = 0) && oneB y.frm y.view y.changes)))) := Lib.hid rfl
  have HW2 : Hid (newB y = (decide (1 ≤ y.view) && (decide (y.frm = leadI y.view) && (decide (y.seq = 0) && (decide (y.op.size = 0) && (cr y.view (-1) y.changes && decide (3 ≤ y.changes.length))))))) := Lib.hid rfl
  generalize sayB y = Z at HR ⊢
  generalize restB y = R at HR HN HC HW HO
  generalize numB y = R1 at HN HN2
  generalize chgB y = R2 at HC HC2
  generalize newB y = R3 at HW HW2
  obtain ⟨kind, frm, view, seq, op, L⟩ := y
  obtain ⟨f0, f1, f2, f3, f4, f5⟩ := hf
  simp only at f0 f1 f2 f3 f4 f5 hA HR HN HC HW HO HN2 HC2 HW2 ⊢
  have hn := hA.1
  unfold maxLen at hn
  rcases Bool.eq_false_or_eq_true (decide (0 ≤ frm ∧ frm ≤ 3)) with h1 | h1
  rotate_left
  · have I1 := Lib.hid (fun W => who_any h1 W)
    rw [h1] at HR
    obtain rfl : Z = false := by rw [HR.out]; rfl
    clear HR
    have hb0 := below_bx w (.cells #[.int .i64 kind, .int .i64 frm, .int .i64 view, .int .i64 seq, .string op, .slice A L.length c] 34)
    go_enter Tryd.func78, Tryd.ntmps78
    go_wp2_with (go_at_call 100; (with_reducible refine (I1.out _).mono ?_); rintro e w1 ⟨rfl, rfl⟩)
    go_ret
    exact ⟨rfl, hb0⟩
  have I1 := Lib.hid (fun W => who_any h1 W)
  rcases Bool.eq_false_or_eq_true (decide (0 ≤ view ∧ view ≤ 7)) with h2 | h2
  rotate_left
  · have I2 := Lib.hid (fun W => view_any h2 W)
    rw [h1, h2] at HR
    obtain rfl : Z = false := by rw [HR.out]; rfl
    clear HR
    have hb0 := below_bx w (.cells #[.int .i64 kind, .int .i64 frm, .int .i64 view, .int .i64 seq, .string op, .slice A L.length c] 34)
    go_enter Tryd.func78, Tryd.ntmps78
    go_wp2_with (first | (go_at_call 100; (with_reducible refine (I1.out _).mono ?_); rintro e w1 ⟨rfl, rfl⟩) | (go_at_call 101; (with_reducible refine (I2.out _).mono ?_); rintro e w1 ⟨rfl, rfl⟩))
    go_ret
    exact ⟨rfl, hb0⟩
  have I2 := Lib.hid (fun W => view_any h2 W)
  have hv8 : (Lit.int .i64 view).wf = true := wf_in f2
  have LD := Lib.hid (fun W => specLeader_any view W hv8)
  rw [h1, h2] at HR
  have HZ : Hid (Z = R) := Lib.hid (by rw [HR.out]; rfl)
  clear HR
  generalize leadI view = ld at LD HN2 HW2
  by_cases hk1 : kind = 1
  · subst hk1
    obtain rfl : Z = R1 := by rw [HZ.out, HN.out (by omega)]
    clear HN HC HW HO HC2 HW2 HZ
    rcases Bool.eq_false_or_eq_true (decide (1 ≤ seq ∧ seq ≤ 6)) with h3 | h3
    rotate_left
    · have S1 := Lib.hid (fun W => seq_any h3 W)
      rw [h3] at HN2
      obtain rfl : Z = false := by rw [HN2.out]; rfl
      clear HN2

      have hb0 := below_bx w (.cells #[.int .i64 1, .int .i64 frm, .int .i64 view, .int .i64 seq, .string op, .slice A L.length c] 34)
      have hK := Blk.fresh w 34 [.int .i64 1, .int .i64 frm, .int .i64 view, .int .i64 seq, .string op, .slice A L.length c]
      simp only [List.toArray] at hK
      go_enter Tryd.func78, Tryd.ntmps78
      go_wp2_with (first | (go_at_call 100; (with_reducible refine (I1.out _).mono ?_); rintro e w1 ⟨rfl, rfl⟩) | (go_at_call 101; (with_reducible refine (I2.out _).mono ?_); rintro e w1 ⟨rfl, rfl⟩))
      generalize w.alloc (.cells #[.int .i64 1, .int .i64 frm, .int .i64 view, .int .i64 seq, .string op, .slice A L.length c] 34) = w1 at hK hb0 ⊢
      obtain ⟨I, f, hI, g0, gk, gc, ge⟩ := class_grown w1
      have x0 := fun s => kept_cell (gk s) (hK.cell (i := 0) rfl)
      have x1 := fun s => kept_cell (gk s) (hK.cell (i := 1) rfl)
      have x2 := fun s => kept_cell (gk s) (hK.cell (i := 2) rfl)
      have x3 := fun s => kept_cell (gk s) (hK.cell (i := 3) rfl)
      have x4 := fun s => kept_cell (gk s) (hK.cell (i := 4) rfl)
      have x5 := fun s => kept_cell (gk s) (hK.cell (i := 5) rfl)
      refine wp_region_kept f (by kernel_rfl) (by kernel_rfl) g0 ?_
      repeat (first
        | go_big_quiet_skip
        | (go_big_quiet_want; go_big_quiet_op; first
            | go_big_quiet_on
            | (apply Exists.intro; refine ⟨fun s => ?_, ?_⟩; (first | (go_at_call 102; (with_reducible refine (S1.out _).mono ?_); rintro e w4 ⟨rfl, rfl⟩; exact ⟨rfl, gc _ _ (Below.refl _ _)⟩)); go_big_quiet_on)))
      refine wpQuiet_nil ?_
      intro w5 h5
      have hb5 := ge _ h5
      go_wp2
      go_ret
      exact ⟨rfl, hb0.trans (hb5.mono hb0.size)⟩
    have S1 := Lib.hid (fun W => seq_any h3 W)
    rcases Bool.eq_false_or_eq_true (decide (op.size ≤ 120)) with h4 | h4
    rotate_left
    · have S2 := Lib.hid (fun W => specOp_any f4 h4 W)
      rw [h3, h4] at HN2
      obtain rfl : Z = false := by rw [HN2.out]; rfl
      clear HN2
      have hb0 := below_bx w (.cells #[.int .i64 1, .int .i64 frm, .int .i64 view, .int .i64 seq, .string op, .slice A L.length c] 34)
      have hK := Blk.fresh w 34 [.int .i64 1, .int .i64 frm, .int .i64 view, .int .i64 seq, .string op, .slice A L.length c]
      simp only [List.toArray] at hK
      go_enter Tryd.func78, Tryd.ntmps78
      go_wp2_with (first | (go_at_call 100; (with_reducible refine (I1.out _).mono ?_); rintro e w1 ⟨rfl, rfl⟩) | (go_at_call 101; (with_reducible refine (I2.out _).mono ?_); rintro e w1 ⟨rfl, rfl⟩))
      generalize w.alloc (.cells #[.int .i64 1, .int .i64 frm, .int .i64 view, .int .i64 seq, .string op, .slice A L.length c] 34) = w1 at hK hb0 ⊢
      obtain ⟨I, f, hI, g0, gk, gc, ge⟩ := class_grown w1
      have x0 := fun s => kept_cell (gk s) (hK.cell (i := 0) rfl)
      have x1 := fun s => kept_cell (gk s) (hK.cell (i := 1) rfl)
      have x2 := fun s => kept_cell (gk s) (hK.cell (i := 2) rfl)
      have x3 := fun s => kept_cell (gk s) (hK.cell (i := 3) rfl)
      have x4 := fun s => kept_cell (gk s) (hK.cell (i := 4) rfl)
      have x5 := fun s => kept_cell (gk s) (hK.cell (i := 5) rfl)
      refine wp_region_kept f (by kernel_rfl) (by kernel_rfl) g0 ?_
      repeat (first
        | go_big_quiet_skip
        | (go_big_quiet_want; go_big_quiet_op; first
            | go_big_quiet_on
            | (apply Exists.intro; refine ⟨fun s => ?_, ?_⟩; (first | (go_at_call 102; (with_reducible refine (S1.out _).mono ?_); rintro e w4 ⟨rfl, rfl⟩; exact ⟨rfl, gc _ _ (Below.refl _ _)⟩) | (go_at_call 103; (with_reducible refine (S2.out _).mono ?_); rintro e w4 ⟨rfl, rfl⟩; exact ⟨rfl, gc _ _ (Below.refl _ _)⟩)); go_big_quiet_on)))
      refine wpQuiet_nil ?_
      intro w5 h5
      have hb5 := ge _ h5
      go_wp2
      go_ret
      exact ⟨rfl, hb0.trans (hb5.mono hb0.size)⟩
    have S2 := Lib.hid (fun W => specOp_any f4 h4 W)
    rcases Bool.eq_false_or_eq_true (decide (L.length = 0)) with h5 | h5
    rotate_left
    · have e5 : ((L.length : Int) == 0) = false := by have := of_decide_eq_false h5; simp; cases L <;> simp_all
      rw [h3, h4, h5] at HN2
      obtain rfl : Z = false := by rw [HN2.out]; rfl
      clear HN2
      have hb0 := below_bx w (.cells #[.int .i64 1, .int .i64 frm, .int .i64 view, .int .i64 seq, .string op, .slice A L.length c] 34)
      have hK := Blk.fresh w 34 [.int .i64 1, .int .i64 frm, .int .i64 view, .int .i64 seq, .string op, .slice A L.length c]
      simp only [List.toArray] at hK
      go_enter Tryd.func78, Tryd.ntmps78
      go_wp2_with (first | (go_at_call 100; (with_reducible refine (I1.out _).mono ?_); rintro e w1 ⟨rfl, rfl⟩) | (go_at_call 101; (with_reducible refine (I2.out _).mono ?_); rintro e w1 ⟨rfl, rfl⟩))
      generalize w.alloc (.cells #[.int .i64 1, .int .i64 frm, .int .i64 view, .int .i64 seq, .string op, .slice A L.length c] 34) = w1 at hK hb0 ⊢
      obtain ⟨I, f, hI, g0, gk, gc, ge⟩ := class_grown w1
      have x0 := fun s => kept_cell (gk s) (hK.cell (i := 0) rfl)
      have x1 := fun s => kept_cell (gk s) (hK.cell (i := 1) rfl)
      have x2 := fun s => kept_cell (gk s) (hK.cell (i := 2) rfl)
      have x3 := fun s => kept_cell (gk s) (hK.cell (i := 3) rfl)
      have x4 := fun s => kept_cell (gk s) (hK.cell (i := 4) rfl)
      have x5 := fun s => kept_cell (gk s) (hK.cell (i := 5) rfl)
      refine wp_region_kept f (by kernel_rfl) (by kernel_rfl) g0 ?_
      repeat (first
        | go_big_quiet_skip
        | (go_big_quiet_want; go_big_quiet_op; first
            | go_big_quiet_on
            | (apply Exists.intro; refine ⟨fun s => ?_, ?_⟩; (first | (go_at_call 102; (with_reducible refine (S1.out _).mono ?_); rintro e w4 ⟨rfl, rfl⟩; exact ⟨rfl, gc _ _ (Below.refl _ _)⟩) | (go_at_call 103; (with_reducible refine (S2.out _).mono ?_); rintro e w4 ⟨rfl, rfl⟩; exact ⟨rfl, gc _ _ (Below.refl _ _)⟩)); go_big_quiet_on)))
      refine wpQuiet_nil ?_
      intro w5 h5
      have hb5 := ge _ h5
      go_wp2
      go_ret
      exact ⟨rfl, hb0.trans (hb5.mono hb0.size)⟩
    have e5 : ((L.length : Int) == 0) = true := by have := of_decide_eq_true h5; simp; cases L <;> simp_all
    rw [h3, h4, h5] at HN2
    by_cases hl : frm = ld
    · have e6 : (frm == ld) = true := by simp [hl]
      obtain rfl : Z = true := by rw [HN2.out]; simp [hl]
      clear HN2 hl
      have hb0 := below_bx w (.cells #[.int .i64 1, .int .i64 frm, .int .i64 view, .int .i64 seq, .string op, .slice A L.length c] 34)
      have hK := Blk.fresh w 34 [.int .i64 1, .int .i64 frm, .int .i64 view, .int .i64 seq, .string op, .slice A L.length c]
      simp only [List.toArray] at hK
      go_enter Tryd.func78, Tryd.ntmps78
      go_wp2_with (first | (go_at_call 100; (with_reducible refine (I1.out _).mono ?_); rintro e w1 ⟨rfl, rfl⟩) | (go_at_call 101; (with_reducible refine (I2.out _).mono ?_); rintro e w1 ⟨rfl, rfl⟩))
      generalize w.alloc (.cells #[.int .i64 1, .int .i64 frm, .int .i64 view, .int .i64 seq, .string op, .slice A L.length c] 34) = w1 at hK hb0 ⊢
      obtain ⟨I, f, hI, g0, gk, gc, ge⟩ := class_grown w1
      have x0 := fun s => kept_cell (gk s) (hK.cell (i := 0) rfl)
      have x1 := fun s => kept_cell (gk s) (hK.cell (i := 1) rfl)
      have x2 := fun s => kept_cell (gk s) (hK.cell (i := 2) rfl)
      have x3 := fun s => kept_cell (gk s) (hK.cell (i := 3) rfl)
      have x4 := fun s => kept_cell (gk s) (hK.cell (i := 4) rfl)
      have x5 := fun s => kept_cell (gk s) (hK.cell (i := 5) rfl)
      refine wp_region_kept f (by kernel_rfl) (by kernel_rfl) g0 ?_
      repeat (first
        | go_big_quiet_skip
        | (go_big_quiet_want; go_big_quiet_op; first
            | go_big_quiet_on
            | (apply Exists.intro; refine ⟨fun s => ?_, ?_⟩; (first | (go_at_call 102; (with_reducible refine (S1.out _).mono ?_); rintro e w4 ⟨rfl, rfl⟩; exact ⟨rfl, gc _ _ (Below.refl _ _)⟩) | (go_at_call 103; (with_reducible refine (S2.out _).mono ?_); rintro e w4 ⟨rfl, rfl⟩; exact ⟨rfl, gc _ _ (Below.refl _ _)⟩) | (go_at_call 104; (with_reducible refine (LD.out _).mono ?_); rintro e w4 ⟨rfl, rfl⟩; exact ⟨rfl, gc _ _ (Below.refl _ _)⟩)); go_big_quiet_on)))
      refine wpQuiet_nil ?_
      intro w5 h5
      have hb5 := ge _ h5
      go_wp2
      go_ret
      exact ⟨rfl, hb0.trans (hb5.mono hb0.size)⟩
    · have e6 : (frm == ld) = false := by simp [hl]
      obtain rfl : Z = false := by rw [HN2.out]; simp [hl]
      clear HN2 hl
      have hb0 := below_bx w (.cells #[.int .i64 1, .int .i64 frm, .int .i64 view, .int .i64 seq, .string op, .slice A L.length c] 34)
      have hK := Blk.fresh w 34 [.int .i64 1, .int .i64 frm, .int .i64 view, .int .i64 seq, .string op, .slice A L.length c]
      simp only [List.toArray] at hK
      go_enter Tryd.func78, Tryd.ntmps78
      go_wp2_with (first | (go_at_call 100; (with_reducible refine (I1.out _).mono ?_); rintro e w1 ⟨rfl, rfl⟩) | (go_at_call 101; (with_reducible refine (I2.out _).mono ?_); rintro e w1 ⟨rfl, rfl⟩))
      generalize w.alloc (.cells #[.int .i64 1, .int .i64 frm, .int .i64 view, .int .i64 seq, .string op, .slice A L.length c] 34) = w1 at hK hb0 ⊢
      obtain ⟨I, f, hI, g0, gk, gc, ge⟩ := class_grown w1
      have x0 := fun s => kept_cell (gk s) (hK.cell (i := 0) rfl)
      have x1 := fun s => kept_cell (gk s) (hK.cell (i := 1) rfl)
      have x2 := fun s => kept_cell (gk s) (hK.cell (i := 2) rfl)
      have x3 := fun s => kept_cell (gk s) (hK.cell (i := 3) rfl)
      have x4 := fun s => kept_cell (gk s) (hK.cell (i := 4) rfl)
      have x5 := fun s => kept_cell (gk s) (hK.cell (i := 5) rfl)
      refine wp_region_kept f (by kernel_rfl) (by kernel_rfl) g0 ?_
      repeat (first
        | go_big_quiet_skip
        | (go_big_quiet_want; go_big_quiet_op; first
            | go_big_quiet_on
            | (apply Exists.intro; refine ⟨fun s => ?_, ?_⟩; (first | (go_at_call 102; (with_reducible refine (S1.out _).mono ?_); rintro e w4 ⟨rfl, rfl⟩; exact ⟨rfl, gc _ _ (Below.refl _ _)⟩) | (go_at_call 103; (with_reducible refine (S2.out _).mono ?_); rintro e w4 ⟨rfl, rfl⟩; exact ⟨rfl, gc _ _ (Below.refl _ _)⟩) | (go_at_call 104; (with_reducible refine (LD.out _).mono ?_); rintro e w4 ⟨rfl, rfl⟩; exact ⟨rfl, gc _ _ (Below.refl _ _)⟩)); go_big_quiet_on)))
      refine wpQuiet_nil ?_
      intro w5 h5
      have hb5 := ge _ h5
      go_wp2
      go_ret
      exact ⟨rfl, hb0.trans (hb5.mono hb0.size)⟩
  by_cases hk2 : kind = 2
  · subst hk2
    obtain rfl : Z = R1 := by rw [HZ.out, HN.out (by omega)]
    clear HN HC HW HO HC2 HW2 HZ
    rcases Bool.eq_false_or_eq_true (decide (1 ≤ seq ∧ seq ≤ 6)) with h3 | h3
    rotate_left
    · have S1 := Lib.hid (fun W => seq_any h3 W)
      rw [h3] at HN2
      obtain rfl : Z = false := by rw [HN2.out]; rfl
      clear HN2

      have hb0 := below_bx w (.cells #[.int .i64 2, .int .i64 frm, .int .i64 view, .int .i64 seq, .string op, .slice A L.length c] 34)
      have hK := Blk.fresh w 34 [.int .i64 2, .int .i64 frm, .int .i64 view, .int .i64 seq, .string op, .slice A L.length c]
      simp only [List.toArray] at hK
      go_enter Tryd.func78, Tryd.ntmps78
      go_wp2_with (first | (go_at_call 100; (with_reducible refine (I1.out _).mono ?_); rintro e w1 ⟨rfl, rfl⟩) | (go_at_call 101; (with_reducible refine (I2.out _).mono ?_); rintro e w1 ⟨rfl, rfl⟩))
      generalize w.alloc (.cells #[.int .i64 2, .int .i64 frm, .int .i64 view, .int .i64 seq, .string op, .slice A L.length c] 34) = w1 at hK hb0 ⊢
      obtain ⟨I, f, hI, g0, gk, gc, ge⟩ := class_grown w1
      have x0 := fun s => kept_cell (gk s) (hK.cell (i := 0) rfl)
      have x1 := fun s => kept_cell (gk s) (hK.cell (i := 1) rfl)
      have x2 := fun s => kept_cell (gk s) (hK.cell (i := 2) rfl)
      have x3 := fun s => kept_cell (gk s) (hK.cell (i := 3) rfl)
      have x4 := fun s => kept_cell (gk s) (hK.cell (i := 4) rfl)
      have x5 := fun s => kept_cell (gk s) (hK.cell (i := 5) rfl)
      refine wp_region_kept f (by kernel_rfl) (by kernel_rfl) g0 ?_
      repeat (first
        | go_big_quiet_skip
        | (go_big_quiet_want; go_big_quiet_op; first
            | go_big_quiet_on
            | (apply Exists.intro; refine ⟨fun s => ?_, ?_⟩; (first | (go_at_call 102; (with_reducible refine (S1.out _).mono ?_); rintro e w4 ⟨rfl, rfl⟩; exact ⟨rfl, gc _ _ (Below.refl _ _)⟩)); go_big_quiet_on)))
      refine wpQuiet_nil ?_
      intro w5 h5
      have hb5 := ge _ h5
      go_wp2
      go_ret
      exact ⟨rfl, hb0.trans (hb5.mono hb0.size)⟩
    have S1 := Lib.hid (fun W => seq_any h3 W)
    rcases Bool.eq_false_or_eq_true (decide (op.size ≤ 120)) with h4 | h4
    rotate_left
    · have S2 := Lib.hid (fun W => specOp_any f4 h4 W)
      rw [h3, h4] at HN2
      obtain rfl : Z = false := by rw [HN2.out]; rfl
      clear HN2
      have hb0 := below_bx w (.cells #[.int .i64 2, .int .i64 frm, .int .i64 view, .int .i64 seq, .string op, .slice A L.length c] 34)
      have hK := Blk.fresh w 34 [.int .i64 2, .int .i64 frm, .int .i64 view, .int .i64 seq, .string op, .slice A L.length c]
      simp only [List.toArray] at hK
      go_enter Tryd.func78, Tryd.ntmps78
      go_wp2_with (first | (go_at_call 100; (with_reducible refine (I1.out _).mono ?_); rintro e w1 ⟨rfl, rfl⟩) | (go_at_call 101; (with_reducible refine (I2.out _).mono ?_); rintro e w1 ⟨rfl, rfl⟩))
      generalize w.alloc (.cells #[.int .i64 2, .int .i64 frm, .int .i64 view, .int .i64 seq, .string op, .slice A L.length c] 34) = w1 at hK hb0 ⊢
      obtain ⟨I, f, hI, g0, gk, gc, ge⟩ := class_grown w1
      have x0 := fun s => kept_cell (gk s) (hK.cell (i := 0) rfl)
      have x1 := fun s => kept_cell (gk s) (hK.cell (i := 1) rfl)
      have x2 := fun s => kept_cell (gk s) (hK.cell (i := 2) rfl)
      have x3 := fun s => kept_cell (gk s) (hK.cell (i := 3) rfl)
      have x4 := fun s => kept_cell (gk s) (hK.cell (i := 4) rfl)
      have x5 := fun s => kept_cell (gk s) (hK.cell (i := 5) rfl)
      refine wp_region_kept f (by kernel_rfl) (by kernel_rfl) g0 ?_
      repeat (first
        | go_big_quiet_skip
        | (go_big_quiet_want; go_big_quiet_op; first
            | go_big_quiet_on
            | (apply Exists.intro; refine ⟨fun s => ?_, ?_⟩; (first | (go_at_call 102; (with_reducible refine (S1.out _).mono ?_); rintro e w4 ⟨rfl, rfl⟩; exact ⟨rfl, gc _ _ (Below.refl _ _)⟩) | (go_at_call 103; (with_reducible refine (S2.out _).mono ?_); rintro e w4 ⟨rfl, rfl⟩; exact ⟨rfl, gc _ _ (Below.refl _ _)⟩)); go_big_quiet_on)))
      refine wpQuiet_nil ?_
      intro w5 h5
      have hb5 := ge _ h5
      go_wp2
      go_ret
      exact ⟨rfl, hb0.trans (hb5.mono hb0.size)⟩
    have S2 := Lib.hid (fun W => specOp_any f4 h4 W)
    rcases Bool.eq_false_or_eq_true (decide (L.length = 0)) with h5 | h5
    rotate_left
    · have e5 : ((L.length : Int) == 0) = false := by have := of_decide_eq_false h5; simp; cases L <;> simp_all
      rw [h3, h4, h5] at HN2
      obtain rfl : Z = false := by rw [HN2.out]; rfl
      clear HN2
      have hb0 := below_bx w (.cells #[.int .i64 2, .int .i64 frm, .int .i64 view, .int .i64 seq, .string op, .slice A L.length c] 34)
      have hK := Blk.fresh w 34 [.int .i64 2, .int .i64 frm, .int .i64 view, .int .i64 seq, .string op, .slice A L.length c]
      simp only [List.toArray] at hK
      go_enter Tryd.func78, Tryd.ntmps78
      go_wp2_with (first | (go_at_call 100; (with_reducible refine (I1.out _).mono ?_); rintro e w1 ⟨rfl, rfl⟩) | (go_at_call 101; (with_reducible refine (I2.out _).mono ?_); rintro e w1 ⟨rfl, rfl⟩))
      generalize w.alloc (.cells #[.int .i64 2, .int .i64 frm, .int .i64 view, .int .i64 seq, .string op, .slice A L.length c] 34) = w1 at hK hb0 ⊢
      obtain ⟨I, f, hI, g0, gk, gc, ge⟩ := class_grown w1
      have x0 := fun s => kept_cell (gk s) (hK.cell (i := 0) rfl)
      have x1 := fun s => kept_cell (gk s) (hK.cell (i := 1) rfl)
      have x2 := fun s => kept_cell (gk s) (hK.cell (i := 2) rfl)
      have x3 := fun s => kept_cell (gk s) (hK.cell (i := 3) rfl)
      have x4 := fun s => kept_cell (gk s) (hK.cell (i := 4) rfl)
      have x5 := fun s => kept_cell (gk s) (hK.cell (i := 5) rfl)
      refine wp_region_kept f (by kernel_rfl) (by kernel_rfl) g0 ?_
      repeat (first
        | go_big_quiet_skip
        | (go_big_quiet_want; go_big_quiet_op; first
            | go_big_quiet_on
            | (apply Exists.intro; refine ⟨fun s => ?_, ?_⟩; (first | (go_at_call 102; (with_reducible refine (S1.out _).mono ?_); rintro e w4 ⟨rfl, rfl⟩; exact ⟨rfl, gc _ _ (Below.refl _ _)⟩) | (go_at_call 103; (with_reducible refine (S2.out _).mono ?_); rintro e w4 ⟨rfl, rfl⟩; exact ⟨rfl, gc _ _ (Below.refl _ _)⟩)); go_big_quiet_on)))
      refine wpQuiet_nil ?_
      intro w5 h5
      have hb5 := ge _ h5
      go_wp2
      go_ret
      exact ⟨rfl, hb0.trans (hb5.mono hb0.size)⟩
    have e5 : ((L.length : Int) == 0) = true := by have := of_decide_eq_true h5; simp; cases L <;> simp_all
    rw [h3, h4, h5] at HN2
    obtain rfl : Z = true := by rw [HN2.out]; simp
    clear HN2
    have hb0 := below_bx w (.cells #[.int .i64 2, .int .i64 frm, .int .i64 view, .int .i64 seq, .string op, .slice A L.length c] 34)
    have hK := Blk.fresh w 34 [.int .i64 2, .int .i64 frm, .int .i64 view, .int .i64 seq, .string op, .slice A L.length c]
    simp only [List.toArray] at hK
    go_enter Tryd.func78, Tryd.ntmps78
    go_wp2_with (first | (go_at_call 100; (with_reducible refine (I1.out _).mono ?_); rintro e w1 ⟨rfl, rfl⟩) | (go_at_call 101; (with_reducible refine (I2.out _).mono ?_); rintro e w1 ⟨rfl, rfl⟩))
    generalize w.alloc (.cells #[.int .i64 2, .int .i64 frm, .int .i64 view, .int .i64 seq, .string op, .slice A L.length c] 34) = w1 at hK hb0 ⊢
    obtain ⟨I, f, hI, g0, gk, gc, ge⟩ := class_grown w1
    have x0 := fun s => kept_cell (gk s) (hK.cell (i := 0) rfl)
    have x1 := fun s => kept_cell (gk s) (hK.cell (i := 1) rfl)
    have x2 := fun s => kept_cell (gk s) (hK.cell (i := 2) rfl)
    have x3 := fun s => kept_cell (gk s) (hK.cell (i := 3) rfl)
    have x4 := fun s => kept_cell (gk s) (hK.cell (i := 4) rfl)
    have x5 := fun s => kept_cell (gk s) (hK.cell (i := 5) rfl)
    refine wp_region_kept f (by kernel_rfl) (by kernel_rfl) g0 ?_
    repeat (first
      | go_big_quiet_skip
      | (go_big_quiet_want; go_big_quiet_op; first
          | go_big_quiet_on
          | (apply Exists.intro; refine ⟨fun s => ?_, ?_⟩; (first | (go_at_call 102; (with_reducible refine (S1.out _).mono ?_); rintro e w4 ⟨rfl, rfl⟩; exact ⟨rfl, gc _ _ (Below.refl _ _)⟩) | (go_at_call 103; (with_reducible refine (S2.out _).mono ?_); rintro e w4 ⟨rfl, rfl⟩; exact ⟨rfl, gc _ _ (Below.refl _ _)⟩)); go_big_quiet_on)))
    refine wpQuiet_nil ?_
    intro w5 h5
    have hb5 := ge _ h5
    go_wp2
    go_ret
    exact ⟨rfl, hb0.trans (hb5.mono hb0.size)⟩
  by_cases hk3 : kind = 3
  · subst hk3
    obtain rfl : Z = R1 := by rw [HZ.out, HN.out (by omega)]
    clear HN HC HW HO HC2 HW2 HZ
    rcases Bool.eq_false_or_eq_true (decide (1 ≤ seq ∧ seq ≤ 6)) with h3 | h3
    rotate_left
    · have S1 := Lib.hid (fun W => seq_any h3 W)
      rw [h3] at HN2
      obtain rfl : Z = false := by rw [HN2.out]; rfl
      clear HN2

      have hb0 := below_bx w (.cells #[.int .i64 3, .int .i64 frm, .int .i64 view, .int .i64 seq, .string op, .slice A L.length c] 34)
      have hK := Blk.fresh w 34 [.int .i64 3, .int .i64 frm, .int .i64 view, .int .i64 seq, .string op, .slice A L.length c]
      simp only [List.toArray] at hK
      go_enter Tryd.func78, Tryd.ntmps78
      go_wp2_with (first | (go_at_call 100; (with_reducible refine (I1.out _).mono ?_); rintro e w1 ⟨rfl, rfl⟩) | (go_at_call 101; (with_reducible refine (I2.out _).mono ?_); rintro e w1 ⟨rfl, rfl⟩))
      generalize w.alloc (.cells #[.int .i64 3, .int .i64 frm, .int .i64 view, .int .i64 seq, .string op, .slice A L.length c] 34) = w1 at hK hb0 ⊢
      obtain ⟨I, f, hI, g0, gk, gc, ge⟩ := class_grown w1
      have x0 := fun s => kept_cell (gk s) (hK.cell (i := 0) rfl)
      have x1 := fun s => kept_cell (gk s) (hK.cell (i := 1) rfl)
      have x2 := fun s => kept_cell (gk s) (hK.cell (i := 2) rfl)
      have x3 := fun s => kept_cell (gk s) (hK.cell (i := 3) rfl)
      have x4 := fun s => kept_cell (gk s) (hK.cell (i := 4) rfl)
      have x5 := fun s => kept_cell (gk s) (hK.cell (i := 5) rfl)
      refine wp_region_kept f (by kernel_rfl) (by kernel_rfl) g0 ?_
      repeat (first
        | go_big_quiet_skip
        | (go_big_quiet_want; go_big_quiet_op; first
            | go_big_quiet_on
            | (apply Exists.intro; refine ⟨fun s => ?_, ?_⟩; (first | (go_at_call 102; (with_reducible refine (S1.out _).mono ?_); rintro e w4 ⟨rfl, rfl⟩; exact ⟨rfl, gc _ _ (Below.refl _ _)⟩)); go_big_quiet_on)))
      refine wpQuiet_nil ?_
      intro w5 h5
      have hb5 := ge _ h5
      go_wp2
      go_ret
      exact ⟨rfl, hb0.trans (hb5.mono hb0.size)⟩
    have S1 := Lib.hid (fun W => seq_any h3 W)
    rcases Bool.eq_false_or_eq_true (decide (op.size ≤ 120)) with h4 | h4
    rotate_left
    · have S2 := Lib.hid (fun W => specOp_any f4 h4 W)
      rw [h3, h4] at HN2
      obtain rfl : Z = false := by rw [HN2.out]; rfl
      clear HN2
      have hb0 := below_bx w (.cells #[.int .i64 3, .int .i64 frm, .int .i64 view, .int .i64 seq, .string op, .slice A L.length c] 34)
      have hK := Blk.fresh w 34 [.int .i64 3, .int .i64 frm, .int .i64 view, .int .i64 seq, .string op, .slice A L.length c]
      simp only [List.toArray] at hK
      go_enter Tryd.func78, Tryd.ntmps78
      go_wp2_with (first | (go_at_call 100; (with_reducible refine (I1.out _).mono ?_); rintro e w1 ⟨rfl, rfl⟩) | (go_at_call 101; (with_reducible refine (I2.out _).mono ?_); rintro e w1 ⟨rfl, rfl⟩))
      generalize w.alloc (.cells #[.int .i64 3, .int .i64 frm, .int .i64 view, .int .i64 seq, .string op, .slice A L.length c] 34) = w1 at hK hb0 ⊢
      obtain ⟨I, f, hI, g0, gk, gc, ge⟩ := class_grown w1
      have x0 := fun s => kept_cell (gk s) (hK.cell (i := 0) rfl)
      have x1 := fun s => kept_cell (gk s) (hK.cell (i := 1) rfl)
      have x2 := fun s => kept_cell (gk s) (hK.cell (i := 2) rfl)
      have x3 := fun s => kept_cell (gk s) (hK.cell (i := 3) rfl)
      have x4 := fun s => kept_cell (gk s) (hK.cell (i := 4) rfl)
      have x5 := fun s => kept_cell (gk s) (hK.cell (i := 5) rfl)
      refine wp_region_kept f (by kernel_rfl) (by kernel_rfl) g0 ?_
      repeat (first
        | go_big_quiet_skip
        | (go_big_quiet_want; go_big_quiet_op; first
            | go_big_quiet_on
            | (apply Exists.intro; refine ⟨fun s => ?_, ?_⟩; (first | (go_at_call 102; (with_reducible refine (S1.out _).mono ?_); rintro e w4 ⟨rfl, rfl⟩; exact ⟨rfl, gc _ _ (Below.refl _ _)⟩) | (go_at_call 103; (with_reducible refine (S2.out _).mono ?_); rintro e w4 ⟨rfl, rfl⟩; exact ⟨rfl, gc _ _ (Below.refl _ _)⟩)); go_big_quiet_on)))
      refine wpQuiet_nil ?_
      intro w5 h5
      have hb5 := ge _ h5
      go_wp2
      go_ret
      exact ⟨rfl, hb0.trans (hb5.mono hb0.size)⟩
    have S2 := Lib.hid (fun W => specOp_any f4 h4 W)
    rcases Bool.eq_false_or_eq_true (decide (L.length = 0)) with h5 | h5
    rotate_left
    · have e5 : ((L.length : Int) == 0) = false := by have := of_decide_eq_false h5; simp; cases L <;> simp_all
      rw [h3, h4, h5] at HN2
      obtain rfl : Z = false := by rw [HN2.out]; rfl
      clear HN2
      have hb0 := below_bx w (.cells #[.int .i64 3, .int .i64 frm, .int .i64 view, .int .i64 seq, .string op, .slice A L.length c] 34)
      have hK := Blk.fresh w 34 [.int .i64 3, .int .i64 frm, .int .i64 view, .int .i64 seq, .string op, .slice A L.length c]
      simp only [List.toArray] at hK
      go_enter Tryd.func78, Tryd.ntmps78
      go_wp2_with (first | (go_at_call 100; (with_reducible refine (I1.out _).mono ?_); rintro e w1 ⟨rfl, rfl⟩) | (go_at_call 101; (with_reducible refine (I2.out _).mono ?_); rintro e w1 ⟨rfl, rfl⟩))
      generalize w.alloc (.cells #[.int .i64 3, .int .i64 frm, .int .i64 view, .int .i64 seq, .string op, .slice A L.length c] 34) = w1 at hK hb0 ⊢
      obtain ⟨I, f, hI, g0, gk, gc, ge⟩ := class_grown w1
      have x0 := fun s => kept_cell (gk s) (hK.cell (i := 0) rfl)
      have x1 := fun s => kept_cell (gk s) (hK.cell (i := 1) rfl)
      have x2 := fun s => kept_cell (gk s) (hK.cell (i := 2) rfl)
      have x3 := fun s => kept_cell (gk s) (hK.cell (i := 3) rfl)
      have x4 := fun s => kept_cell (gk s) (hK.cell (i := 4) rfl)
      have x5 := fun s => kept_cell (gk s) (hK.cell (i := 5) rfl)
      refine wp_region_kept f (by kernel_rfl) (by kernel_rfl) g0 ?_
      repeat (first
        | go_big_quiet_skip
        | (go_big_quiet_want; go_big_quiet_op; first
            | go_big_quiet_on
            | (apply Exists.intro; refine ⟨fun s => ?_, ?_⟩; (first | (go_at_call 102; (with_reducible refine (S1.out _).mono ?_); rintro e w4 ⟨rfl, rfl⟩; exact ⟨rfl, gc _ _ (Below.refl _ _)⟩) | (go_at_call 103; (with_reducible refine (S2.out _).mono ?_); rintro e w4 ⟨rfl, rfl⟩; exact ⟨rfl, gc _ _ (Below.refl _ _)⟩)); go_big_quiet_on)))
      refine wpQuiet_nil ?_
      intro w5 h5
      have hb5 := ge _ h5
      go_wp2
      go_ret
      exact ⟨rfl, hb0.trans (hb5.mono hb0.size)⟩
    have e5 : ((L.length : Int) == 0) = true := by have := of_decide_eq_true h5; simp; cases L <;> simp_all
    rw [h3, h4, h5] at HN2
    obtain rfl : Z = true := by rw [HN2.out]; simp
    clear HN2
    have hb0 := below_bx w (.cells #[.int .i64 3, .int .i64 frm, .int .i64 view, .int .i64 seq, .string op, .slice A L.length c] 34)
    have hK := Blk.fresh w 34 [.int .i64 3, .int .i64 frm, .int .i64 view, .int .i64 seq, .string op, .slice A L.length c]
    simp only [List.toArray] at hK
    go_enter Tryd.func78, Tryd.ntmps78
    go_wp2_with (first | (go_at_call 100; (with_reducible refine (I1.out _).mono ?_); rintro e w1 ⟨rfl, rfl⟩) | (go_at_call 101; (with_reducible refine (I2.out _).mono ?_); rintro e w1 ⟨rfl, rfl⟩))
    generalize w.alloc (.cells #[.int .i64 3, .int .i64 frm, .int .i64 view, .int .i64 seq, .string op, .slice A L.length c] 34) = w1 at hK hb0 ⊢
    obtain ⟨I, f, hI, g0, gk, gc, ge⟩ := class_grown w1
    have x0 := fun s => kept_cell (gk s) (hK.cell (i := 0) rfl)
    have x1 := fun s => kept_cell (gk s) (hK.cell (i := 1) rfl)
    have x2 := fun s => kept_cell (gk s) (hK.cell (i := 2) rfl)
    have x3 := fun s => kept_cell (gk s) (hK.cell (i := 3) rfl)
    have x4 := fun s => kept_cell (gk s) (hK.cell (i := 4) rfl)
    have x5 := fun s => kept_cell (gk s) (hK.cell (i := 5) rfl)
    refine wp_region_kept f (by kernel_rfl) (by kernel_rfl) g0 ?_
    repeat (first
      | go_big_quiet_skip
      | (go_big_quiet_want; go_big_quiet_op; first
          | go_big_quiet_on
          | (apply Exists.intro; refine ⟨fun s => ?_, ?_⟩; (first | (go_at_call 102; (with_reducible refine (S1.out _).mono ?_); rintro e w4 ⟨rfl, rfl⟩; exact ⟨rfl, gc _ _ (Below.refl _ _)⟩) | (go_at_call 103; (with_reducible refine (S2.out _).mono ?_); rintro e w4 ⟨rfl, rfl⟩; exact ⟨rfl, gc _ _ (Below.refl _ _)⟩)); go_big_quiet_on)))
    refine wpQuiet_nil ?_
    intro w5 h5
    have hb5 := ge _ h5
    go_wp2
    go_ret
    exact ⟨rfl, hb0.trans (hb5.mono hb0.size)⟩
  by_cases hk4 : kind = 4
  · subst hk4
    obtain rfl : Z = R2 := by rw [HZ.out, HC.out rfl]
    clear HN HC HW HO HN2 HW2 HZ LD
    rcases Bool.eq_false_or_eq_true (decide (1 ≤ view)) with h3 | h3
    rotate_left
    · rw [h3] at HC2
      obtain rfl : Z = false := by rw [HC2.out]; rfl
      clear HC2
      have hb0 := below_bx w (.cells #[.int .i64 4, .int .i64 frm, .int .i64 view, .int .i64 seq, .string op, .slice A L.length c] 34)
      have hK := Blk.fresh w 34 [.int .i64 4, .int .i64 frm, .int .i64 view, .int .i64 seq, .string op, .slice A L.length c]
      simp only [List.toArray] at hK
      go_enter Tryd.func78, Tryd.ntmps78
      go_wp2_with (first | (go_at_call 100; (with_reducible refine (I1.out _).mono ?_); rintro e w1 ⟨rfl, rfl⟩) | (go_at_call 101; (with_reducible refine (I2.out _).mono ?_); rintro e w1 ⟨rfl, rfl⟩))
      generalize w.alloc (.cells #[.int .i64 4, .int .i64 frm, .int .i64 view, .int .i64 seq, .string op, .slice A L.length c] 34) = w1 at hK hb0 ⊢
      obtain ⟨I, f, hI, g0, gk, gc, ge⟩ := class_grown w1
      have x0 := fun s => kept_cell (gk s) (hK.cell (i := 0) rfl)
      have x1 := fun s => kept_cell (gk s) (hK.cell (i := 1) rfl)
      have x2 := fun s => kept_cell (gk s) (hK.cell (i := 2) rfl)
      have x3 := fun s => kept_cell (gk s) (hK.cell (i := 3) rfl)
      have x4 := fun s => kept_cell (gk s) (hK.cell (i := 4) rfl)
      have x5 := fun s => kept_cell (gk s) (hK.cell (i := 5) rfl)
      refine wp_region_kept f (by kernel_rfl) (by kernel_rfl) g0 ?_
      repeat (first
        | go_big_quiet_skip
        | (go_big_quiet_want; go_big_quiet_op; first
            | go_big_quiet_on))
      refine wpQuiet_nil ?_
      intro w5 h5
      have hb5 := ge _ h5
      go_wp2
      go_ret
      exact ⟨rfl, hb0.trans (hb5.mono hb0.size)⟩
    rcases Bool.eq_false_or_eq_true (decide (seq = 0)) with h4 | h4
    rotate_left
    · have e4 : (seq == 0) = false := by have := of_decide_eq_false h4; simp; exact this
      rw [h3, h4] at HC2
      obtain rfl : Z = false := by rw [HC2.out]; rfl
      clear HC2
      have hb0 := below_bx w (.cells #[.int .i64 4, .int .i64 frm, .int .i64 view, .int .i64 seq, .string op, .slice A L.length c] 34)
      have hK := Blk.fresh w 34 [.int .i64 4, .int .i64 frm, .int .i64 view, .int .i64 seq, .string op, .slice A L.length c]
      simp only [List.toArray] at hK
      go_enter Tryd.func78, Tryd.ntmps78
      go_wp2_with (first | (go_at_call 100; (with_reducible refine (I1.out _).mono ?_); rintro e w1 ⟨rfl, rfl⟩) | (go_at_call 101; (with_reducible refine (I2.out _).mono ?_); rintro e w1 ⟨rfl, rfl⟩))
      generalize w.alloc (.cells #[.int .i64 4, .int .i64 frm, .int .i64 view, .int .i64 seq, .string op, .slice A L.length c] 34) = w1 at hK hb0 ⊢
      obtain ⟨I, f, hI, g0, gk, gc, ge⟩ := class_grown w1
      have x0 := fun s => kept_cell (gk s) (hK.cell (i := 0) rfl)
      have x1 := fun s => kept_cell (gk s) (hK.cell (i := 1) rfl)
      have x2 := fun s => kept_cell (gk s) (hK.cell (i := 2) rfl)
      have x3 := fun s => kept_cell (gk s) (hK.cell (i := 3) rfl)
      have x4 := fun s => kept_cell (gk s) (hK.cell (i := 4) rfl)
      have x5 := fun s => kept_cell (gk s) (hK.cell (i := 5) rfl)
      refine wp_region_kept f (by kernel_rfl) (by kernel_rfl) g0 ?_
      repeat (first
        | go_big_quiet_skip
        | (go_big_quiet_want; go_big_quiet_op; first
            | go_big_quiet_on))
      refine wpQuiet_nil ?_
      intro w5 h5
      have hb5 := ge _ h5
      go_wp2
      go_ret
      exact ⟨rfl, hb0.trans (hb5.mono hb0.size)⟩
    obtain rfl : seq = 0 := of_decide_eq_true h4
    rcases Bool.eq_false_or_eq_true (decide (op.size = 0)) with h5 | h5
    rotate_left
    · have e5 : (op.toList == []) = false := empty_list h5
      rw [h3, h4, h5] at HC2
      obtain rfl : Z = false := by rw [HC2.out]; rfl
      clear HC2
      have hb0 := below_bx w (.cells #[.int .i64 4, .int .i64 frm, .int .i64 view, .int .i64 0, .string op, .slice A L.length c] 34)
      have hK := Blk.fresh w 34 [.int .i64 4, .int .i64 frm, .int .i64 view, .int .i64 0, .string op, .slice A L.length c]
      simp only [List.toArray] at hK
      go_enter Tryd.func78, Tryd.ntmps78
      go_wp2_with (first | (go_at_call 100; (with_reducible refine (I1.out _).mono ?_); rintro e w1 ⟨rfl, rfl⟩) | (go_at_call 101; (with_reducible refine (I2.out _).mono ?_); rintro e w1 ⟨rfl, rfl⟩))
      generalize w.alloc (.cells #[.int .i64 4, .int .i64 frm, .int .i64 view, .int .i64 0, .string op, .slice A L.length c] 34) = w1 at hK hb0 ⊢
      obtain ⟨I, f, hI, g0, gk, gc, ge⟩ := class_grown w1
      have x0 := fun s => kept_cell (gk s) (hK.cell (i := 0) rfl)
      have x1 := fun s => kept_cell (gk s) (hK.cell (i := 1) rfl)
      have x2 := fun s => kept_cell (gk s) (hK.cell (i := 2) rfl)
      have x3 := fun s => kept_cell (gk s) (hK.cell (i := 3) rfl)
      have x4 := fun s => kept_cell (gk s) (hK.cell (i := 4) rfl)
      have x5 := fun s => kept_cell (gk s) (hK.cell (i := 5) rfl)
      refine wp_region_kept f (by kernel_rfl) (by kernel_rfl) g0 ?_
      repeat (first
        | go_big_quiet_skip
        | (go_big_quiet_want; go_big_quiet_op; first
            | go_big_quiet_on))
      refine wpQuiet_nil ?_
      intro w5 h5
      have hb5 := ge _ h5
      go_wp2
      go_ret
      exact ⟨rfl, hb0.trans (hb5.mono hb0.size)⟩
    obtain rfl := empty_eq h5
    rw [h3, h4, h5] at HC2
    by_cases hl : L.length = 1
    rotate_left
    · have e6 : ((L.length : Int) == 1) = false := by simp; omega
      obtain rfl : Z = false := by rw [HC2.out, oneB_len hl]; rfl
      clear HC2 hl
      have hb0 := below_bx w (.cells #[.int .i64 4, .int .i64 frm, .int .i64 view, .int .i64 0, .string ⟨#[]⟩, .slice A L.length c] 34)
      have hK := Blk.fresh w 34 [.int .i64 4, .int .i64 frm, .int .i64 view, .int .i64 0, .string ⟨#[]⟩, .slice A L.length c]
      simp only [List.toArray] at hK
      go_enter Tryd.func78, Tryd.ntmps78
      go_wp2_with (first | (go_at_call 100; (with_reducible refine (I1.out _).mono ?_); rintro e w1 ⟨rfl, rfl⟩) | (go_at_call 101; (with_reducible refine (I2.out _).mono ?_); rintro e w1 ⟨rfl, rfl⟩))
      generalize w.alloc (.cells #[.int .i64 4, .int .i64 frm, .int .i64 view, .int .i64 0, .string ⟨#[]⟩, .slice A L.length c] 34) = w1 at hK hb0 ⊢
      obtain ⟨I, f, hI, g0, gk, gc, ge⟩ := class_grown w1
      have x0 := fun s => kept_cell (gk s) (hK.cell (i := 0) rfl)
      have x1 := fun s => kept_cell (gk s) (hK.cell (i := 1) rfl)
      have x2 := fun s => kept_cell (gk s) (hK.cell (i := 2) rfl)
      have x3 := fun s => kept_cell (gk s) (hK.cell (i := 3) rfl)
      have x4 := fun s => kept_cell (gk s) (hK.cell (i := 4) rfl)
      have x5 := fun s => kept_cell (gk s) (hK.cell (i := 5) rfl)
      refine wp_region_kept f (by kernel_rfl) (by kernel_rfl) g0 ?_
      repeat (first
        | go_big_quiet_skip
        | (go_big_quiet_want; go_big_quiet_op; first
            | go_big_quiet_on))
      refine wpQuiet_nil ?_
      intro w5 h5
      have hb5 := ge _ h5
      go_wp2
      go_ret
      exact ⟨rfl, hb0.trans (hb5.mono hb0.size)⟩
    obtain ⟨c0, rfl⟩ := len_one hl
    obtain ⟨a, rfl, hab, C, c1, a0, a1, a2, hC⟩ := hA.at 0 (by simp)
    have hf0 := f5 c0 (by simp)
    simp only [List.getElem_cons_zero] at a0 a1 a2 hC
    obtain ⟨cf, cv, Q⟩ := c0
    simp only at a0 a1 a2 hC
    replace a0 : w.cell? a = some (.int .i64 cf) := by simpa [Addr.add] using a0
    replace a1 : w.cell? ⟨a.block, a.off + 1, none⟩ = some (.int .i64 cv) := by simpa [Addr.add] using a1
    replace a2 : w.cell? ⟨a.block, a.off + 2, none⟩ = some (.slice C Q.length c1) := by simpa [Addr.add] using a2
    have HC3 : Hid (Z = (cngB ⟨cf, cv, Q⟩ && (decide (cf = frm) && decide (cv = view)))) := Lib.hid (by rw [HC2.out]; rfl)
    have CRT := Lib.hid (fun W (h : Below w.heap.size w W) => specChangeRight_any ⟨cf, cv, Q⟩ C c1 W hf0 (hC.on h))
    clear HC2 hl

    rcases Bool.eq_false_or_eq_true (cngB ⟨cf, cv, Q⟩) with h6 | h6
    rotate_left
    · rw [h6] at HC3 CRT
      obtain rfl : Z = false := by rw [HC3.out]; rfl
      clear HC3
      have hb0 := below_bx w (.cells #[.int .i64 4, .int .i64 frm, .int .i64 view, .int .i64 0, .string ⟨#[]⟩, .slice (some a) 1 c] 34)
      have hK := Blk.fresh w 34 [.int .i64 4, .int .i64 frm, .int .i64 view, .int .i64 0, .string ⟨#[]⟩, .slice (some a) 1 c]
      simp only [List.toArray] at hK
      go_enter Tryd.func78, Tryd.ntmps78
      go_wp2_with (first | (go_at_call 100; (with_reducible refine (I1.out _).mono ?_); rintro e w1 ⟨rfl, rfl⟩) | (go_at_call 101; (with_reducible refine (I2.out _).mono ?_); rintro e w1 ⟨rfl, rfl⟩))
      generalize w.alloc (.cells #[.int .i64 4, .int .i64 frm, .int .i64 view, .int .i64 0, .string ⟨#[]⟩, .slice (some a) 1 c] 34) = w1 at hK hb0 ⊢
      obtain ⟨I, f, hI, g0, gk, gc, ge⟩ := class_grown w1
      have x0 := fun s => kept_cell (gk s) (hK.cell (i := 0) rfl)
      have x1 := fun s => kept_cell (gk s) (hK.cell (i := 1) rfl)
      have x2 := fun s => kept_cell (gk s) (hK.cell (i := 2) rfl)
      have x3 := fun s => kept_cell (gk s) (hK.cell (i := 3) rfl)
      have x4 := fun s => kept_cell (gk s) (hK.cell (i := 4) rfl)
      have x5 := fun s => kept_cell (gk s) (hK.cell (i := 5) rfl)
      have y0 := fun s => kept_cell (hb0.trans ((gk s).mono hb0.size)) a0
      have y1 := fun s => kept_cell (hb0.trans ((gk s).mono hb0.size)) a1
      have y2 := fun s => kept_cell (hb0.trans ((gk s).mono hb0.size)) a2
      have CT := Lib.hid (fun s => CRT.out (f s) (hb0.trans ((gk s).mono hb0.size)))
      clear a0 a1 a2
      refine wp_region_kept f (by kernel_rfl) (by kernel_rfl) g0 ?_
      repeat (first
        | go_big_quiet_skip
        | (go_big_quiet_want; go_big_quiet_op; first
            | go_big_quiet_on
            | (apply Exists.intro; refine ⟨fun s => ?_, ?_⟩; (first | (go_at_call 105; (with_reducible refine (CT.out _).mono ?_); rintro e w4 ⟨rfl, hb4⟩; exact ⟨rfl, gc _ _ hb4⟩)); go_big_quiet_on)))
      refine wpQuiet_nil ?_
      intro w5 h5
      have hb5 := ge _ h5
      go_wp2
      go_ret
      exact ⟨rfl, hb0.trans (hb5.mono hb0.size)⟩
    rw [h6] at HC3 CRT
    rcases Bool.eq_false_or_eq_true (decide (cf = frm)) with h7 | h7
    rotate_left
    · have e7 : (cf == frm) = false := by have := of_decide_eq_false h7; simp; exact this
      rw [h7] at HC3
      obtain rfl : Z = false := by rw [HC3.out]; rfl
      clear HC3
      have hb0 := below_bx w (.cells #[.int .i64 4, .int .i64 frm, .int .i64 view, .int .i64 0, .string ⟨#[]⟩, .slice (some a) 1 c] 34)
      have hK := Blk.fresh w 34 [.int .i64 4, .int .i64 frm, .int .i64 view, .int .i64 0, .string ⟨#[]⟩, .slice (some a) 1 c]
      simp only [List.toArray] at hK
      go_enter Tryd.func78, Tryd.ntmps78
      go_wp2_with (first | (go_at_call 100; (with_reducible refine (I1.out _).mono ?_); rintro e w1 ⟨rfl, rfl⟩) | (go_at_call 101; (with_reducible refine (I2.out _).mono ?_); rintro e w1 ⟨rfl, rfl⟩))
      generalize w.alloc (.cells #[.int .i64 4, .int .i64 frm, .int .i64 view, .int .i64 0, .string ⟨#[]⟩, .slice (some a) 1 c] 34) = w1 at hK hb0 ⊢
      obtain ⟨I, f, hI, g0, gk, gc, ge⟩ := class_grown w1
      have x0 := fun s => kept_cell (gk s) (hK.cell (i := 0) rfl)
      have x1 := fun s => kept_cell (gk s) (hK.cell (i := 1) rfl)
      have x2 := fun s => kept_cell (gk s) (hK.cell (i := 2) rfl)
      have x3 := fun s => kept_cell (gk s) (hK.cell (i := 3) rfl)
      have x4 := fun s => kept_cell (gk s) (hK.cell (i := 4) rfl)
      have x5 := fun s => kept_cell (gk s) (hK.cell (i := 5) rfl)
      have y0 := fun s => kept_cell (hb0.trans ((gk s).mono hb0.size)) a0
      have y1 := fun s => kept_cell (hb0.trans ((gk s).mono hb0.size)) a1
      have y2 := fun s => kept_cell (hb0.trans ((gk s).mono hb0.size)) a2
      have CT := Lib.hid (fun s => CRT.out (f s) (hb0.trans ((gk s).mono hb0.size)))
      clear a0 a1 a2
      refine wp_region_kept f (by kernel_rfl) (by kernel_rfl) g0 ?_
      repeat (first
        | go_big_quiet_skip
        | (go_big_quiet_want; go_big_quiet_op; first
            | go_big_quiet_on
            | (apply Exists.intro; refine ⟨fun s => ?_, ?_⟩; (first | (go_at_call 105; (with_reducible refine (CT.out _).mono ?_); rintro e w4 ⟨rfl, hb4⟩; exact ⟨rfl, gc _ _ hb4⟩)); go_big_quiet_on)))
      refine wpQuiet_nil ?_
      intro w5 h5
      have hb5 := ge _ h5
      go_wp2
      go_ret
      exact ⟨rfl, hb0.trans (hb5.mono hb0.size)⟩
    have e7 : (cf == frm) = true := by have := of_decide_eq_true h7; simp; exact this
    rw [h7] at HC3
    rcases Bool.eq_false_or_eq_true (decide (cv = view)) with h8 | h8
    rotate_left
    · have e8 : (cv == view) = false := by have := of_decide_eq_false h8; simp; exact this
      rw [h8] at HC3
      obtain rfl : Z = false := by rw [HC3.out]; rfl
      clear HC3
      have hb0 := below_bx w (.cells #[.int .i64 4, .int .i64 frm, .int .i64 view, .int .i64 0, .string ⟨#[]⟩, .slice (some a) 1 c] 34)
      have hK := Blk.fresh w 34 [.int .i64 4, .int .i64 frm, .int .i64 view, .int .i64 0, .string ⟨#[]⟩, .slice (some a) 1 c]
      simp only [List.toArray] at hK
      go_enter Tryd.func78, Tryd.ntmps78
      go_wp2_with (first | (go_at_call 100; (with_reducible refine (I1.out _).mono ?_); rintro e w1 ⟨rfl, rfl⟩) | (go_at_call 101; (with_reducible refine (I2.out _).mono ?_); rintro e w1 ⟨rfl, rfl⟩))
      generalize w.alloc (.cells #[.int .i64 4, .int .i64 frm, .int .i64 view, .int .i64 0, .string ⟨#[]⟩, .slice (some a) 1 c] 34) = w1 at hK hb0 ⊢
      obtain ⟨I, f, hI, g0, gk, gc, ge⟩ := class_grown w1
      have x0 := fun s => kept_cell (gk s) (hK.cell (i := 0) rfl)
      have x1 := fun s => kept_cell (gk s) (hK.cell (i := 1) rfl)
      have x2 := fun s => kept_cell (gk s) (hK.cell (i := 2) rfl)
      have x3 := fun s => kept_cell (gk s) (hK.cell (i := 3) rfl)
      have x4 := fun s => kept_cell (gk s) (hK.cell (i := 4) rfl)
      have x5 := fun s => kept_cell (gk s) (hK.cell (i := 5) rfl)
      have y0 := fun s => kept_cell (hb0.trans ((gk s).mono hb0.size)) a0
      have y1 := fun s => kept_cell (hb0.trans ((gk s).mono hb0.size)) a1
      have y2 := fun s => kept_cell (hb0.trans ((gk s).mono hb0.size)) a2
      have CT := Lib.hid (fun s => CRT.out (f s) (hb0.trans ((gk s).mono hb0.size)))
      clear a0 a1 a2
      refine wp_region_kept f (by kernel_rfl) (by kernel_rfl) g0 ?_
      repeat (first
        | go_big_quiet_skip
        | (go_big_quiet_want; go_big_quiet_op; first
            | go_big_quiet_on
            | (apply Exists.intro; refine ⟨fun s => ?_, ?_⟩; (first | (go_at_call 105; (with_reducible refine (CT.out _).mono ?_); rintro e w4 ⟨rfl, hb4⟩; exact ⟨rfl, gc _ _ hb4⟩)); go_big_quiet_on)))
      refine wpQuiet_nil ?_
      intro w5 h5
      have hb5 := ge _ h5
      go_wp2
      go_ret
      exact ⟨rfl, hb0.trans (hb5.mono hb0.size)⟩
    have e8 : (cv == view) = true := by have := of_decide_eq_true h8; simp; exact this
    rw [h8] at HC3
    obtain rfl : Z = true := by rw [HC3.out]; rfl
    clear HC3
    have hb0 := below_bx w (.cells #[.int .i64 4, .int .i64 frm, .int .i64 view, .int .i64 0, .string ⟨#[]⟩, .slice (some a) 1 c] 34)
    have hK := Blk.fresh w 34 [.int .i64 4, .int .i64 frm, .int .i64 view, .int .i64 0, .string ⟨#[]⟩, .slice (some a) 1 c]
    simp only [List.toArray] at hK
    go_enter Tryd.func78, Tryd.ntmps78
    go_wp2_with (first | (go_at_call 100; (with_reducible refine (I1.out _).mono ?_); rintro e w1 ⟨rfl, rfl⟩) | (go_at_call 101; (with_reducible refine (I2.out _).mono ?_); rintro e w1 ⟨rfl, rfl⟩))
    generalize w.alloc (.cells #[.int .i64 4, .int .i64 frm, .int .i64 view, .int .i64 0, .string ⟨#[]⟩, .slice (some a) 1 c] 34) = w1 at hK hb0 ⊢
    obtain ⟨I, f, hI, g0, gk, gc, ge⟩ := class_grown w1
    have x0 := fun s => kept_cell (gk s) (hK.cell (i := 0) rfl)
    have x1 := fun s => kept_cell (gk s) (hK.cell (i := 1) rfl)
    have x2 := fun s => kept_cell (gk s) (hK.cell (i := 2) rfl)
    have x3 := fun s => kept_cell (gk s) (hK.cell (i := 3) rfl)
    have x4 := fun s => kept_cell (gk s) (hK.cell (i := 4) rfl)
    have x5 := fun s => kept_cell (gk s) (hK.cell (i := 5) rfl)
    have y0 := fun s => kept_cell (hb0.trans ((gk s).mono hb0.size)) a0
    have y1 := fun s => kept_cell (hb0.trans ((gk s).mono hb0.size)) a1
    have y2 := fun s => kept_cell (hb0.trans ((gk s).mono hb0.size)) a2
    have CT := Lib.hid (fun s => CRT.out (f s) (hb0.trans ((gk s).mono hb0.size)))
    clear a0 a1 a2
    refine wp_region_kept f (by kernel_rfl) (by kernel_rfl) g0 ?_
    repeat (first
      | go_big_quiet_skip
      | (go_big_quiet_want; go_big_quiet_op; first
          | go_big_quiet_on
          | (apply Exists.intro; refine ⟨fun s => ?_, ?_⟩; (first | (go_at_call 105; (with_reducible refine (CT.out _).mono ?_); rintro e w4 ⟨rfl, hb4⟩; exact ⟨rfl, gc _ _ hb4⟩)); go_big_quiet_on)))
    refine wpQuiet_nil ?_
    intro w5 h5
    have hb5 := ge _ h5
    go_wp2
    go_ret
    exact ⟨rfl, hb0.trans (hb5.mono hb0.size)⟩

  by_cases hk5 : kind = 5
  · subst hk5
    obtain rfl : Z = R3 := by rw [HZ.out, HW.out rfl]
    clear HN HC HW HO HN2 HC2 HZ
    have CHS := Lib.hid (fun W (h : Below w.heap.size w W) => specChanges_any L view A c W f5 (hA.on h))
    rcases Bool.eq_false_or_eq_true (decide (1 ≤ view)) with h3 | h3
    rotate_left
    · rw [h3] at HW2
      obtain rfl : Z = false := by rw [HW2.out]; rfl
      clear HW2
      have hb0 := below_bx w (.cells #[.int .i64 5, .int .i64 frm, .int .i64 view, .int .i64 seq, .string op, .slice A L.length c] 34)
      have hK := Blk.fresh w 34 [.int .i64 5, .int .i64 frm, .int .i64 view, .int .i64 seq, .string op, .slice A L.length c]
      simp only [List.toArray] at hK
      go_enter Tryd.func78, Tryd.ntmps78
      go_wp2_with (first | (go_at_call 100; (with_reducible refine (I1.out _).mono ?_); rintro e w1 ⟨rfl, rfl⟩) | (go_at_call 101; (with_reducible refine (I2.out _).mono ?_); rintro e w1 ⟨rfl, rfl⟩))
      generalize w.alloc (.cells #[.int .i64 5, .int .i64 frm, .int .i64 view, .int .i64 seq, .string op, .slice A L.length c] 34) = w1 at hK hb0 ⊢
      obtain ⟨I, f, hI, g0, gk, gc, ge⟩ := class_grown w1
      have x0 := fun s => kept_cell (gk s) (hK.cell (i := 0) rfl)
      have x1 := fun s => kept_cell (gk s) (hK.cell (i := 1) rfl)
      have x2 := fun s => kept_cell (gk s) (hK.cell (i := 2) rfl)
      have x3 := fun s => kept_cell (gk s) (hK.cell (i := 3) rfl)
      have x4 := fun s => kept_cell (gk s) (hK.cell (i := 4) rfl)
      have x5 := fun s => kept_cell (gk s) (hK.cell (i := 5) rfl)
      refine wp_region_kept f (by kernel_rfl) (by kernel_rfl) g0 ?_
      repeat (first
        | go_big_quiet_skip
        | (go_big_quiet_want; go_big_quiet_op; first
            | go_big_quiet_on))
      refine wpQuiet_nil ?_
      intro w5 h5
      have hb5 := ge _ h5
      go_wp2
      go_ret
      exact ⟨rfl, hb0.trans (hb5.mono hb0.size)⟩
    by_cases hl : frm = ld
    rotate_left
    · have e6 : (frm == ld) = false := by simp [hl]
      obtain rfl : Z = false := by rw [HW2.out, decide_eq_false hl]; simp
      clear HW2 hl
      have hb0 := below_bx w (.cells #[.int .i64 5, .int .i64 frm, .int .i64 view, .int .i64 seq, .string op, .slice A L.length c] 34)
      have hK := Blk.fresh w 34 [.int .i64 5, .int .i64 frm, .int .i64 view, .int .i64 seq, .string op, .slice A L.length c]
      simp only [List.toArray] at hK
      go_enter Tryd.func78, Tryd.ntmps78
      go_wp2_with (first | (go_at_call 100; (with_reducible refine (I1.out _).mono ?_); rintro e w1 ⟨rfl, rfl⟩) | (go_at_call 101; (with_reducible refine (I2.out _).mono ?_); rintro e w1 ⟨rfl, rfl⟩))
      generalize w.alloc (.cells #[.int .i64 5, .int .i64 frm, .int .i64 view, .int .i64 seq, .string op, .slice A L.length c] 34) = w1 at hK hb0 ⊢
      obtain ⟨I, f, hI, g0, gk, gc, ge⟩ := class_grown w1
      have x0 := fun s => kept_cell (gk s) (hK.cell (i := 0) rfl)
      have x1 := fun s => kept_cell (gk s) (hK.cell (i := 1) rfl)
      have x2 := fun s => kept_cell (gk s) (hK.cell (i := 2) rfl)
      have x3 := fun s => kept_cell (gk s) (hK.cell (i := 3) rfl)
      have x4 := fun s => kept_cell (gk s) (hK.cell (i := 4) rfl)
      have x5 := fun s => kept_cell (gk s) (hK.cell (i := 5) rfl)
      refine wp_region_kept f (by kernel_rfl) (by kernel_rfl) g0 ?_
      repeat (first
        | go_big_quiet_skip
        | (go_big_quiet_want; go_big_quiet_op; first
            | go_big_quiet_on
            | (apply Exists.intro; refine ⟨fun s => ?_, ?_⟩; (first | (go_at_call 104; (with_reducible refine (LD.out _).mono ?_); rintro e w4 ⟨rfl, rfl⟩; exact ⟨rfl, gc _ _ (Below.refl _ _)⟩)); go_big_quiet_on)))
      refine wpQuiet_nil ?_
      intro w5 h5
      have hb5 := ge _ h5
      go_wp2
      go_ret
      exact ⟨rfl, hb0.trans (hb5.mono hb0.size)⟩
    have e6 : (frm == ld) = true := by simp [hl]
    rw [decide_eq_true hl] at HW2
    rcases Bool.eq_false_or_eq_true (decide (seq = 0)) with h4 | h4
    rotate_left
    · have e4 : (seq == 0) = false := by have := of_decide_eq_false h4; simp; exact this
      rw [h3, h4] at HW2
      obtain rfl : Z = false := by rw [HW2.out]; rfl
      clear HW2 hl
      have hb0 := below_bx w (.cells #[.int .i64 5, .int .i64 frm, .int .i64 view, .int .i64 seq, .string op, .slice A L.length c] 34)
      have hK := Blk.fresh w 34 [.int .i64 5, .int .i64 frm, .int .i64 view, .int .i64 seq, .string op, .slice A L.length c]
      simp only [List.toArray] at hK
      go_enter Tryd.func78, Tryd.ntmps78
      go_wp2_with (first | (go_at_call 100; (with_reducible refine (I1.out _).mono ?_); rintro e w1 ⟨rfl, rfl⟩) | (go_at_call 101; (with_reducible refine (I2.out _).mono ?_); rintro e w1 ⟨rfl, rfl⟩))
      generalize w.alloc (.cells #[.int .i64 5, .int .i64 frm, .int .i64 view, .int .i64 seq, .string op, .slice A L.length c] 34) = w1 at hK hb0 ⊢
      obtain ⟨I, f, hI, g0, gk, gc, ge⟩ := class_grown w1
      have x0 := fun s => kept_cell (gk s) (hK.cell (i := 0) rfl)
      have x1 := fun s => kept_cell (gk s) (hK.cell (i := 1) rfl)
      have x2 := fun s => kept_cell (gk s) (hK.cell (i := 2) rfl)
      have x3 := fun s => kept_cell (gk s) (hK.cell (i := 3) rfl)
      have x4 := fun s => kept_cell (gk s) (hK.cell (i := 4) rfl)
      have x5 := fun s => kept_cell (gk s) (hK.cell (i := 5) rfl)
      refine wp_region_kept f (by kernel_rfl) (by kernel_rfl) g0 ?_
      repeat (first
        | go_big_quiet_skip
        | (go_big_quiet_want; go_big_quiet_op; first
            | go_big_quiet_on
            | (apply Exists.intro; refine ⟨fun s => ?_, ?_⟩; (first | (go_at_call 104; (with_reducible refine (LD.out _).mono ?_); rintro e w4 ⟨rfl, rfl⟩; exact ⟨rfl, gc _ _ (Below.refl _ _)⟩)); go_big_quiet_on)))
      refine wpQuiet_nil ?_
      intro w5 h5
      have hb5 := ge _ h5
      go_wp2
      go_ret
      exact ⟨rfl, hb0.trans (hb5.mono hb0.size)⟩
    obtain rfl : seq = 0 := of_decide_eq_true h4
    rcases Bool.eq_false_or_eq_true (decide (op.size = 0)) with h5 | h5
    rotate_left
    · have e5 : (op.toList == []) = false := empty_list h5
      rw [h3, h4, h5] at HW2
      obtain rfl : Z = false := by rw [HW2.out]; rfl
      clear HW2 hl
      have hb0 := below_bx w (.cells #[.int .i64 5, .int .i64 frm, .int .i64 view, .int .i64 0, .string op, .slice A L.length c] 34)
      have hK := Blk.fresh w 34 [.int .i64 5, .int .i64 frm, .int .i64 view, .int .i64 0, .string op, .slice A L.length c]
      simp only [List.toArray] at hK
      go_enter Tryd.func78, Tryd.ntmps78
      go_wp2_with (first | (go_at_call 100; (with_reducible refine (I1.out _).mono ?_); rintro e w1 ⟨rfl, rfl⟩) | (go_at_call 101; (with_reducible refine (I2.out _).mono ?_); rintro e w1 ⟨rfl, rfl⟩))
      generalize w.alloc (.cells #[.int .i64 5, .int .i64 frm, .int .i64 view, .int .i64 0, .string op, .slice A L.length c] 34) = w1 at hK hb0 ⊢
      obtain ⟨I, f, hI, g0, gk, gc, ge⟩ := class_grown w1
      have x0 := fun s => kept_cell (gk s) (hK.cell (i := 0) rfl)
      have x1 := fun s => kept_cell (gk s) (hK.cell (i := 1) rfl)
      have x2 := fun s => kept_cell (gk s) (hK.cell (i := 2) rfl)
      have x3 := fun s => kept_cell (gk s) (hK.cell (i := 3) rfl)
      have x4 := fun s => kept_cell (gk s) (hK.cell (i := 4) rfl)
      have x5 := fun s => kept_cell (gk s) (hK.cell (i := 5) rfl)
      refine wp_region_kept f (by kernel_rfl) (by kernel_rfl) g0 ?_
      repeat (first
        | go_big_quiet_skip
        | (go_big_quiet_want; go_big_quiet_op; first
            | go_big_quiet_on
            | (apply Exists.intro; refine ⟨fun s => ?_, ?_⟩; (first | (go_at_call 104; (with_reducible refine (LD.out _).mono ?_); rintro e w4 ⟨rfl, rfl⟩; exact ⟨rfl, gc _ _ (Below.refl _ _)⟩)); go_big_quiet_on)))
      refine wpQuiet_nil ?_
      intro w5 h5
      have hb5 := ge _ h5
      go_wp2
      go_ret
      exact ⟨rfl, hb0.trans (hb5.mono hb0.size)⟩
    obtain rfl := empty_eq h5
    rw [h3, h4, h5] at HW2
    obtain rfl : Z = (cr view (-1) L && decide (3 ≤ L.length)) := by rw [HW2.out]; rfl
    clear HW2 hl
    generalize (cr view (-1) L && decide (3 ≤ L.length)) = Z at CHS ⊢
    have hb0 := below_bx w (.cells #[.int .i64 5, .int .i64 frm, .int .i64 view, .int .i64 0, .string ⟨#[]⟩, .slice A L.length c] 34)
    have hK := Blk.fresh w 34 [.int .i64 5, .int .i64 frm, .int .i64 view, .int .i64 0, .string ⟨#[]⟩, .slice A L.length c]
    simp only [List.toArray] at hK
    go_enter Tryd.func78, Tryd.ntmps78
    go_wp2_with (first | (go_at_call 100; (with_reducible refine (I1.out _).mono ?_); rintro e w1 ⟨rfl, rfl⟩) | (go_at_call 101; (with_reducible refine (I2.out _).mono ?_); rintro e w1 ⟨rfl, rfl⟩))
    generalize w.alloc (.cells #[.int .i64 5, .int .i64 frm, .int .i64 view, .int .i64 0, .string ⟨#[]⟩, .slice A L.length c] 34) = w1 at hK hb0 ⊢
    obtain ⟨I, f, hI, g0, gk, gc, ge⟩ := class_grown w1
    have x0 := fun s => kept_cell (gk s) (hK.cell (i := 0) rfl)
    have x1 := fun s => kept_cell (gk s) (hK.cell (i := 1) rfl)
    have x2 := fun s => kept_cell (gk s) (hK.cell (i := 2) rfl)
    have x3 := fun s => kept_cell (gk s) (hK.cell (i := 3) rfl)
    have x4 := fun s => kept_cell (gk s) (hK.cell (i := 4) rfl)
    have x5 := fun s => kept_cell (gk s) (hK.cell (i := 5) rfl)
    have CT := Lib.hid (fun s => CHS.out (f s) (hb0.trans ((gk s).mono hb0.size)))
    refine wp_region_kept f (by kernel_rfl) (by kernel_rfl) g0 ?_
    repeat (first
      | go_big_quiet_skip
      | (go_big_quiet_want; go_big_quiet_op; first
          | go_big_quiet_on
          | (apply Exists.intro; refine ⟨fun s => ?_, ?_⟩; (first | (go_at_call 104; (with_reducible refine (LD.out _).mono ?_); rintro e w4 ⟨rfl, rfl⟩; exact ⟨rfl, gc _ _ (Below.refl _ _)⟩) | (go_at_call 106; (with_reducible refine (CT.out _).mono ?_); rintro e w4 ⟨rfl, hb4⟩; exact ⟨rfl, gc _ _ hb4⟩)); go_big_quiet_on)))
    refine wpQuiet_nil ?_
    intro w5 h5
    have hb5 := ge _ h5
    go_wp2
    go_ret
    exact ⟨rfl, hb0.trans (hb5.mono hb0.size)⟩
  obtain rfl : Z = false := by rw [HZ.out, HO.out hk1 hk2 hk3 hk4 hk5]
  have e1 : (kind == 1) = false := by simp; exact hk1
  have e2 : (kind == 2) = false := by simp; exact hk2
  have e3 : (kind == 3) = false := by simp; exact hk3
  have e4 : (kind == 4) = false := by simp; exact hk4
  have e5 : (kind == 5) = false := by simp; exact hk5
  clear HN HC HW HO HN2 HC2 HW2 HZ
  have hb0 := below_bx w (.cells #[.int .i64 kind, .int .i64 frm, .int .i64 view, .int .i64 seq, .string op, .slice A L.length c] 34)
  go_enter Tryd.func78, Tryd.ntmps78
  go_wp2_with (first | (go_at_call 100; (with_reducible refine (I1.out _).mono ?_); rintro e w1 ⟨rfl, rfl⟩) | (go_at_call 101; (with_reducible refine (I2.out _).mono ?_); rintro e w1 ⟨rfl, rfl⟩))
  go_ret
  exact ⟨rfl, hb0⟩
end Go.Proofs.YtjnbhppnchmeoaaDoor
