/- Slices of int64 as the exact laws use them. The source of the draws: what is known of it, and its methods n, one, bytes. The draws of the digests' law. The draw of one of some texts. -/
import Derived.Test.YtodnmbppgjbpmaaDoorStrW
import Derived.WideShapes
import Derived.ChangeSlices
import Derived.Test.YtodnmbppgjbpmaaDoorBlkW
import Derived.BigRegion
import Derived.RegionTactic
import Derived.Deep.AppendLies
import Derived.Maps.AppendAt
import Derived.Deep.RegionWith
namespace Go.Proofs.YtodnmbppgjbpmaaDoor
open Go.RowKit Go.ChangeShapes Go.WideShapes
set_option linter.unusedVariables false
set_option maxRecDepth 1000000

/-- The numbers of a slice, below block B. -/
def Nms (w : World) (B : Nat) (A : Option Addr) (L : List Int) : Prop :=
  L.length ≤ maxLen ∧ ∀ i (h : i < L.length), ∃ a, A = some a ∧ a.block < B ∧ w.cell? (a.add i) = some (.int .i64 L[i]) ∧ -9223372036854775808 ≤ L[i] ∧ L[i] ≤ 9223372036854775807
theorem Nms.below {w w' : World} {B C : Nat} {A : Option Addr} {L : List Int} (h : Nms w B A L) (hb : Below C w w') (hC : B ≤ C) : Nms w' B A L :=
  ⟨h.1, fun i hi => by
    obtain ⟨a, e, h1, h2, h3⟩ := h.2 i hi
    exact ⟨a, e, h1, by rw [World.cell?_of_block (a := a.add _) (hb.block _ (by rw [add_blk]; omega))]; exact h2, h3⟩⟩
theorem Nms.mono {w : World} {B B' : Nat} {A : Option Addr} {L : List Int} (h : Nms w B A L) (hb : B ≤ B') : Nms w B' A L :=
  ⟨h.1, fun i hi => by
    obtain ⟨a, e, h1, h2⟩ := h.2 i hi
    exact ⟨a, e, by omega, h2⟩⟩
theorem ints_arg {H : Type} {enc : TypeId × Value → H} {W : World} {r : Reach} {b0 : Nat} {v : Value} {d : DataW H} {p : List MemPlace} (hval : Value.okWide Tryd.prog W r b0 35 v) (h : DataW.Trod enc Tryd.prog W 0 (fun _ => true) true 35 v d p) :
    ∃ A L c, v = .slice A L.length c ∧ Nms W W.heap.size A L := by
  obtain ⟨A, n, c, rfl⟩ := okWide_slice Tryd.underlying35 hval
  obtain ⟨m, hm⟩ := h
  have hm' : DataW.trod enc Tryd.prog W 0 (fun _ => true) true m 35 [.slice A n c] = some (d, p) := hm
  rcases open_ints Tryd.underlying35 Tryd.underlying2 cellsI64 hm' with ⟨h1, _⟩ | ⟨a, len, cap, zs, h1, _, hl, hc, hz, _, hcell, hwf⟩
  · injection h1 with h1 _
    cases h1
    exact ⟨none, [], 0, rfl, by simp [maxLen], fun i h => absurd h (by simp)⟩
  · injection h1 with h1 _
    cases h1
    have hzl : zs.length = c := by simpa using hz
    have htl : (zs.take n).length = n := by simp; omega
    refine ⟨some a, zs.take n, c, by rw [htl], by rw [htl]; omega, fun i hi => ?_⟩
    have hi' : i < zs.length := by rw [htl] at hi; omega
    have hc1 := hcell i hi'
    have hg : zs.getD i 0 = (zs.take n)[i] := by rw [List.getElem_take]; simp [List.getD, hi']
    rw [hg] at hc1
    have hw := wf_i64 (hwf (zs.take n)[i] (List.mem_of_mem_take (List.getElem_mem hi)))
    exact ⟨a, rfl, by have := World.block_lt_of_cell? W _ hc1; rw [add_blk] at this; exact this, hc1, hw.1, hw.2⟩
theorem infoI64n : (Tryd.prog.info? 2).map (fun i => (i.zero, i.size, i.bytes)) = some (some (.int .i64 0), 1, 8) := by kernel_rfl
theorem Rw.nms {w : World} {lo hi n c : Nat} {A : Option Addr} {L : List Int} (h : Rw w lo hi 2 1 (.slice A n c) L.length (L.map (Value.int .i64))) (hf : ∀ x ∈ L, -9223372036854775808 ≤ x ∧ x ≤ 9223372036854775807) : Nms w w.heap.size A L := by
  rcases h.1.2 with ⟨hv, hz⟩ | ⟨g, cap, cur, hv, hb, hg, hl, hm, hs, ht⟩
  · have : L = [] := List.eq_nil_of_length_eq_zero hz
    subst this
    cases hv
    exact ⟨by simp [maxLen], fun i h => absurd h (by simp)⟩
  · cases hv
    refine ⟨by omega, fun i hi => ?_⟩
    have hc := World.ownsRow.cells h.1 (g := g) rfl i (.int .i64 L[i]) (by simp [hi])
    have := hf _ (List.getElem_mem hi)
    exact ⟨⟨g, 0, none⟩, rfl, (Array.getElem?_eq_some_iff.1 hg).1, hc, this.1, this.2⟩

end Go.Proofs.YtodnmbppgjbpmaaDoor

namespace Go.Proofs.YtodnmbppgjbpmaaDoor
open Go.RowKit Go.ChangeShapes Go.WideShapes
set_option linter.unusedVariables false
set_option maxRecDepth 1000000

/-- n bytes behind an address, below block B. -/
def Bts (w : World) (B : Nat) (A : Option Addr) (n : Nat) : Prop := n ≤ 1048576 ∧ ∀ i, i < n → ∃ a x, A = some a ∧ a.block < B ∧ w.cell? (a.add i) = some (.int .u8 x) ∧ 0 ≤ x ∧ x ≤ 255
theorem add_block (a : Addr) (n : Nat) : (a.add n).block = a.block := by unfold Addr.add; split <;> rfl
theorem Bts.of_block {w w' : World} {B n : Nat} {A : Option Addr} (h : Bts w B A n) (hb : ∀ k, k < B → w'.heap[k]? = w.heap[k]?) : Bts w' B A n :=
  ⟨h.1, fun i hi => by
    obtain ⟨a, x, e, h1, h2, h3⟩ := h.2 i hi
    refine ⟨a, x, e, h1, ?_, h3⟩
    rw [World.cell?_of_block (a := a.add i) (hb _ (by rw [add_block]; exact h1))]; exact h2⟩
/-- What is known of a slice of bytes that came in. -/
def Byt (w : World) (A : Option Addr) (n : Nat) : Prop := n ≤ maxLen ∧ (n ≤ 1048576 → Bts w w.heap.size A n)
theorem cellsByte : Tryd.prog.cellsOf 5 = 1 := by kernel_rfl
theorem bytes_arg {H : Type} {enc : TypeId × Value → H} {W : World} {r : Reach} {b0 : Nat} {v : Value} {d : DataW H} {p : List MemPlace} (hval : Value.okWide Tryd.prog W r b0 22 v) (h : DataW.Trod enc Tryd.prog W 0 (fun _ => true) true 22 v d p) :
    ∃ A n c, v = .slice A n c ∧ Byt W A n := by
  obtain ⟨A, n, c, rfl⟩ := okWide_slice Tryd.underlying22 hval
  obtain ⟨m, hm⟩ := h
  refine ⟨A, n, c, rfl, ?_⟩
  have hm' : DataW.trod enc Tryd.prog W 0 (fun _ => true) true m 22 [.slice A n c] = some (d, p) := hm
  rcases open_ints Tryd.underlying22 Tryd.underlying5 cellsByte hm' with ⟨h1, _⟩ | ⟨a, len, cap, zs, h1, _, hl, hc, hz, _, hcell, hwf⟩
  · injection h1 with h1 _
    injection h1 with h1 h2 h3
    subst h2
    exact ⟨by unfold maxLen; omega, fun _ => ⟨by omega, fun i hi => by omega⟩⟩
  · injection h1 with h1 _
    injection h1 with h1 h2 h3
    subst h1 h2 h3
    refine ⟨by omega, fun hn => ⟨hn, fun i hi => ?_⟩⟩
    have hzl : zs.length = c := by simpa using hz
    have hi' : i < zs.length := by omega
    have hc1 := hcell i hi'
    have hx : zs.getD i 0 ∈ zs := by rw [List.getD, List.getElem?_eq_getElem hi']; exact List.getElem_mem hi'
    have hw := hwf _ hx
    have hr : 0 ≤ zs.getD i 0 ∧ zs.getD i 0 ≤ 255 := by simpa [Lit.wf, IntKind.min, IntKind.max, IntKind.signed, IntKind.bits] using hw
    exact ⟨a, zs.getD i 0, rfl, by have := World.block_lt_of_cell? W _ hc1; rw [add_block] at this; exact this, hc1, hr.1, hr.2⟩
/-- The source in block g, all that it reads below block B. -/
def Drw (w : World) (B g : Nat) : Prop := ∃ A n c, ∃ ix mix size : Int, Blk w g 87 [.slice A n c, .int .i64 ix, .int .u64 mix, .int .i64 size] ∧ B ≤ g ∧ B ≤ w.heap.size ∧ Bts w B A n ∧ 0 ≤ ix ∧ ix ≤ n ∧ 0 ≤ mix ∧ mix ≤ 18446744073709551615 ∧ 0 ≤ size ∧ size ≤ 12
theorem Drw.of_block {w w' : World} {B g : Nat} (h : Drw w B g) (hs : w.heap.size ≤ w'.heap.size) (hb : ∀ k, k < w.heap.size → (k < B ∨ k = g) → w'.heap[k]? = w.heap[k]?) : Drw w' B g := by
  obtain ⟨A, n, c, ix, mix, size, h1, h2, h3, h4, h5⟩ := h
  exact ⟨A, n, c, ix, mix, size, (hb g h1.lt (.inr rfl)).trans h1, h2, by omega, h4.of_block fun k hk => hb k (by omega) (.inl hk), h5⟩
theorem Drw.lt {w : World} {B g : Nat} (h : Drw w B g) : B ≤ g ∧ g < w.heap.size ∧ B ≤ w.heap.size := by
  obtain ⟨A, n, c, ix, mix, size, h1, h2, h3, _⟩ := h
  exact ⟨h2, h1.lt, h3⟩
theorem Drw.below {w w' : World} {B g : Nat} (h : Drw w B g) (hb : Below w.heap.size w w') : Drw w' B g := h.of_block hb.size fun k hk _ => hb.block k hk
theorem Drw.alloc {w : World} {B g : Nat} (h : Drw w B g) (o : Obj) : Drw (w.alloc o) B g := h.below ((Below.refl _ _).alloc (Nat.le_refl _) o)
theorem Drw.drew {w : World} {B g : Nat} (h : Drw w B g) : Drw w.drew B g := h
theorem Drw.drewN {w : World} {B g : Nat} (h : Drw w B g) (n : Nat) : Drw (w.drewN n) B g := h
theorem Drw.grown {w w' : World} {B g : Nat} {row : Option Nat} (h : Drw w B g) (hg : w.grownBy w' row) (hr : ∀ k, row = some k → B ≤ k ∧ k ≠ g) : Drw w' B g :=
  h.of_block hg.size fun k hk ho => hg.block k hk (fun e => by
    have := hr k e.symm
    rcases ho with h1 | h1 <;> omega)
theorem only_below {B g : Nat} {w w' : World} (h : w.grownBy w' (some g)) (hB : B ≤ g) (hs : B ≤ w.heap.size) : Below B w w' :=
  ⟨h.os, h.tape, h.output, h.size, fun k hk => h.block k (by omega) (fun e => by have := Option.some.inj e; omega)⟩
theorem only_set {w w' : World} {g i : Nat} (h : w.grownBy w' (some g)) (v : Value) : w.grownBy (w'.setCell ⟨g, i, none⟩ v) (some g) :=
  ⟨h.os, h.tape, h.output, by simpa [World.setCell] using h.size, fun k hk hne => (Below.heap_setCell w' _ v k (fun e => hne (by rw [e]))).trans (h.block k hk hne)⟩
theorem only_drewN {w w' : World} {row : Option Nat} (h : w.grownBy w' row) (n : Nat) : w.grownBy (w'.drewN n) row := ⟨h.os, h.tape, h.output, h.size, h.block⟩
theorem only_drew {w w' : World} {row : Option Nat} (h : w.grownBy w' row) : w.grownBy w'.drew row := ⟨h.os, h.tape, h.output, h.size, h.block⟩

/-- What a draw of a number below most answers. -/
def Num1 (B g : Nat) (most : Int) (w : World) (e : Ending) (w' : World) : Prop :=
  ∃ v : Int, e = .returned (.int .i64 v) ∧ 0 ≤ v ∧ (1 < most → v < most) ∧ (most ≤ 1 → v = 0) ∧ Drw w' B g ∧ w.grownBy w' (some g)

set_option maxHeartbeats 1600000 in
set_option maxRecDepth 1000000 in
theorem n_any (B g : Nat) (most : Int) (w : World) (h : Drw w B g) (m0 : -9223372036854775808 ≤ most) (m1 : most ≤ 9223372036854775807) :
    Calls Tryd.prog 36 #[.pointer (some ⟨g, 0, none⟩), .int .i64 most] w (Num1 B g most w) := by
  have HD := Lib.hid h
  by_cases hm : most ≤ 1
  · go_enter Tryd.func36, Tryd.ntmps36
    go_wp2
    go_ret
    exact ⟨0, rfl, by omega, fun h => by omega, fun _ => rfl, HD.out, World.grownBy.refl _ _⟩
  · obtain ⟨A, n, c, ix, mix, size, hb, hB, hBw, hbt, i0, i1, x0, x1, s0, s1⟩ := h
    have c0 : w.cell? ⟨g, 0, none⟩ = some (.slice A n c) := hb.cell rfl
    have c1 : w.cell? ⟨g, 1, none⟩ = some (.int .i64 ix) := hb.cell rfl
    have c2 : w.cell? ⟨g, 2, none⟩ = some (.int .u64 mix) := hb.cell rfl
    have f1 := hb.froz 1
    have f2 := hb.froz 2
    obtain ⟨k, rfl⟩ := Int.eq_ofNat_of_zero_le i0
    have hn := hbt.1
    by_cases hlt : k < n
    · obtain ⟨a, x, rfl, ab, ac, xx0, xx1⟩ := hbt.2 k hlt
      have hd : decide ((k : Int) < (n : Int)) = true := by simp; omega
      go_enter Tryd.func36, Tryd.ntmps36
      go_wp2
      go_quiet (fail)
      generalize nq = nqa
      go_wp2
      go_quiet (fail)
      go_wp2
      go_region
      obtain ⟨m1, M1⟩ : ∃ m1, Hid (bits .xor .u64 mix (IntKind.u64.wrap (mix * 8192)) = m1) := ⟨_, Lib.hid rfl⟩
      have m1a : 0 ≤ m1 := by rw [← M1.out]; exact bits_lo_u64 _ _ _
      have m1b : m1 ≤ 18446744073709551615 := by rw [← M1.out]; exact bits_hi_u64 _ _ _
      rw [M1.out]
      have hb2 := (((hb.drewN (nqa + nq)).put 1 (.int .i64 (k + 1))).put 2 (.int .u64 m1)).drew
      have ho2 := only_drew (only_set (i := 2) (only_set (i := 1) (only_drewN (World.grownBy.refl w (some g)) (nqa + nq)) (.int .i64 (k + 1))) (.int .u64 m1))
      generalize (((w.drewN (nqa + nq)).setCell ⟨g, 1, none⟩ (.int .i64 (k + 1))).setCell ⟨g, 2, none⟩ (.int .u64 m1)).drew = w2 at hb2 ho2 ⊢
      clear c0 c1 c2 f1 f2
      have c2 : w2.cell? ⟨g, 2, none⟩ = some (.int .u64 m1) := hb2.cell rfl
      have f2 := hb2.froz 2
      go_wp2
      go_region
      obtain ⟨m2, M2⟩ : ∃ m2, Hid (bits .xor .u64 m1 (m1 / 128) = m2) := ⟨_, Lib.hid rfl⟩
      have m2a : 0 ≤ m2 := by rw [← M2.out]; exact bits_lo_u64 _ _ _
      have m2b : m2 ≤ 18446744073709551615 := by rw [← M2.out]; exact bits_hi_u64 _ _ _
      rw [M2.out]
      have hb3 := (hb2.put 2 (.int .u64 m2)).drew
      have ho3 := only_drew (only_set (i := 2) ho2 (.int .u64 m2))
      generalize (w2.setCell ⟨g, 2, none⟩ (.int .u64 m2)).drew = w3 at hb3 ho3 ⊢
      clear c2 f2
      have c2 : w3.cell? ⟨g, 2, none⟩ = some (.int .u64 m2) := hb3.cell rfl
      have f2 := hb3.froz 2
      go_wp2
      go_region
      obtain ⟨m3, M3⟩ : ∃ m3, Hid (bits .xor .u64 m2 (IntKind.u64.wrap (m2 * 131072)) = m3) := ⟨_, Lib.hid rfl⟩
      have m3a : 0 ≤ m3 := by rw [← M3.out]; exact bits_lo_u64 _ _ _
      have m3b : m3 ≤ 18446744073709551615 := by rw [← M3.out]; exact bits_hi_u64 _ _ _
      rw [M3.out]
      have hb4 := (hb3.put 2 (.int .u64 m3)).drew
      have ho4 := only_drew (only_set (i := 2) ho3 (.int .u64 m3))
      generalize (w3.setCell ⟨g, 2, none⟩ (.int .u64 m3)).drew = w4 at hb4 ho4 ⊢
      clear c2 f2
      have c2 : w4.cell? ⟨g, 2, none⟩ = some (.int .u64 m3) := hb4.cell rfl
      go_wp2
      go_ret
      obtain ⟨y, Y⟩ : ∃ y, Hid ((x + m3 / 1048576) % most = y) := ⟨_, Lib.hid rfl⟩
      have ya : 0 ≤ y := by rw [← Y.out]; exact Int.emod_nonneg _ (by omega)
      have yb : y < most := by rw [← Y.out]; exact Int.emod_lt_of_pos _ (by omega)
      refine ⟨y, retI (by rw [Y.out]; unfold wrap64; omega), ya, fun _ => yb, fun h => by omega, ⟨_, _, _, _, _, _, hb4, hB, Nat.le_trans hBw ho4.size, hbt.of_block fun q hq => ho4.block q (by omega) (fun e => by have := Option.some.inj e; omega), ?_, ?_, m3a, m3b, s0, s1⟩, ho4⟩
      · omega
      · omega
    · have hd : decide ((k : Int) < (n : Int)) = false := by simp; omega
      go_enter Tryd.func36, Tryd.ntmps36
      go_wp2
      go_quiet (fail)
      go_wp2
      go_region
      obtain ⟨m1, M1⟩ : ∃ m1, Hid (bits .xor .u64 mix (IntKind.u64.wrap (mix * 8192)) = m1) := ⟨_, Lib.hid rfl⟩
      have m1a : 0 ≤ m1 := by rw [← M1.out]; exact bits_lo_u64 _ _ _
      have m1b : m1 ≤ 18446744073709551615 := by rw [← M1.out]; exact bits_hi_u64 _ _ _
      rw [M1.out]
      have hb2 := (hb.drewN (nq + 1)).put 2 (.int .u64 m1)
      have ho2 := only_set (i := 2) (only_drewN (World.grownBy.refl w (some g)) (nq + 1)) (.int .u64 m1)
      generalize (w.drewN (nq + 1)).setCell ⟨g, 2, none⟩ (.int .u64 m1) = w2 at hb2 ho2 ⊢
      clear c0 c1 c2 f1 f2
      have c2 : w2.cell? ⟨g, 2, none⟩ = some (.int .u64 m1) := hb2.cell rfl
      have f2 := hb2.froz 2
      go_wp2
      go_region
      obtain ⟨m2, M2⟩ : ∃ m2, Hid (bits .xor .u64 m1 (m1 / 128) = m2) := ⟨_, Lib.hid rfl⟩
      have m2a : 0 ≤ m2 := by rw [← M2.out]; exact bits_lo_u64 _ _ _
      have m2b : m2 ≤ 18446744073709551615 := by rw [← M2.out]; exact bits_hi_u64 _ _ _
      rw [M2.out]
      have hb3 := (hb2.put 2 (.int .u64 m2)).drew
      have ho3 := only_drew (only_set (i := 2) ho2 (.int .u64 m2))
      generalize (w2.setCell ⟨g, 2, none⟩ (.int .u64 m2)).drew = w3 at hb3 ho3 ⊢
      clear c2 f2
      have c2 : w3.cell? ⟨g, 2, none⟩ = some (.int .u64 m2) := hb3.cell rfl
      have f2 := hb3.froz 2
      go_wp2
      go_region
      obtain ⟨m3, M3⟩ : ∃ m3, Hid (bits .xor .u64 m2 (IntKind.u64.wrap (m2 * 131072)) = m3) := ⟨_, Lib.hid rfl⟩
      have m3a : 0 ≤ m3 := by rw [← M3.out]; exact bits_lo_u64 _ _ _
      have m3b : m3 ≤ 18446744073709551615 := by rw [← M3.out]; exact bits_hi_u64 _ _ _
      rw [M3.out]
      have hb4 := (hb3.put 2 (.int .u64 m3)).drew
      have ho4 := only_drew (only_set (i := 2) ho3 (.int .u64 m3))
      generalize (w3.setCell ⟨g, 2, none⟩ (.int .u64 m3)).drew = w4 at hb4 ho4 ⊢
      clear c2 f2
      have c2 : w4.cell? ⟨g, 2, none⟩ = some (.int .u64 m3) := hb4.cell rfl
      go_wp2
      go_ret
      obtain ⟨y, Y⟩ : ∃ y, Hid (m3 / 1048576 % most = y) := ⟨_, Lib.hid rfl⟩
      have ya : 0 ≤ y := by rw [← Y.out]; exact Int.emod_nonneg _ (by omega)
      have yb : y < most := by rw [← Y.out]; exact Int.emod_lt_of_pos _ (by omega)
      refine ⟨y, retI (by rw [Y.out]; unfold wrap64; omega), ya, fun _ => yb, fun h => by omega, ⟨_, _, _, _, _, _, hb4, hB, Nat.le_trans hBw ho4.size, hbt.of_block fun q hq => ho4.block q (by omega) (fun e => by have := Option.some.inj e; omega), i0, i1, m3a, m3b, s0, s1⟩, ho4⟩

theorem Drw.type_ne {w : World} {B g base n : Nat} {e : TypeId} {v : Value} {xs : List Value} (h : Drw w B g) (ho : w.ownsRow base e 1 v n xs) (hne : e ≠ 87) : v.ownBlock ≠ some g := by
  obtain ⟨A, n', c, ix, mix, size, hg, _⟩ := h
  rcases ho.2 with ⟨rfl, _⟩ | ⟨g', cap, cur, rfl, _, hh, _⟩
  · simp [Value.ownBlock]
  · intro he
    have : g' = g := by simpa [Value.ownBlock] using he
    subst this
    have hg' := hg.heap
    rw [hh] at hg'
    injection hg' with hg'
    injection hg' with _ ht
    exact hne ht
theorem only_app {w wr w1 : World} {g n : Nat} {e : TypeId} {v : Value} {xs : List Value} {o : Obj} (h : w.grownBy wr (some g)) (ho : wr.ownsRow w.heap.size e 1 v n xs) (hg : (wr.alloc o).grownBy w1 v.ownBlock) : w.grownBy w1 (some g) := by
  have hs := h.size
  refine ⟨hg.os.trans h.os, hg.tape.trans h.tape, hg.output.trans h.output, by have := hg.size; simp at this; omega, fun k hk hne => ?_⟩
  rw [hg.block k (by simp; omega) (fun e => by have := (ho.lt k e.symm).1; omega), Below.heap_alloc wr o k (by omega)]
  exact h.block k hk hne
theorem only_trans {a b c : World} {g : Nat} (h : a.grownBy b (some g)) (k : b.grownBy c (some g)) : a.grownBy c (some g) :=
  ⟨k.os.trans h.os, k.tape.trans h.tape, k.output.trans h.output, Nat.le_trans h.size k.size, fun i hi hne => (k.block i (Nat.lt_of_lt_of_le hi h.size) hne).trans (h.block i hi hne)⟩
theorem only_of_below {a b c : World} {g : Nat} (h : a.grownBy b (some g)) (k : Below b.heap.size b c) : a.grownBy c (some g) :=
  ⟨k.os.trans h.os, k.tape.trans h.tape, k.output.trans h.output, Nat.le_trans h.size k.size, fun i hi hne => (k.block i (Nat.lt_of_lt_of_le hi h.size)).trans (h.block i hi hne)⟩

/-- What a draw of one out of so many answers. -/
def Bool1 (B g : Nat) (w : World) (e : Ending) (w' : World) : Prop := ∃ b : Bool, e = .returned (.bool b) ∧ Drw w' B g ∧ w.grownBy w' (some g)
set_option maxHeartbeats 1600000 in
theorem one_any (B g : Nat) (most : Int) (w : World) (h : Drw w B g) (m0 : -9223372036854775808 ≤ most) (m1 : most ≤ 9223372036854775807) :
    Calls Tryd.prog 50 #[.pointer (some ⟨g, 0, none⟩), .int .i64 most] w (Bool1 B g w) := by
  go_enter Tryd.func50, Tryd.ntmps50
  go_wp2_with (go_at_call 36; refine (n_any B g most _ h m0 m1).mono ?_; rintro e w1 ⟨v, rfl, v0, _, _, hd, ho⟩)
  go_ret
  exact ⟨_, rfl, hd, ho⟩

/-- What a draw of n bytes answers. -/
def Str1 (B g : Nat) (n : Nat) (w : World) (e : Ending) (w' : World) : Prop := ∃ s : ByteArray, e = .returned (.string s) ∧ s.size = n ∧ Drw w' B g ∧ w.grownBy w' (some g)
set_option maxHeartbeats 1600000 in
set_option maxRecDepth 1000000 in
theorem bytes_any (B g : Nat) (n : Int) (w : World) (h : Drw w B g) (m1 : n ≤ 1048576) (m0 : -9223372036854775808 ≤ n) :
    Calls Tryd.prog 45 #[.pointer (some ⟨g, 0, none⟩), .int .i64 n] w (Str1 B g n.toNat w) := by
  obtain ⟨i0, hi, hz0, hz1, hz2⟩ := info_parts infoU8
  have HD := Lib.hid h
  clear h
  have ho0 := World.ownsRow_lit (base := w.heap.size) (e := 5) (size := 1) w #[] 0 (Nat.le_refl _) (by simp) (by simp)
  have HO0 := Lib.hid ho0
  clear ho0
  go_enter Tryd.func45, Tryd.ntmps45
  go_wp2
  go_loopw [5, 6] (fun v i wr => ∃ (k : Nat) (l : List Int), ((k : Int) ≤ n ∨ k = 0) ∧ i = .int .i64 k ∧ l.length = k ∧ wr.ownsRow w.heap.size 5 1 v l.length (l.map (Value.int .u8)) ∧ Drw wr B g ∧ w.grownBy wr (some g)) (fun _ i _ => (n - intOf i).toNat)
  case atStart => exact ⟨0, [], .inr rfl, rfl, rfl, HO0.out, HD.out.below ((Below.refl _ _).alloc (Nat.le_refl _) _), World.grownBy_alloc w _ _⟩
  case round =>
    obtain ⟨k, l, hk, rfl, hl, hown, hd, ho⟩ := hrel
    have HL := Lib.hid hl
    clear hl
    have hk' : (k : Int) ≤ 1048576 := by omega
    by_cases hlt : (k : Int) < n
    · have hdd : decide ((k : Int) < n) = true := by simp; omega
      have hne := Drw.type_ne hd hown (by decide)
      have hlt0 := ho.size
      go_wp2_with (first
        | (go_at_call 36; refine (n_any B g 256 _ hd (by omega) (by omega)).mono ?_; rintro e w1 ⟨v, rfl, v0, v1, _, hd1, ho1⟩; have hown1 := hown.kept ho1 (.inr hne); have hs1 := ho1.size; have v2 := v1 (by omega); clear v1)
        | (at_builtin; refine wpList_append_own _ rfl _ _ 22 rfl w.heap.size 5 i0 (.int .u8 0) 1 1 Tryd.underlying22 hi hz0 hz1 hz2 rfl (by decide) _ _ _ rfl (hown1.alloc _) ⟨w1.heap.size, 0, none⟩ 1 1 [.int .u8 v] rfl rfl (one_cell _ _ _) (one_oneCell _ _) (by rw [HL.out]; unfold maxLen; omega) (by rw [HL.out]; omega) (by simp; omega) ?_; intro v' w' hown' hgrow' hne'; clear hne'))
      have hne1 := Drw.type_ne hd1 hown1 (by decide)
      have hBw := HD.out.lt.2.2
      have hd2 : Drw w' B g := (hd1.below ((Below.refl _ _).alloc (Nat.le_refl _) (.cells #[.int .u8 v] 5))).grown hgrow' (fun q e => ⟨by have := (hown1.lt q e).1; omega, fun e' => hne1 (by rw [← e']; exact e)⟩)
      exact ⟨⟨k + 1, l ++ [v], .inl (by omega), by go_num, by simp [HL.out], by simpa using hown', hd2, only_app (only_trans ho ho1) hown1 hgrow'⟩, by simp [intOf]; omega⟩
    · have hdd : decide ((k : Int) < n) = false := by simp; omega
      have hcv := own_string hown
      go_wp2
      go_ret
      exact ⟨_, rfl, by rw [strOfNums_size, HL.out]; omega, hd, ho⟩

theorem pick_cell (l : List Int) (T : TypeId) {w w1 : World} {g : Nat} (ho : (w.alloc (.cells (l.map (Value.int .i64)).toArray T)).grownBy w1 (some g)) (hg : g < w.heap.size) {v : Int} (v0 : 0 ≤ v) (v1 : v < l.length) :
    ∃ y, y ∈ l ∧ w1.cell? ⟨w.heap.size, v.toNat, none⟩ = some (.int .i64 y) := by
  have hv : v.toNat < l.length := by omega
  refine ⟨l[v.toNat], List.getElem_mem hv, ?_⟩
  have hb := (Blk.fresh w T (l.map (Value.int .i64))).grown ho (fun e => by have := Option.some.inj e; omega)
  exact hb.cell (by rw [List.getElem?_map, List.getElem?_eq_getElem hv]; rfl)
def edgeI : List Int := [0, 1, -1, 2, 1000, 1001, 2147483648, 2147483647, -2147483648, 4611686018427387904, 9223372036854775807, -9223372036854775808, 1000000, 1000001]
theorem edge_range : ∀ y ∈ edgeI, -9223372036854775808 ≤ y ∧ y ≤ 9223372036854775807 := by decide
set_option maxHeartbeats 1600000 in
theorem edge_any (B g : Nat) (w : World) (h : Drw w B g) :
    Calls Tryd.prog 51 #[.pointer (some ⟨g, 0, none⟩)] w fun e w' => ∃ v : Int, e = .returned (.int .i64 v) ∧ -9223372036854775808 ≤ v ∧ v ≤ 9223372036854775807 ∧ Drw w' B g ∧ w.grownBy w' (some g) := by
  have hd0 := h.lt
  have h1 : Hid (∀ o, Drw (w.alloc o) B g) := fun o => h.below ((Below.refl _ _).alloc (Nat.le_refl _) o)
  go_enter Tryd.func51, Tryd.ntmps51
  go_wp2_with (go_at_call 36; refine (n_any B g 14 _ (h1.out _) (by omega) (by omega)).mono ?_; rintro e w1 ⟨v, rfl, v0, v1, _, hd, ho⟩; have v2 := v1 (by omega); clear v1; obtain ⟨y, hy1, hy⟩ := pick_cell edgeI 2 ho hd0.2.1 v0 v2)
  go_ret
  have hr := edge_range y hy1
  refine ⟨y, rfl, hr.1, hr.2, hd, ?_⟩
  exact only_trans (World.grownBy_alloc w _ _) ho

set_option maxHeartbeats 1600000 in
theorem source_any (A : Option Addr) (n c B : Nat) (w : World) (h : Bts w B A n) (hB : B ≤ w.heap.size) :
    Calls Tryd.prog 34 #[.slice A n c] w fun e w' => ∃ g, e = .returned (.pointer (some ⟨g, 0, none⟩)) ∧ w.heap.size ≤ g ∧ Drw w' B g ∧ Below w.heap.size w w' := by
  have HB := Lib.hid h
  have hn := h.1
  have hs0 : Blk (w.alloc (.cells #[.slice A n c, .int .i64 0, .int .u64 88172645463325252, .int .i64 0] 87)) w.heap.size 87 [.slice A n c, .int .i64 0, .int .u64 88172645463325252, .int .i64 0] := Blk.fresh w _ _
  have HS0 := Lib.hid hs0
  clear hs0 h
  go_enter Tryd.func34, Tryd.ntmps34
  go_wp2
  go_loopw [4] (fun i wr => ∃ (k : Nat) (mix : Int), k ≤ 64 ∧ k ≤ n ∧ i = .int .i64 k ∧ 0 ≤ mix ∧ mix ≤ 18446744073709551615 ∧ Blk wr w.heap.size 87 [.slice A n c, .int .i64 0, .int .u64 mix, .int .i64 0] ∧ Below w.heap.size w wr) (fun i _ => 64 - (intOf i).toNat)
  case atStart => exact ⟨0, _, by omega, by omega, rfl, by omega, by omega, HS0.out, (Below.refl _ _).alloc (Nat.le_refl _) _⟩
  case round =>
    obtain ⟨k, mix, hk, hkn, rfl, x0, x1, hb, hbl⟩ := hrel
    have c2 : wr.cell? ⟨w.heap.size, 2, none⟩ = some (.int .u64 mix) := hb.cell rfl
    have f2 := hb.froz 2
    by_cases hlt : k < n ∧ k < 64
    · obtain ⟨hl1, hl2⟩ := hlt
      obtain ⟨a, x, rfl, ab, ac, xx0, xx1⟩ := (HB.out.of_block (w' := wr) fun q hq => hbl.block q (by omega)).2 k hl1
      have d1 : decide ((k : Int) < (n : Int)) = true := by simp; omega
      have d2 : decide ((k : Int) < 64) = true := by simp; omega
      go_wp2
      go_region
      go_wp2
      have y0 : 0 ≤ IntKind.u64.wrap (bits BinOp.xor .u64 mix x * 1099511628211) ∧ IntKind.u64.wrap (bits BinOp.xor .u64 mix x * 1099511628211) ≤ 18446744073709551615 := by rw [IntKind.wrap_u64]; omega
      exact ⟨⟨k + 1, _, by omega, by omega, by go_num, y0.1, y0.2, (hb.put 2 _).drew, below_drew (hbl.setCell (Nat.le_refl _) _)⟩, by simp [intOf]; omega⟩
    · have FIN : Hid (∀ (z : Int) (wq : World), 0 ≤ z → z ≤ 12 → Blk wq w.heap.size 87 [.slice A n c, .int .i64 0, .int .u64 mix, .int .i64 z] → Below w.heap.size w wq → Drw wq B w.heap.size) := fun z wq z0 z1 hq hl =>
        ⟨A, n, c, 0, mix, z, hq, hB, Nat.le_trans hB hl.size, HB.out.of_block fun q hq => hl.block q (by omega), by omega, by omega, x0, x1, z0, z1⟩
      have c3 : wr.cell? ⟨w.heap.size, 3, none⟩ = some (.int .i64 0) := hb.cell rfl
      have f3 := hb.froz 3
      by_cases hl1 : k < n
      · have d1 : decide ((k : Int) < (n : Int)) = true := by simp; omega
        have d2 : decide ((k : Int) < 64) = false := by simp; omega
        by_cases h12 : 12 < n / 20
        · have g12 : (12 : Int) < (n : Int) / 20 := by omega
          go_wp2
          go_ret
          exact ⟨_, rfl, Nat.le_refl _, FIN.out 12 _ (by omega) (by omega) ((hb.put 3 _).put 3 _) ((hbl.setCell (Nat.le_refl _) _).setCell (Nat.le_refl _) _), (hbl.setCell (Nat.le_refl _) _).setCell (Nat.le_refl _) _⟩
        · have g12 : ¬ (12 : Int) < (n : Int) / 20 := by omega
          go_wp2
          go_ret
          exact ⟨_, rfl, Nat.le_refl _, FIN.out ((n : Int) / 20) _ (by omega) (by omega) (hb.put 3 _) (hbl.setCell (Nat.le_refl _) _), hbl.setCell (Nat.le_refl _) _⟩
      · have d1 : decide ((k : Int) < (n : Int)) = false := by simp; omega
        have h12 : ¬ 12 < n / 20 := by omega
        have g12 : ¬ (12 : Int) < (n : Int) / 20 := by omega
        go_wp2
        go_ret
        exact ⟨_, rfl, Nat.le_refl _, FIN.out ((n : Int) / 20) _ (by omega) (by omega) (hb.put 3 _) (hbl.setCell (Nat.le_refl _) _), hbl.setCell (Nat.le_refl _) _⟩
end Go.Proofs.YtodnmbppgjbpmaaDoor

namespace Go.Proofs.YtodnmbppgjbpmaaDoor
open Go.RowKit
set_option linter.unusedVariables false
set_option maxRecDepth 1000000

theorem only_undrew {w w' : World} {row : Option Nat} (h : w.drew.grownBy w' row) : w.grownBy w' row := ⟨h.os, h.tape, h.output, h.size, h.block⟩
theorem made_zero (n : Nat) : (madeCells (Value.int .u8 0).cells (n * 1)).toList = (List.replicate n (0 : Int)).map (Value.int .u8) := by
  simp [madeCells, Value.cells]
  apply List.ext_getElem?
  intro i
  by_cases h : i < n
  · simp [h, Nat.mod_one]
  · simp [h]
end Go.Proofs.YtodnmbppgjbpmaaDoor

namespace Go.Proofs.YtodnmbppgjbpmaaDoor
open Go.RowKit
set_option linter.unusedVariables false
set_option maxRecDepth 1000000

theorem Drw.blk_ne {w : World} {B g b : Nat} {t : TypeId} {cs : List Value} (h : Drw w B g) (hb : Blk w b t cs) (hne : t ≠ 87) : b ≠ g := by
  obtain ⟨A, n, c, ix, mix, size, h1, _⟩ := h
  intro e
  subst e
  have h2 : w.heap[b]? = some (.cells cs.toArray t (0, 0)) := hb
  have h3 : w.heap[b]? = _ := h1
  rw [h2] at h3
  simp at h3
  exact hne h3.2

set_option maxHeartbeats 1600000 in
theorem pick_any (B g b : Nat) (S : List ByteArray) (w : World) (h : Drw w B g) (hb : Blk w b 9 (S.map Value.string)) (h0 : 0 < S.length) (h1 : S.length ≤ 100) :
    Calls Tryd.prog 67 #[.pointer (some ⟨g, 0, none⟩), .slice (some ⟨b, 0, none⟩) S.length S.length] w fun e w' => ∃ s, s ∈ S ∧ e = .returned (.string s) ∧ Drw w' B g ∧ w.grownBy w' (some g) := by
  have hne := h.blk_ne hb (by decide)
  go_enter Tryd.func67, Tryd.ntmps67
  go_wp2_with (fail)
  refine (n_any B g (S.length : Int) _ h (by omega) (by omega)).mono ?_
  rintro e w1 ⟨v, rfl, v0, v1, v2, hd1, ho1⟩
  obtain ⟨k, rfl⟩ : ∃ k : Nat, v = k := ⟨v.toNat, by omega⟩
  have hk : k < S.length := by by_cases h2 : 1 < (S.length : Int); (have := v1 h2; omega); (have := v2 (by omega); omega)
  have hk' : (k : Int) < (S.length : Int) := by omega
  clear v1 v2
  have hb1 := hb.grown ho1 (fun e => hne (by have := Option.some.inj e; omega))
  have c1 : w1.cell? ⟨b, k, none⟩ = some (.string S[k]) := hb1.cell (by rw [List.getElem?_map, List.getElem?_eq_getElem hk]; rfl)
  go_wp2
  go_ret
  exact ⟨S[k], List.getElem_mem hk, rfl, hd1, ho1⟩
end Go.Proofs.YtodnmbppgjbpmaaDoor
