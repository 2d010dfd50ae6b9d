/- The draw of a command. -/
import Derived.Test.YtpgodphnjeifhaaDoorPick
import Derived.Test.YtpgodphnjeifhaaDoorCmRead
namespace Go.Proofs.YtpgodphnjeifhaaDoor
open Go.RowKit
set_option linter.unusedVariables false
set_option linter.unusedSimpArgs false
set_option maxRecDepth 1000000

/-- A command that was drawn: its numbers fit, its strings are short. -/
def Cmd.drawn (c : Cmd) : Prop := (-9223372036854775808 ≤ c.client ∧ c.client ≤ 9223372036854775807) ∧ (-9223372036854775808 ≤ c.number ∧ c.number ≤ 9223372036854775807) ∧ (-9223372036854775808 ≤ c.kind ∧ c.kind ≤ 9223372036854775807) ∧ (-9223372036854775808 ≤ c.n ∧ c.n ≤ 9223372036854775807) ∧ c.topic.size ≤ 100 ∧ c.group.size ≤ 100 ∧ c.text.size ≤ 100
def Cmd.cells (c : Cmd) : List Value := [.int .i64 c.client, .int .i64 c.number, .int .i64 c.kind, .string c.topic, .string c.group, .string c.text, .int .i64 c.n]
/-- What l06Command knows while it draws. -/
def DC (w W : World) (B g p : Nat) (cs : List Value) : Prop :=
  Drw W B g ∧ Blk W p 24 cs ∧ Blk W w.heap.size 24 [.int .i64 0, .int .i64 0, .int .i64 0, .string ⟨#[]⟩, .string ⟨#[]⟩, .string ⟨#[]⟩, .int .i64 0] ∧ w.grownBy W (some g) ∧ w.heap.size < p ∧ g < w.heap.size
section
variable {w W W' : World} {B g p : Nat} {cs : List Value}
theorem DC.draw (h : DC w W B g p cs) (hd : Drw W' B g) (hg : W.grownBy W' (some g)) : DC w W' B g p cs := by
  have h1 := h.2.2.2.2.1
  have h2 := h.2.2.2.2.2
  exact ⟨hd, h.2.1.grown hg (fun e => by have := Option.some.inj e; omega), h.2.2.1.grown hg (fun e => by have := Option.some.inj e; omega), only_trans h.2.2.2.1 hg, h1, h2⟩
theorem DC.alloc (h : DC w W B g p cs) (ob : Obj) : DC w (W.alloc ob) B g p cs := h.draw (h.1.alloc ob) (World.grownBy_alloc W ob _)
theorem DC.put (h : DC w W B g p cs) (i : Nat) (u : Value) : DC w (W.setCell ⟨p, i, none⟩ u) B g p (cs.set i u) := by
  have h1 := h.2.2.2.2.1
  have h2 := h.2.2.2.2.2
  have h3 := h.1.lt
  have hz : (W.setCell ⟨p, i, none⟩ u).heap.size = W.heap.size := by simp [World.setCell]
  refine ⟨h.1.of_block (by omega) (fun k hk hkg => Below.heap_setCell W ⟨p, i, none⟩ u k (by rcases hkg with hk2 | rfl <;> (simp; omega))), h.2.1.put i u, h.2.2.1.far (p := ⟨p, i, none⟩) (by simp; omega) u, ?_, h1, h2⟩
  exact ⟨h.2.2.2.1.os, h.2.2.2.1.tape, h.2.2.2.1.output, by rw [hz]; exact h.2.2.2.1.size, fun k hk hne => (Below.heap_setCell W ⟨p, i, none⟩ u k (by simp; omega)).trans (h.2.2.2.1.block k hk hne)⟩
end
/-- What it knows of its answer while it writes it. -/
def DR (w W : World) (B g : Nat) (rs : List Value) : Prop := Drw W B g ∧ Blk W w.heap.size 24 rs ∧ w.grownBy W (some g) ∧ g < w.heap.size ∧ B ≤ w.heap.size
theorem DC.toDR {w W : World} {B g p : Nat} {cs : List Value} (h : DC w W B g p cs) : DR w W B g [.int .i64 0, .int .i64 0, .int .i64 0, .string ⟨#[]⟩, .string ⟨#[]⟩, .string ⟨#[]⟩, .int .i64 0] := ⟨h.1, h.2.2.1, h.2.2.2.1, h.2.2.2.2.2, by have := h.1.lt; have := h.2.2.2.2.2; omega⟩
theorem DR.put {w W : World} {B g : Nat} {rs : List Value} (h : DR w W B g rs) (i : Nat) (u : Value) : DR w (W.setCell ⟨w.heap.size, i, none⟩ u) B g (rs.set i u) := by
  have h1 := h.2.2.2.1
  have h2 := h.2.2.2.2
  have hz : (W.setCell ⟨w.heap.size, i, none⟩ u).heap.size = W.heap.size := by simp [World.setCell]
  refine ⟨h.1.of_block (by omega) (fun k hk hkg => Below.heap_setCell W ⟨w.heap.size, i, none⟩ u k (by rcases hkg with hk2 | rfl <;> (simp; omega))), h.2.1.put i u, ?_, h1, h2⟩
  exact ⟨h.2.2.1.os, h.2.2.1.tape, h.2.2.1.output, by rw [hz]; exact h.2.2.1.size, fun k hk hne => (Below.heap_setCell W ⟨w.heap.size, i, none⟩ u k (by simp; omega)).trans (h.2.2.1.block k hk hne)⟩
theorem row3_at {W : World} {q v : Nat} (L : List Int) (h : Blk W q 2 (L.map (Value.int .i64))) (hv : v < L.length) : W.cell? ⟨q, v, none⟩ = some (.int .i64 L[v]) := h.cell (by rw [List.getElem?_map, List.getElem?_eq_getElem hv]; rfl)

set_option maxHeartbeats 8000000 in
theorem l06Command_any (B g : Nat) (w : World) (h : Drw w B g) :
    Calls Tryd.prog 18 #[.pointer (some ⟨g, 0, none⟩)] w fun e w' => ∃ c : Cmd, e = .returned c.v ∧ c.drawn ∧ Drw w' B g ∧ w.grownBy w' (some g) := by
  have hgl := h.lt.2.1
  obtain ⟨i0, hi, hz0, hz1, hz2⟩ := info_parts infoU8
  have hR := Blk.fresh w 24 [.int .i64 0, .int .i64 0, .int .i64 0, .string ⟨#[]⟩, .string ⟨#[]⟩, .string ⟨#[]⟩, .int .i64 0]
  have hd0 := h.alloc (.cells #[.int .i64 0, .int .i64 0, .int .i64 0, .string ⟨#[]⟩, .string ⟨#[]⟩, .string ⟨#[]⟩, .int .i64 0] 24)
  have hg0 := World.grownBy_alloc w (.cells #[.int .i64 0, .int .i64 0, .int .i64 0, .string ⟨#[]⟩, .string ⟨#[]⟩, .string ⟨#[]⟩, .int .i64 0] 24) (some g)
  replace hR : Blk (w.alloc (.cells #[.int .i64 0, .int .i64 0, .int .i64 0, .string ⟨#[]⟩, .string ⟨#[]⟩, .string ⟨#[]⟩, .int .i64 0] 24)) w.heap.size 24 [.int .i64 0, .int .i64 0, .int .i64 0, .string ⟨#[]⟩, .string ⟨#[]⟩, .string ⟨#[]⟩, .int .i64 0] := hR
  go_enter Tryd.func18, Tryd.ntmps18
  go_wp2_with (fail)
  generalize w.alloc (.cells #[.int .i64 0, .int .i64 0, .int .i64 0, .string ⟨#[]⟩, .string ⟨#[]⟩, .string ⟨#[]⟩, .int .i64 0] 24) = W0 at hR hd0 hg0 ⊢

  refine (n_any B g 3 _ hd0 (by omega) (by omega)).mono ?_
  rintro e w1 ⟨v0, rfl, l0, u0', _, hd1, ho1⟩
  have u0 := u0' (by omega)
  clear u0'
  replace hR := hR.grown ho1 (fun e => by have := Option.some.inj e; omega)
  replace hg0 := only_trans hg0 ho1
  clear hd0 ho1
  go_wp2_with (fail)
  refine (n_any B g 9 _ hd1 (by omega) (by omega)).mono ?_
  rintro e w2 ⟨v1, rfl, l1, u1', _, hd2, ho2⟩
  have u1 := u1' (by omega)
  clear u1'
  replace hR := hR.grown ho2 (fun e => by have := Option.some.inj e; omega)
  replace hg0 := only_trans hg0 ho2
  clear hd1 ho2
  go_wp2_with (fail)
  refine (n_any B g 7 _ hd2 (by omega) (by omega)).mono ?_
  rintro e w3 ⟨v2, rfl, l2, u2', _, hd3, ho3⟩
  have u2 := u2' (by omega)
  clear u2'
  replace hR := hR.grown ho3 (fun e => by have := Option.some.inj e; omega)
  replace hg0 := only_trans hg0 ho3
  clear hd2 ho3

  obtain ⟨S, hS⟩ : ∃ S : List ByteArray, S = [⟨#[97]⟩, ⟨#[98]⟩, ⟨#[99]⟩] := ⟨_, rfl⟩
  have PP := Lib.hid (pick_any B g w3.heap.size S _ (hd3.alloc (.cells (S.map Value.string).toArray 9)) (Blk.fresh w3 9 (S.map Value.string)) (by rw [hS]; decide) (by rw [hS]; decide))
  have hsz : ∀ s ∈ S, s.size ≤ 100 := by rw [hS]; decide
  have hgA := World.grownBy_alloc w3 (.cells (S.map Value.string).toArray 9) (some g)
  have hRA := hR.alloc (.cells (S.map Value.string).toArray 9)
  rw [hS] at PP hsz hgA hRA
  clear hS
  go_wp2_with (fail)
  refine PP.out.mono ?_
  rintro e w4 ⟨s, hs, rfl, hd4, ho4⟩
  have hs' := hsz s hs
  replace hR := hRA.grown ho4 (fun e => by have := Option.some.inj e; omega)
  replace hg0 := only_trans hg0 (only_trans hgA ho4)
  clear hsz hs hgA hRA ho4 PP hd3
  have hwl := hR.lt
  obtain ⟨a, ha⟩ : ∃ a : Int, 1 + v0 = a := ⟨_, rfl⟩
  obtain ⟨b, hb⟩ : ∃ a : Int, 1 + v1 = a := ⟨_, rfl⟩
  obtain ⟨k, hk⟩ : ∃ a : Int, 1 + v2 = a := ⟨_, rfl⟩
  rw [ha, hb, hk]
  have la : -9223372036854775808 ≤ a ∧ a ≤ 9223372036854775807 := by omega
  have lb : -9223372036854775808 ≤ b ∧ b ≤ 9223372036854775807 := by omega
  have lk : 1 ≤ k ∧ k ≤ 7 := by omega
  clear ha hb hk l0 u0 l1 u1 l2 u2
  have hS : DC w (w4.alloc (.cells #[.int .i64 a, .int .i64 b, .int .i64 k, .string s, .string ⟨#[]⟩, .string ⟨#[]⟩, .int .i64 0] 24)) B g w4.heap.size [.int .i64 a, .int .i64 b, .int .i64 k, .string s, .string ⟨#[]⟩, .string ⟨#[]⟩, .int .i64 0] := ⟨hd4.alloc _, Blk.fresh w4 24 [.int .i64 a, .int .i64 b, .int .i64 k, .string s, .string ⟨#[]⟩, .string ⟨#[]⟩, .int .i64 0], hR.alloc _, only_trans hg0 (World.grownBy_alloc w4 _ _), hwl, hgl⟩
  clear hd4 hR hg0
  have c2 := hS.2.1.cell (i := 2) rfl
  rcases (show k = 1 ∨ k = 2 ∨ k = 3 ∨ k = 4 ∨ k = 5 ∨ k = 6 ∨ k = 7 by omega) with rfl | rfl | rfl | rfl | rfl | rfl | rfl

  focus
    go_wp2_with (fail)
    clear c2
    generalize w4.alloc (.cells #[.int .i64 a, .int .i64 b, .int .i64 1, .string s, .string ⟨#[]⟩, .string ⟨#[]⟩, .int .i64 0] 24) = W5 at hS ⊢
    have hK : ∃ c : Cmd, [.int .i64 a, .int .i64 b, .int .i64 1, .string s, .string ⟨#[]⟩, .string ⟨#[]⟩, .int .i64 0] = c.cells ∧ c.drawn := ⟨⟨a, b, 1, s, ⟨#[]⟩, ⟨#[]⟩, 0⟩, rfl, la, lb, ⟨show (-9223372036854775808 : Int) ≤ 1 by omega, show (1 : Int) ≤ 9223372036854775807 by omega⟩, ⟨show (-9223372036854775808 : Int) ≤ 0 by omega, show (0 : Int) ≤ 9223372036854775807 by omega⟩, hs', by first | assumption | exact Nat.zero_le _, by first | assumption | exact Nat.zero_le _⟩
    generalize ([.int .i64 a, .int .i64 b, .int .i64 1, .string s, .string ⟨#[]⟩, .string ⟨#[]⟩, .int .i64 0] : List Value) = cs at hS hK
    clear la lb hs'
    generalize W5 = W at hS ⊢
  rotate_left
  focus
    go_wp2_with (fail)
    clear c2
    generalize w4.alloc (.cells #[.int .i64 a, .int .i64 b, .int .i64 2, .string s, .string ⟨#[]⟩, .string ⟨#[]⟩, .int .i64 0] 24) = W5 at hS ⊢
    have hK : ∃ c : Cmd, [.int .i64 a, .int .i64 b, .int .i64 2, .string s, .string ⟨#[]⟩, .string ⟨#[]⟩, .int .i64 0] = c.cells ∧ c.drawn := ⟨⟨a, b, 2, s, ⟨#[]⟩, ⟨#[]⟩, 0⟩, rfl, la, lb, ⟨show (-9223372036854775808 : Int) ≤ 2 by omega, show (2 : Int) ≤ 9223372036854775807 by omega⟩, ⟨show (-9223372036854775808 : Int) ≤ 0 by omega, show (0 : Int) ≤ 9223372036854775807 by omega⟩, hs', by first | assumption | exact Nat.zero_le _, by first | assumption | exact Nat.zero_le _⟩
    generalize ([.int .i64 a, .int .i64 b, .int .i64 2, .string s, .string ⟨#[]⟩, .string ⟨#[]⟩, .int .i64 0] : List Value) = cs at hS hK
    clear la lb hs'
    generalize W5 = W at hS ⊢
  rotate_left
  focus
    obtain ⟨S, hE⟩ : ∃ S : List ByteArray, S = [⟨#[120]⟩, ⟨#[121, 121]⟩, ⟨#[122, 122, 122]⟩] := ⟨_, rfl⟩
    have PB : Blk ((w4.alloc (.cells #[.int .i64 a, .int .i64 b, .int .i64 3, .string s, .string ⟨#[]⟩, .string ⟨#[]⟩, .int .i64 0] 24)).alloc (.cells (S.map Value.string).toArray 9)) (w4.heap.size + 1) 9 (S.map Value.string) := by
      have h := Blk.fresh (w4.alloc (.cells #[.int .i64 a, .int .i64 b, .int .i64 3, .string s, .string ⟨#[]⟩, .string ⟨#[]⟩, .int .i64 0] 24)) 9 (S.map Value.string)
      rw [World.size_alloc] at h
      exact h
    have PP := Lib.hid (pick_any B g (w4.heap.size + 1) S _ (hS.1.alloc (.cells (S.map Value.string).toArray 9)) PB (by rw [hE]; decide) (by rw [hE]; decide))
    have hsz : ∀ s ∈ S, s.size ≤ 100 := by rw [hE]; decide
    have hS1 := hS.alloc (.cells (S.map Value.string).toArray 9)
    rw [hE] at PP hsz hS1
    clear hE PB
    go_wp2_with (fail)
    refine PP.out.mono ?_
    rintro e w6 ⟨x, hm, rfl, hd, ho⟩
    have lx := hsz x hm
    replace hS := hS1.draw hd ho
    clear hS1 hd ho hm hsz PP
    have e0 := hS.2.1.cell (i := 5) rfl
    have f0 := hS.2.1.froz 5
    have hS' := hS.put 5 (.string x)
    simp only [List.set_cons_succ, List.set_cons_zero] at hS'
    clear hS
    go_wp2_with (fail)
    generalize w6.setCell ⟨w4.heap.size, 5, none⟩ (.string x) = W6 at hS' ⊢
    have hS := hS'
    clear hS' e0 f0
    have hK : ∃ c : Cmd, [.int .i64 a, .int .i64 b, .int .i64 3, .string s, .string ⟨#[]⟩, .string x, .int .i64 0] = c.cells ∧ c.drawn := ⟨⟨a, b, 3, s, ⟨#[]⟩, x, 0⟩, rfl, la, lb, ⟨show (-9223372036854775808 : Int) ≤ 3 by omega, show (3 : Int) ≤ 9223372036854775807 by omega⟩, ⟨show (-9223372036854775808 : Int) ≤ 0 by omega, show (0 : Int) ≤ 9223372036854775807 by omega⟩, hs', by first | assumption | exact Nat.zero_le _, by first | assumption | exact Nat.zero_le _⟩
    generalize ([.int .i64 a, .int .i64 b, .int .i64 3, .string s, .string ⟨#[]⟩, .string x, .int .i64 0] : List Value) = cs at hS hK
    clear la lb hs'
    generalize W6 = W at hS ⊢
    clear c2
  rotate_left
  focus
    obtain ⟨S, hE⟩ : ∃ S : List ByteArray, S = [⟨#[103]⟩, ⟨#[104]⟩] := ⟨_, rfl⟩
    have PB : Blk ((w4.alloc (.cells #[.int .i64 a, .int .i64 b, .int .i64 4, .string s, .string ⟨#[]⟩, .string ⟨#[]⟩, .int .i64 0] 24)).alloc (.cells (S.map Value.string).toArray 9)) (w4.heap.size + 1) 9 (S.map Value.string) := by
      have h := Blk.fresh (w4.alloc (.cells #[.int .i64 a, .int .i64 b, .int .i64 4, .string s, .string ⟨#[]⟩, .string ⟨#[]⟩, .int .i64 0] 24)) 9 (S.map Value.string)
      rw [World.size_alloc] at h
      exact h
    have PP := Lib.hid (pick_any B g (w4.heap.size + 1) S _ (hS.1.alloc (.cells (S.map Value.string).toArray 9)) PB (by rw [hE]; decide) (by rw [hE]; decide))
    have hsz : ∀ s ∈ S, s.size ≤ 100 := by rw [hE]; decide
    have hS1 := hS.alloc (.cells (S.map Value.string).toArray 9)
    rw [hE] at PP hsz hS1
    clear hE PB
    go_wp2_with (fail)
    refine PP.out.mono ?_
    rintro e w6 ⟨gg, hm, rfl, hd, ho⟩
    have lgg := hsz gg hm
    replace hS := hS1.draw hd ho
    clear hS1 hd ho hm hsz PP
    have e0 := hS.2.1.cell (i := 4) rfl
    have f0 := hS.2.1.froz 4
    have hS' := hS.put 4 (.string gg)
    simp only [List.set_cons_succ, List.set_cons_zero] at hS'
    clear hS
    go_wp2_with (fail)
    generalize w6.setCell ⟨w4.heap.size, 4, none⟩ (.string gg) = W6 at hS' ⊢
    have hS := hS'
    clear hS' e0 f0
    refine (n_any B g 6 _ hS.1 (by omega) (by omega)).mono ?_
    rintro e w7 ⟨n, rfl, n0, n1', _, hd, ho⟩
    have n1 := n1' (by omega)
    clear n1'
    replace hS := hS.draw hd ho
    clear hd ho
    have e0 := hS.2.1.cell (i := 6) rfl
    have f0 := hS.2.1.froz 6
    have hS' := hS.put 6 (.int .i64 n)
    simp only [List.set_cons_succ, List.set_cons_zero] at hS'
    clear hS
    go_wp2_with (fail)
    generalize w7.setCell ⟨w4.heap.size, 6, none⟩ (.int .i64 n) = W7 at hS' ⊢
    have hS := hS'
    clear hS' e0 f0
    have hK : ∃ c : Cmd, [.int .i64 a, .int .i64 b, .int .i64 4, .string s, .string gg, .string ⟨#[]⟩, .int .i64 n] = c.cells ∧ c.drawn := ⟨⟨a, b, 4, s, gg, ⟨#[]⟩, n⟩, rfl, la, lb, ⟨show (-9223372036854775808 : Int) ≤ 4 by omega, show (4 : Int) ≤ 9223372036854775807 by omega⟩, ⟨show (-9223372036854775808 : Int) ≤ n by omega, show (n : Int) ≤ 9223372036854775807 by omega⟩, hs', by first | assumption | exact Nat.zero_le _, by first | assumption | exact Nat.zero_le _⟩
    generalize ([.int .i64 a, .int .i64 b, .int .i64 4, .string s, .string gg, .string ⟨#[]⟩, .int .i64 n] : List Value) = cs at hS hK
    clear la lb hs'
    generalize W7 = W at hS ⊢
    clear c2 n0 n1 lgg
  rotate_left
  focus
    obtain ⟨S, hE⟩ : ∃ S : List ByteArray, S = [⟨#[103]⟩, ⟨#[104]⟩] := ⟨_, rfl⟩
    have PB : Blk ((w4.alloc (.cells #[.int .i64 a, .int .i64 b, .int .i64 5, .string s, .string ⟨#[]⟩, .string ⟨#[]⟩, .int .i64 0] 24)).alloc (.cells (S.map Value.string).toArray 9)) (w4.heap.size + 1) 9 (S.map Value.string) := by
      have h := Blk.fresh (w4.alloc (.cells #[.int .i64 a, .int .i64 b, .int .i64 5, .string s, .string ⟨#[]⟩, .string ⟨#[]⟩, .int .i64 0] 24)) 9 (S.map Value.string)
      rw [World.size_alloc] at h
      exact h
    have PP := Lib.hid (pick_any B g (w4.heap.size + 1) S _ (hS.1.alloc (.cells (S.map Value.string).toArray 9)) PB (by rw [hE]; decide) (by rw [hE]; decide))
    have hsz : ∀ s ∈ S, s.size ≤ 100 := by rw [hE]; decide
    have hS1 := hS.alloc (.cells (S.map Value.string).toArray 9)
    rw [hE] at PP hsz hS1
    clear hE PB
    go_wp2_with (fail)
    refine PP.out.mono ?_
    rintro e w6 ⟨gg, hm, rfl, hd, ho⟩
    have lgg := hsz gg hm
    replace hS := hS1.draw hd ho
    clear hS1 hd ho hm hsz PP
    have e0 := hS.2.1.cell (i := 4) rfl
    have f0 := hS.2.1.froz 4
    have hS' := hS.put 4 (.string gg)
    simp only [List.set_cons_succ, List.set_cons_zero] at hS'
    clear hS
    go_wp2_with (fail)
    generalize w6.setCell ⟨w4.heap.size, 4, none⟩ (.string gg) = W6 at hS' ⊢
    have hS := hS'
    clear hS' e0 f0
    refine (n_any B g 6 _ hS.1 (by omega) (by omega)).mono ?_
    rintro e w7 ⟨n, rfl, n0, n1', _, hd, ho⟩
    have n1 := n1' (by omega)
    clear n1'
    replace hS := hS.draw hd ho
    clear hd ho
    have e0 := hS.2.1.cell (i := 6) rfl
    have f0 := hS.2.1.froz 6
    have hS' := hS.put 6 (.int .i64 n)
    simp only [List.set_cons_succ, List.set_cons_zero] at hS'
    clear hS
    go_wp2_with (fail)
    generalize w7.setCell ⟨w4.heap.size, 6, none⟩ (.int .i64 n) = W7 at hS' ⊢
    have hS := hS'
    clear hS' e0 f0
    have hK : ∃ c : Cmd, [.int .i64 a, .int .i64 b, .int .i64 5, .string s, .string gg, .string ⟨#[]⟩, .int .i64 n] = c.cells ∧ c.drawn := ⟨⟨a, b, 5, s, gg, ⟨#[]⟩, n⟩, rfl, la, lb, ⟨show (-9223372036854775808 : Int) ≤ 5 by omega, show (5 : Int) ≤ 9223372036854775807 by omega⟩, ⟨show (-9223372036854775808 : Int) ≤ n by omega, show (n : Int) ≤ 9223372036854775807 by omega⟩, hs', by first | assumption | exact Nat.zero_le _, by first | assumption | exact Nat.zero_le _⟩
    generalize ([.int .i64 a, .int .i64 b, .int .i64 5, .string s, .string gg, .string ⟨#[]⟩, .int .i64 n] : List Value) = cs at hS hK
    clear la lb hs'
    generalize W7 = W at hS ⊢
    clear c2 n0 n1 lgg
  rotate_left
  focus
    obtain ⟨S, hE⟩ : ∃ S : List ByteArray, S = [⟨#[103]⟩, ⟨#[104]⟩] := ⟨_, rfl⟩
    have PB : Blk ((w4.alloc (.cells #[.int .i64 a, .int .i64 b, .int .i64 6, .string s, .string ⟨#[]⟩, .string ⟨#[]⟩, .int .i64 0] 24)).alloc (.cells (S.map Value.string).toArray 9)) (w4.heap.size + 1) 9 (S.map Value.string) := by
      have h := Blk.fresh (w4.alloc (.cells #[.int .i64 a, .int .i64 b, .int .i64 6, .string s, .string ⟨#[]⟩, .string ⟨#[]⟩, .int .i64 0] 24)) 9 (S.map Value.string)
      rw [World.size_alloc] at h
      exact h
    have PP := Lib.hid (pick_any B g (w4.heap.size + 1) S _ (hS.1.alloc (.cells (S.map Value.string).toArray 9)) PB (by rw [hE]; decide) (by rw [hE]; decide))
    have hsz : ∀ s ∈ S, s.size ≤ 100 := by rw [hE]; decide
    have hS1 := hS.alloc (.cells (S.map Value.string).toArray 9)
    rw [hE] at PP hsz hS1
    clear hE PB
    go_wp2_with (fail)
    refine PP.out.mono ?_
    rintro e w6 ⟨gg, hm, rfl, hd, ho⟩
    have lgg := hsz gg hm
    replace hS := hS1.draw hd ho
    clear hS1 hd ho hm hsz PP
    have e0 := hS.2.1.cell (i := 4) rfl
    have f0 := hS.2.1.froz 4
    have hS' := hS.put 4 (.string gg)
    simp only [List.set_cons_succ, List.set_cons_zero] at hS'
    clear hS
    go_wp2_with (fail)
    generalize w6.setCell ⟨w4.heap.size, 4, none⟩ (.string gg) = W6 at hS' ⊢
    have hS := hS'
    clear hS' e0 f0
    refine (n_any B g 6 _ hS.1 (by omega) (by omega)).mono ?_
    rintro e w7 ⟨n, rfl, n0, n1', _, hd, ho⟩
    have n1 := n1' (by omega)
    clear n1'
    replace hS := hS.draw hd ho
    clear hd ho
    have e0 := hS.2.1.cell (i := 6) rfl
    have f0 := hS.2.1.froz 6
    have hS' := hS.put 6 (.int .i64 n)
    simp only [List.set_cons_succ, List.set_cons_zero] at hS'
    clear hS
    go_wp2_with (fail)
    generalize w7.setCell ⟨w4.heap.size, 6, none⟩ (.int .i64 n) = W7 at hS' ⊢
    have hS := hS'
    clear hS' e0 f0
    have hK : ∃ c : Cmd, [.int .i64 a, .int .i64 b, .int .i64 6, .string s, .string gg, .string ⟨#[]⟩, .int .i64 n] = c.cells ∧ c.drawn := ⟨⟨a, b, 6, s, gg, ⟨#[]⟩, n⟩, rfl, la, lb, ⟨show (-9223372036854775808 : Int) ≤ 6 by omega, show (6 : Int) ≤ 9223372036854775807 by omega⟩, ⟨show (-9223372036854775808 : Int) ≤ n by omega, show (n : Int) ≤ 9223372036854775807 by omega⟩, hs', by first | assumption | exact Nat.zero_le _, by first | assumption | exact Nat.zero_le _⟩
    generalize ([.int .i64 a, .int .i64 b, .int .i64 6, .string s, .string gg, .string ⟨#[]⟩, .int .i64 n] : List Value) = cs at hS hK
    clear la lb hs'
    generalize W7 = W at hS ⊢
    clear c2 n0 n1 lgg
  rotate_left
  focus
    go_wp2_with (fail)
    refine (n_any B g 4 _ hS.1 (by omega) (by omega)).mono ?_
    rintro e w7 ⟨n, rfl, n0, n1', _, hd, ho⟩
    have n1 := n1' (by omega)
    clear n1'
    replace hS := hS.draw hd ho
    clear hd ho
    have e0 := hS.2.1.cell (i := 6) rfl
    have f0 := hS.2.1.froz 6
    have hS' := hS.put 6 (.int .i64 n)
    simp only [List.set_cons_succ, List.set_cons_zero] at hS'
    clear hS
    go_wp2_with (fail)
    generalize w7.setCell ⟨w4.heap.size, 6, none⟩ (.int .i64 n) = W7 at hS' ⊢
    have hS := hS'
    clear hS' e0 f0
    have hK : ∃ c : Cmd, [.int .i64 a, .int .i64 b, .int .i64 7, .string s, .string ⟨#[]⟩, .string ⟨#[]⟩, .int .i64 n] = c.cells ∧ c.drawn := ⟨⟨a, b, 7, s, ⟨#[]⟩, ⟨#[]⟩, n⟩, rfl, la, lb, ⟨show (-9223372036854775808 : Int) ≤ 7 by omega, show (7 : Int) ≤ 9223372036854775807 by omega⟩, ⟨show (-9223372036854775808 : Int) ≤ n by omega, show (n : Int) ≤ 9223372036854775807 by omega⟩, hs', by first | assumption | exact Nat.zero_le _, by first | assumption | exact Nat.zero_le _⟩
    generalize ([.int .i64 a, .int .i64 b, .int .i64 7, .string s, .string ⟨#[]⟩, .string ⟨#[]⟩, .int .i64 n] : List Value) = cs at hS hK
    clear la lb hs'
    generalize W7 = W at hS ⊢
    clear c2 n0 n1
  rotate_left
  all_goals
    clear hwl
    generalize w4.heap.size = p at hS ⊢
    obtain ⟨⟨a', b', k', t', g', x', n'⟩, rfl, hc⟩ := hK
    unfold Cmd.cells at hS
    simp only at hS
    unfold Cmd.drawn at hc
    simp only at hc
    refine (one_any B g 20 _ hS.1 (by omega) (by omega)).mono ?_
    rintro e w8 ⟨bb, rfl, hd, ho⟩
    replace hS := hS.draw hd ho
    clear hd ho
    cases bb
    · have d0 := hS.2.1.cell (i := 0) rfl
      have z0 := hS.2.2.1.cell (i := 0) rfl
      have y0 := hS.2.2.1.froz 0
      have d1 := hS.2.1.cell (i := 1) rfl
      have z1 := hS.2.2.1.cell (i := 1) rfl
      have y1 := hS.2.2.1.froz 1
      have d2 := hS.2.1.cell (i := 2) rfl
      have z2 := hS.2.2.1.cell (i := 2) rfl
      have y2 := hS.2.2.1.froz 2
      have d3 := hS.2.1.cell (i := 3) rfl
      have z3 := hS.2.2.1.cell (i := 3) rfl
      have y3 := hS.2.2.1.froz 3
      have d4 := hS.2.1.cell (i := 4) rfl
      have z4 := hS.2.2.1.cell (i := 4) rfl
      have y4 := hS.2.2.1.froz 4
      have d5 := hS.2.1.cell (i := 5) rfl
      have z5 := hS.2.2.1.cell (i := 5) rfl
      have y5 := hS.2.2.1.froz 5
      have d6 := hS.2.1.cell (i := 6) rfl
      have z6 := hS.2.2.1.cell (i := 6) rfl
      have y6 := hS.2.2.1.froz 6
      go_wp2
      have hF := (((((((hS.toDR.put 0 (.int .i64 a')).put 1 (.int .i64 b')).put 2 (.int .i64 k')).put 3 (.string t')).put 4 (.string g')).put 5 (.string x')).put 6 (.int .i64 n'))
      simp only [List.set_cons_succ, List.set_cons_zero] at hF
      clear d0 d1 d2 d3 d4 d5 d6 z0 z1 z2 z3 z4 z5 z6 y0 y1 y2 y3 y4 y5 y6
      generalize (((((((w8.setCell ⟨w.heap.size, 0, none⟩ (.int .i64 a')).setCell ⟨w.heap.size, 1, none⟩ (.int .i64 b')).setCell ⟨w.heap.size, 2, none⟩ (.int .i64 k')).setCell ⟨w.heap.size, 3, none⟩ (.string t')).setCell ⟨w.heap.size, 4, none⟩ (.string g')).setCell ⟨w.heap.size, 5, none⟩ (.string x')).setCell ⟨w.heap.size, 6, none⟩ (.int .i64 n')) = WF at hF ⊢
      have k0 := hF.2.1.cell (i := 0) rfl
      have k1 := hF.2.1.cell (i := 1) rfl
      have k2 := hF.2.1.cell (i := 2) rfl
      have k3 := hF.2.1.cell (i := 3) rfl
      have k4 := hF.2.1.cell (i := 4) rfl
      have k5 := hF.2.1.cell (i := 5) rfl
      have k6 := hF.2.1.cell (i := 6) rfl
      exact bodyPost_ret (v := cmdV (a') (b') (k') (t') (g') (x') (n')) (by simp [results, Tryd.results18, go_sem, k0, k1, k2, k3, k4, k5, k6]) rfl ⟨⟨a', b', k', t', g', x', n'⟩, rfl, hc, hF.1, hF.2.2.1⟩
    · go_wp2_with (fail)
      refine (n_any B g 5 _ hS.1 (by omega) (by omega)).mono ?_
      rintro e w9 ⟨m, rfl, m0, m1', _, hd, ho⟩
      have m1 := m1' (by omega)
      clear m1'
      replace hS := hS.draw hd ho
      clear hd ho
      rcases (show m = 0 ∨ m = 1 ∨ m = 2 ∨ m = 3 ∨ m = 4 by omega) with rfl | rfl | rfl | rfl | rfl
      · clear m0 m1
        have hS1 := hS.alloc (.cells #[.int .i64 0, .int .i64 9, .int .i64 10] 2)
        have hgw : g < w9.heap.size := hS.1.lt.2.1
        go_wp2_with (fail)
        refine (n_any B g 3 _ hS1.1 (by omega) (by omega)).mono ?_
        rintro e wa ⟨j, rfl, j0, j1', _, hd, ho⟩
        have j1 := j1' (by omega)
        clear j1'
        obtain ⟨y, hy1, hyc⟩ := pick_cell [0, 9, 10] 2 ho hgw j0 j1
        have hy : -9223372036854775808 ≤ y ∧ y ≤ 9223372036854775807 := (by decide : ∀ z ∈ ([0, 9, 10] : List Int), -9223372036854775808 ≤ z ∧ z ≤ 9223372036854775807) y hy1
        replace hS := hS1.draw hd ho
        clear hd ho hS1 hy1
        have e0 := hS.2.1.cell (i := 0) rfl
        have f0 := hS.2.1.froz 0
        have hS' := hS.put 0 (.int .i64 y)
        simp only [List.set_cons_succ, List.set_cons_zero] at hS'
        go_upto_region 23 with (fail)
        clear hS e0 f0 hyc
        generalize wa.setCell ⟨p, 0, none⟩ (.int .i64 y) = wb at hS' ⊢
        have hS := hS'
        clear hS'
        have d0 := hS.2.1.cell (i := 0) rfl
        have z0 := hS.2.2.1.cell (i := 0) rfl
        have y0 := hS.2.2.1.froz 0
        have d1 := hS.2.1.cell (i := 1) rfl
        have z1 := hS.2.2.1.cell (i := 1) rfl
        have y1 := hS.2.2.1.froz 1
        have d2 := hS.2.1.cell (i := 2) rfl
        have z2 := hS.2.2.1.cell (i := 2) rfl
        have y2 := hS.2.2.1.froz 2
        have d3 := hS.2.1.cell (i := 3) rfl
        have z3 := hS.2.2.1.cell (i := 3) rfl
        have y3 := hS.2.2.1.froz 3
        have d4 := hS.2.1.cell (i := 4) rfl
        have z4 := hS.2.2.1.cell (i := 4) rfl
        have y4 := hS.2.2.1.froz 4
        have d5 := hS.2.1.cell (i := 5) rfl
        have z5 := hS.2.2.1.cell (i := 5) rfl
        have y5 := hS.2.2.1.froz 5
        have d6 := hS.2.1.cell (i := 6) rfl
        have z6 := hS.2.2.1.cell (i := 6) rfl
        have y6 := hS.2.2.1.froz 6
        go_wp2
        have hF := (((((((hS.toDR.put 0 (.int .i64 y)).put 1 (.int .i64 b')).put 2 (.int .i64 k')).put 3 (.string t')).put 4 (.string g')).put 5 (.string x')).put 6 (.int .i64 n'))
        simp only [List.set_cons_succ, List.set_cons_zero] at hF
        clear d0 d1 d2 d3 d4 d5 d6 z0 z1 z2 z3 z4 z5 z6 y0 y1 y2 y3 y4 y5 y6
        generalize (((((((wb.setCell ⟨w.heap.size, 0, none⟩ (.int .i64 y)).setCell ⟨w.heap.size, 1, none⟩ (.int .i64 b')).setCell ⟨w.heap.size, 2, none⟩ (.int .i64 k')).setCell ⟨w.heap.size, 3, none⟩ (.string t')).setCell ⟨w.heap.size, 4, none⟩ (.string g')).setCell ⟨w.heap.size, 5, none⟩ (.string x')).setCell ⟨w.heap.size, 6, none⟩ (.int .i64 n')) = WF at hF ⊢
        have k0 := hF.2.1.cell (i := 0) rfl
        have k1 := hF.2.1.cell (i := 1) rfl
        have k2 := hF.2.1.cell (i := 2) rfl
        have k3 := hF.2.1.cell (i := 3) rfl
        have k4 := hF.2.1.cell (i := 4) rfl
        have k5 := hF.2.1.cell (i := 5) rfl
        have k6 := hF.2.1.cell (i := 6) rfl
        exact bodyPost_ret (v := cmdV (y) (b') (k') (t') (g') (x') (n')) (by simp [results, Tryd.results18, go_sem, k0, k1, k2, k3, k4, k5, k6]) rfl ⟨⟨y, b', k', t', g', x', n'⟩, rfl, ⟨hy, hc.2⟩, hF.1, hF.2.2.1⟩
      · clear m0 m1
        have hS1 := hS.alloc (.cells #[.int .i64 0, .int .i64 1000000000, .int .i64 1000000001] 2)
        have hgw : g < w9.heap.size := hS.1.lt.2.1
        go_wp2_with (fail)
        refine (n_any B g 3 _ hS1.1 (by omega) (by omega)).mono ?_
        rintro e wa ⟨j, rfl, j0, j1', _, hd, ho⟩
        have j1 := j1' (by omega)
        clear j1'
        obtain ⟨y, hy1, hyc⟩ := pick_cell [0, 1000000000, 1000000001] 2 ho hgw j0 j1
        have hy : -9223372036854775808 ≤ y ∧ y ≤ 9223372036854775807 := (by decide : ∀ z ∈ ([0, 1000000000, 1000000001] : List Int), -9223372036854775808 ≤ z ∧ z ≤ 9223372036854775807) y hy1
        replace hS := hS1.draw hd ho
        clear hd ho hS1 hy1
        have e0 := hS.2.1.cell (i := 1) rfl
        have f0 := hS.2.1.froz 1
        have hS' := hS.put 1 (.int .i64 y)
        simp only [List.set_cons_succ, List.set_cons_zero] at hS'
        go_upto_region 23 with (fail)
        clear hS e0 f0 hyc
        generalize wa.setCell ⟨p, 1, none⟩ (.int .i64 y) = wb at hS' ⊢
        have hS := hS'
        clear hS'
        have d0 := hS.2.1.cell (i := 0) rfl
        have z0 := hS.2.2.1.cell (i := 0) rfl
        have y0 := hS.2.2.1.froz 0
        have d1 := hS.2.1.cell (i := 1) rfl
        have z1 := hS.2.2.1.cell (i := 1) rfl
        have y1 := hS.2.2.1.froz 1
        have d2 := hS.2.1.cell (i := 2) rfl
        have z2 := hS.2.2.1.cell (i := 2) rfl
        have y2 := hS.2.2.1.froz 2
        have d3 := hS.2.1.cell (i := 3) rfl
        have z3 := hS.2.2.1.cell (i := 3) rfl
        have y3 := hS.2.2.1.froz 3
        have d4 := hS.2.1.cell (i := 4) rfl
        have z4 := hS.2.2.1.cell (i := 4) rfl
        have y4 := hS.2.2.1.froz 4
        have d5 := hS.2.1.cell (i := 5) rfl
        have z5 := hS.2.2.1.cell (i := 5) rfl
        have y5 := hS.2.2.1.froz 5
        have d6 := hS.2.1.cell (i := 6) rfl
        have z6 := hS.2.2.1.cell (i := 6) rfl
        have y6 := hS.2.2.1.froz 6
        go_wp2
        have hF := (((((((hS.toDR.put 0 (.int .i64 a')).put 1 (.int .i64 y)).put 2 (.int .i64 k')).put 3 (.string t')).put 4 (.string g')).put 5 (.string x')).put 6 (.int .i64 n'))
        simp only [List.set_cons_succ, List.set_cons_zero] at hF
        clear d0 d1 d2 d3 d4 d5 d6 z0 z1 z2 z3 z4 z5 z6 y0 y1 y2 y3 y4 y5 y6
        generalize (((((((wb.setCell ⟨w.heap.size, 0, none⟩ (.int .i64 a')).setCell ⟨w.heap.size, 1, none⟩ (.int .i64 y)).setCell ⟨w.heap.size, 2, none⟩ (.int .i64 k')).setCell ⟨w.heap.size, 3, none⟩ (.string t')).setCell ⟨w.heap.size, 4, none⟩ (.string g')).setCell ⟨w.heap.size, 5, none⟩ (.string x')).setCell ⟨w.heap.size, 6, none⟩ (.int .i64 n')) = WF at hF ⊢
        have k0 := hF.2.1.cell (i := 0) rfl
        have k1 := hF.2.1.cell (i := 1) rfl
        have k2 := hF.2.1.cell (i := 2) rfl
        have k3 := hF.2.1.cell (i := 3) rfl
        have k4 := hF.2.1.cell (i := 4) rfl
        have k5 := hF.2.1.cell (i := 5) rfl
        have k6 := hF.2.1.cell (i := 6) rfl
        exact bodyPost_ret (v := cmdV (a') (y) (k') (t') (g') (x') (n')) (by simp [results, Tryd.results18, go_sem, k0, k1, k2, k3, k4, k5, k6]) rfl ⟨⟨a', y, k', t', g', x', n'⟩, rfl, ⟨hc.1, hy, hc.2.2⟩, hF.1, hF.2.2.1⟩
      · clear m0 m1
        have hS1 := hS.alloc (.cells #[.int .i64 0, .int .i64 8] 2)
        have hgw : g < w9.heap.size := hS.1.lt.2.1
        go_wp2_with (fail)
        refine (n_any B g 2 _ hS1.1 (by omega) (by omega)).mono ?_
        rintro e wa ⟨j, rfl, j0, j1', _, hd, ho⟩
        have j1 := j1' (by omega)
        clear j1'
        obtain ⟨y, hy1, hyc⟩ := pick_cell [0, 8] 2 ho hgw j0 j1
        have hy : -9223372036854775808 ≤ y ∧ y ≤ 9223372036854775807 := (by decide : ∀ z ∈ ([0, 8] : List Int), -9223372036854775808 ≤ z ∧ z ≤ 9223372036854775807) y hy1
        replace hS := hS1.draw hd ho
        clear hd ho hS1 hy1
        have e0 := hS.2.1.cell (i := 2) rfl
        have f0 := hS.2.1.froz 2
        have hS' := hS.put 2 (.int .i64 y)
        simp only [List.set_cons_succ, List.set_cons_zero] at hS'
        go_upto_region 23 with (fail)
        clear hS e0 f0 hyc
        generalize wa.setCell ⟨p, 2, none⟩ (.int .i64 y) = wb at hS' ⊢
        have hS := hS'
        clear hS'
        have d0 := hS.2.1.cell (i := 0) rfl
        have z0 := hS.2.2.1.cell (i := 0) rfl
        have y0 := hS.2.2.1.froz 0
        have d1 := hS.2.1.cell (i := 1) rfl
        have z1 := hS.2.2.1.cell (i := 1) rfl
        have y1 := hS.2.2.1.froz 1
        have d2 := hS.2.1.cell (i := 2) rfl
        have z2 := hS.2.2.1.cell (i := 2) rfl
        have y2 := hS.2.2.1.froz 2
        have d3 := hS.2.1.cell (i := 3) rfl
        have z3 := hS.2.2.1.cell (i := 3) rfl
        have y3 := hS.2.2.1.froz 3
        have d4 := hS.2.1.cell (i := 4) rfl
        have z4 := hS.2.2.1.cell (i := 4) rfl
        have y4 := hS.2.2.1.froz 4
        have d5 := hS.2.1.cell (i := 5) rfl
        have z5 := hS.2.2.1.cell (i := 5) rfl
        have y5 := hS.2.2.1.froz 5
        have d6 := hS.2.1.cell (i := 6) rfl
        have z6 := hS.2.2.1.cell (i := 6) rfl
        have y6 := hS.2.2.1.froz 6
        go_wp2
        have hF := (((((((hS.toDR.put 0 (.int .i64 a')).put 1 (.int .i64 b')).put 2 (.int .i64 y)).put 3 (.string t')).put 4 (.string g')).put 5 (.string x')).put 6 (.int .i64 n'))
        simp only [List.set_cons_succ, List.set_cons_zero] at hF
        clear d0 d1 d2 d3 d4 d5 d6 z0 z1 z2 z3 z4 z5 z6 y0 y1 y2 y3 y4 y5 y6
        generalize (((((((wb.setCell ⟨w.heap.size, 0, none⟩ (.int .i64 a')).setCell ⟨w.heap.size, 1, none⟩ (.int .i64 b')).setCell ⟨w.heap.size, 2, none⟩ (.int .i64 y)).setCell ⟨w.heap.size, 3, none⟩ (.string t')).setCell ⟨w.heap.size, 4, none⟩ (.string g')).setCell ⟨w.heap.size, 5, none⟩ (.string x')).setCell ⟨w.heap.size, 6, none⟩ (.int .i64 n')) = WF at hF ⊢
        have k0 := hF.2.1.cell (i := 0) rfl
        have k1 := hF.2.1.cell (i := 1) rfl
        have k2 := hF.2.1.cell (i := 2) rfl
        have k3 := hF.2.1.cell (i := 3) rfl
        have k4 := hF.2.1.cell (i := 4) rfl
        have k5 := hF.2.1.cell (i := 5) rfl
        have k6 := hF.2.1.cell (i := 6) rfl
        exact bodyPost_ret (v := cmdV (a') (b') (y) (t') (g') (x') (n')) (by simp [results, Tryd.results18, go_sem, k0, k1, k2, k3, k4, k5, k6]) rfl ⟨⟨a', b', y, t', g', x', n'⟩, rfl, ⟨hc.1, hc.2.1, hy, hc.2.2.2⟩, hF.1, hF.2.2.1⟩
      · clear m0 m1
        go_wp2_with (fail)
        refine (n_any B g 2 _ hS.1 (by omega) (by omega)).mono ?_
        rintro e wa ⟨y, rfl, y0, y1', _, hd, ho⟩
        have y1 := y1' (by omega)
        clear y1'
        replace hS := hS.draw hd ho
        clear hd ho
        have hY : 40 + y = ((40 + y.toNat : Nat) : Int) := by omega
        have HY := Lib.hid hY
        clear hY
        have hss : (strOfNums (List.replicate (40 + y.toNat) 0)).size ≤ 100 := by rw [strOfNums_size]; simp; omega
        go_wp2_with (at_make; refine wpList_make_full _ rfl _ _ 22 rfl wa.heap.size 5 i0 (.int .u8 0) 1 Tryd.underlying22 hi hz0 hz1 _ _ _ _ (40 + y.toNat) rfl rfl HY.out HY.out (by rw [hz2]; omega) (by unfold maxLen; omega) (Nat.le_refl _) ?_; intro w6 hown6 hgrow6; rw [made_zero] at hown6; have hcv := own_string hown6; have hb6 : Below wa.heap.size wa w6 := (Below.refl _ _).grown hgrow6 (Nat.le_refl _) (fun k e => by cases e); replace hS := hS.draw (hS.1.below hb6) (grown_below hb6); clear hown6 hgrow6; have e0 := hS.2.1.cell (i := 5) rfl; have f0 := hS.2.1.froz 5; have hS' := hS.put 5 (.string (strOfNums (List.replicate (40 + y.toNat) 0))); simp only [List.set_cons_succ, List.set_cons_zero] at hS'; have d0 := hS'.2.1.cell (i := 0) rfl; have z0 := hS'.2.2.1.cell (i := 0) rfl; have y0 := hS'.2.2.1.froz 0; have d1 := hS'.2.1.cell (i := 1) rfl; have z1 := hS'.2.2.1.cell (i := 1) rfl; have y1 := hS'.2.2.1.froz 1; have d2 := hS'.2.1.cell (i := 2) rfl; have z2 := hS'.2.2.1.cell (i := 2) rfl; have y2 := hS'.2.2.1.froz 2; have d3 := hS'.2.1.cell (i := 3) rfl; have z3 := hS'.2.2.1.cell (i := 3) rfl; have y3 := hS'.2.2.1.froz 3; have d4 := hS'.2.1.cell (i := 4) rfl; have z4 := hS'.2.2.1.cell (i := 4) rfl; have y4 := hS'.2.2.1.froz 4; have d5 := hS'.2.1.cell (i := 5) rfl; have z5 := hS'.2.2.1.cell (i := 5) rfl; have y5 := hS'.2.2.1.froz 5; have d6 := hS'.2.1.cell (i := 6) rfl; have z6 := hS'.2.2.1.cell (i := 6) rfl; have y6 := hS'.2.2.1.froz 6)
        clear d0 d1 d2 d3 d4 d5 d6 z0 z1 z2 z3 z4 z5 z6 y0 y1 y2 y3 y4 y5 y6 hS e0 f0
        generalize strOfNums (List.replicate (40 + y.toNat) 0) = sx at hS' hss ⊢
        generalize w6.setCell ⟨p, 5, none⟩ (.string sx) = wb at hS' ⊢
        have hS := hS'
        clear hS'
        have hF := (((((((hS.toDR.put 0 (.int .i64 a')).put 1 (.int .i64 b')).put 2 (.int .i64 k')).put 3 (.string t')).put 4 (.string g')).put 5 (.string sx)).put 6 (.int .i64 n'))
        simp only [List.set_cons_succ, List.set_cons_zero] at hF
        generalize (((((((wb.setCell ⟨w.heap.size, 0, none⟩ (.int .i64 a')).setCell ⟨w.heap.size, 1, none⟩ (.int .i64 b')).setCell ⟨w.heap.size, 2, none⟩ (.int .i64 k')).setCell ⟨w.heap.size, 3, none⟩ (.string t')).setCell ⟨w.heap.size, 4, none⟩ (.string g')).setCell ⟨w.heap.size, 5, none⟩ (.string sx)).setCell ⟨w.heap.size, 6, none⟩ (.int .i64 n')) = WF at hF ⊢
        have k0 := hF.2.1.cell (i := 0) rfl
        have k1 := hF.2.1.cell (i := 1) rfl
        have k2 := hF.2.1.cell (i := 2) rfl
        have k3 := hF.2.1.cell (i := 3) rfl
        have k4 := hF.2.1.cell (i := 4) rfl
        have k5 := hF.2.1.cell (i := 5) rfl
        have k6 := hF.2.1.cell (i := 6) rfl
        exact bodyPost_ret (v := cmdV (a') (b') (k') (t') (g') (sx) (n')) (by simp [results, Tryd.results18, go_sem, k0, k1, k2, k3, k4, k5, k6]) rfl ⟨⟨a', b', k', t', g', sx, n'⟩, rfl, ⟨hc.1, hc.2.1, hc.2.2.1, hc.2.2.2.1, hc.2.2.2.2.1, hc.2.2.2.2.2.1, hss⟩, hF.1, hF.2.2.1⟩
      · clear m0 m1
        have hS1 := hS.alloc (.cells #[.int .i64 (-1), .int .i64 20, .int .i64 21, .int .i64 1000000001] 2)
        have hgw : g < w9.heap.size := hS.1.lt.2.1
        go_wp2_with (fail)
        refine (n_any B g 4 _ hS1.1 (by omega) (by omega)).mono ?_
        rintro e wa ⟨j, rfl, j0, j1', _, hd, ho⟩
        have j1 := j1' (by omega)
        clear j1'
        obtain ⟨y, hy1, hyc⟩ := pick_cell [-1, 20, 21, 1000000001] 2 ho hgw j0 j1
        have hy : -9223372036854775808 ≤ y ∧ y ≤ 9223372036854775807 := (by decide : ∀ z ∈ ([-1, 20, 21, 1000000001] : List Int), -9223372036854775808 ≤ z ∧ z ≤ 9223372036854775807) y hy1
        replace hS := hS1.draw hd ho
        clear hd ho hS1 hy1
        have e0 := hS.2.1.cell (i := 6) rfl
        have f0 := hS.2.1.froz 6
        have hS' := hS.put 6 (.int .i64 y)
        simp only [List.set_cons_succ, List.set_cons_zero] at hS'
        go_upto_region 23 with (fail)
        clear hS e0 f0 hyc
        generalize wa.setCell ⟨p, 6, none⟩ (.int .i64 y) = wb at hS' ⊢
        have hS := hS'
        clear hS'
        have d0 := hS.2.1.cell (i := 0) rfl
        have z0 := hS.2.2.1.cell (i := 0) rfl
        have y0 := hS.2.2.1.froz 0
        have d1 := hS.2.1.cell (i := 1) rfl
        have z1 := hS.2.2.1.cell (i := 1) rfl
        have y1 := hS.2.2.1.froz 1
        have d2 := hS.2.1.cell (i := 2) rfl
        have z2 := hS.2.2.1.cell (i := 2) rfl
        have y2 := hS.2.2.1.froz 2
        have d3 := hS.2.1.cell (i := 3) rfl
        have z3 := hS.2.2.1.cell (i := 3) rfl
        have y3 := hS.2.2.1.froz 3
        have d4 := hS.2.1.cell (i := 4) rfl
        have z4 := hS.2.2.1.cell (i := 4) rfl
        have y4 := hS.2.2.1.froz 4
        have d5 := hS.2.1.cell (i := 5) rfl
        have z5 := hS.2.2.1.cell (i := 5) rfl
        have y5 := hS.2.2.1.froz 5
        have d6 := hS.2.1.cell (i := 6) rfl
        have z6 := hS.2.2.1.cell (i := 6) rfl
        have y6 := hS.2.2.1.froz 6
        go_wp2
        have hF := (((((((hS.toDR.put 0 (.int .i64 a')).put 1 (.int .i64 b')).put 2 (.int .i64 k')).put 3 (.string t')).put 4 (.string g')).put 5 (.string x')).put 6 (.int .i64 y))
        simp only [List.set_cons_succ, List.set_cons_zero] at hF
        clear d0 d1 d2 d3 d4 d5 d6 z0 z1 z2 z3 z4 z5 z6 y0 y1 y2 y3 y4 y5 y6
        generalize (((((((wb.setCell ⟨w.heap.size, 0, none⟩ (.int .i64 a')).setCell ⟨w.heap.size, 1, none⟩ (.int .i64 b')).setCell ⟨w.heap.size, 2, none⟩ (.int .i64 k')).setCell ⟨w.heap.size, 3, none⟩ (.string t')).setCell ⟨w.heap.size, 4, none⟩ (.string g')).setCell ⟨w.heap.size, 5, none⟩ (.string x')).setCell ⟨w.heap.size, 6, none⟩ (.int .i64 y)) = WF at hF ⊢
        have k0 := hF.2.1.cell (i := 0) rfl
        have k1 := hF.2.1.cell (i := 1) rfl
        have k2 := hF.2.1.cell (i := 2) rfl
        have k3 := hF.2.1.cell (i := 3) rfl
        have k4 := hF.2.1.cell (i := 4) rfl
        have k5 := hF.2.1.cell (i := 5) rfl
        have k6 := hF.2.1.cell (i := 6) rfl
        exact bodyPost_ret (v := cmdV (a') (b') (k') (t') (g') (x') (y)) (by simp [results, Tryd.results18, go_sem, k0, k1, k2, k3, k4, k5, k6]) rfl ⟨⟨a', b', k', t', g', x', y⟩, rfl, ⟨hc.1, hc.2.1, hc.2.2.1, hy, hc.2.2.2.2⟩, hF.1, hF.2.2.1⟩

end Go.Proofs.YtpgodphnjeifhaaDoor
