/- The marks in rows of changes: what markChangeS leaves. markChangeS marks a row of changes and all that they hold. What heldChangeS, heldSay, heldSayOut find; markSay, markSayOut. impl.readChange: a change read, its proofs in a row of the call's own. -/
import Derived.Test.YtjnbhppnchmeoaaDoorSyHpW
namespace Go.Proofs.YtjnbhppnchmeoaaDoor
open Go.RowKit
set_option linter.unusedVariables false
set_option maxRecDepth 1000000

theorem Frm.own {w w' : World} {S : Nat → Prop} {base s n : Nat} {T : TypeId} {v : Value} {xs : List Value} (hf : Frm w w' S) (h : w.ownsRow base T s v n xs) (hs : ∀ b, v.ownBlock = some b → ¬ S b) : w'.ownsRow base T s v n xs := by
  refine ⟨h.1, ?_⟩
  rcases h.2 with hn | ⟨g, cap, cur, rfl, hb, hgg, rest⟩
  · exact .inl hn
  · refine .inr ⟨g, cap, cur, rfl, hb, ?_, rest⟩
    rw [hf.block g (Array.getElem?_eq_some_iff.1 hgg).1 (hs g rfl)]
    exact hgg
theorem Frm.then {w v v' : World} {S T : Nat → Prop} (h : Frm w v S) (h' : Frm v v' T) (hs : ∀ b, T b → S b) : Frm w v' S :=
  ⟨h'.os.trans h.os, h'.tape.trans h.tape, h'.output.trans h.output, Nat.le_trans h.size h'.size, fun b hb hn => (h'.block b (Nat.lt_of_lt_of_le hb h.size) (fun e => hn (hs b e))).trans (h.block b hb hn)⟩
theorem apartA.symm {A B : Option Addr} (h : apartA A B) : apartA B A := fun a b ha hb e => h b a hb ha e.symm
theorem PrfsO.iff {w : World} {base : Nat} {M : List PrfA} : PrfsO w base M ↔ (∀ m, m ∈ M → PrfO w base m) ∧ (M.map (·.A)).Pairwise apartA := by
  constructor
  · rintro ⟨h1, h2⟩
    refine ⟨fun m hm => ?_, ?_⟩
    · obtain ⟨i, hi, rfl⟩ := List.getElem_of_mem hm
      exact h1 i hi
    · rw [List.pairwise_iff_getElem]
      intro i j hi hj hlt
      simp only [List.length_map] at hi hj
      rw [List.getElem_map, List.getElem_map]
      exact h2 i j hi hj (by omega)
  · rintro ⟨h1, h2⟩
    refine ⟨fun i hi => h1 _ (List.getElem_mem hi), fun i j hi hj hne => ?_⟩
    rw [List.pairwise_iff_getElem] at h2
    by_cases e : i < j
    · have := h2 i j (by simpa using hi) (by simpa using hj) e
      rwa [List.getElem_map, List.getElem_map] at this
    · have := h2 j i (by simpa using hj) (by simpa using hi) (by omega)
      rw [List.getElem_map, List.getElem_map] at this
      exact this.symm
theorem CngsO.iff {w : World} {base : Nat} {L : List CM} : CngsO w base L ↔ (∀ x, x ∈ L → w.ownsRow base 90 4 (.slice x.m.A x.m.t.proofs.length x.m.c) x.m.t.proofs.length (pflat x.M) ∧ x.M.map (·.t) = x.m.t.proofs) ∧ (L.map (·.m.A)).Pairwise apartA ∧ PrfsO w base (inn L) := by
  constructor
  · rintro ⟨h1, h2, h3, h4⟩
    refine ⟨fun x hx => ?_, ?_, h4⟩
    · obtain ⟨i, hi, rfl⟩ := List.getElem_of_mem hx
      exact ⟨h1 i hi, h2 i hi⟩
    · rw [List.pairwise_iff_getElem]
      intro i j hi hj hlt
      simp only [List.length_map] at hi hj
      rw [List.getElem_map, List.getElem_map]
      exact h3 i j hi hj (by omega)
  · rintro ⟨h1, h2, h4⟩
    refine ⟨fun i hi => (h1 _ (List.getElem_mem hi)).1, fun i hi => (h1 _ (List.getElem_mem hi)).2, fun i j hi hj hne => ?_, h4⟩
    rw [List.pairwise_iff_getElem] at h2
    by_cases e : i < j
    · have := h2 i j (by simpa using hi) (by simpa using hj) e
      rwa [List.getElem_map, List.getElem_map] at this
    · have := h2 j i (by simpa using hj) (by simpa using hi) (by omega)
      rw [List.getElem_map, List.getElem_map] at this
      exact this.symm
theorem inn_mid (L1 L2 : List CM) (c : CM) : inn (L1 ++ c :: L2) = inn L1 ++ (c.M ++ inn L2) := by simp [inn]
theorem CngsO.pick {w : World} {base : Nat} {L1 L2 : List CM} {c : CM} (h : CngsO w base (L1 ++ c :: L2)) : CngO w base c.m c.M := by
  obtain ⟨h1, h2, h3⟩ := CngsO.iff.1 h
  obtain ⟨p1, p2⟩ := PrfsO.iff.1 h3
  rw [inn_mid] at p1 p2
  refine ⟨(h1 c (by simp)).1, (h1 c (by simp)).2, PrfsO.iff.2 ⟨fun m hm => p1 m (by simp [hm]), ?_⟩⟩
  rw [List.map_append, List.map_append] at p2
  exact (List.pairwise_append.1 (List.pairwise_append.1 p2).2.1).1
/-- Rows of other types lie apart from a change's. -/
theorem CngO.far {w : World} {base b s n : Nat} {T : TypeId} {c : CM} {v : Value} {xs : List Value} (h : CngO w base c.m c.M) (hr : w.ownsRow b T s v n xs) (h1 : T ≠ 2) (h2 : T ≠ 90) : ∀ k, v.ownBlock = some k → ¬ blkP c.m.A c.M k := by
  rintro k hk (e | ⟨i, hi, e⟩)
  · rcases own_apart hr h.row h2 with h3 | h3
    · rw [hk] at h3; cases h3
    · exact h3 (by rw [hk, own_blk, e])
  · rcases own_apart hr (h.own.1 i hi) h1 with h3 | h3
    · rw [hk] at h3; cases h3
    · exact h3 (by rw [hk, own_blk, e])
/-- One change among others is marked. -/
theorem CngsO.mid {w w' : World} {base : Nat} {L1 L2 : List CM} {c c' : CM} (ho : CngsO w base (L1 ++ c :: L2)) (hA : c'.m.A = c.m.A) (hM : c'.M.map (·.A) = c.M.map (·.A)) (hc : CngO w' base c'.m c'.M) (hf : Frm w w' (blkP c.m.A c.M)) : CngsO w' base (L1 ++ c' :: L2) := by
  have hp := ho.pick
  obtain ⟨h1, h2, h3⟩ := CngsO.iff.1 ho
  obtain ⟨p1, p2⟩ := PrfsO.iff.1 h3
  have e2 : (L1 ++ c' :: L2).map (·.m.A) = (L1 ++ c :: L2).map (·.m.A) := by simp [hA]
  have e3 : (inn (L1 ++ c' :: L2)).map (·.A) = (inn (L1 ++ c :: L2)).map (·.A) := by rw [inn_mid, inn_mid]; simp [hM]
  refine CngsO.iff.2 ⟨fun x hx => ?_, by rw [e2]; exact h2, PrfsO.iff.2 ⟨fun m hm => ?_, by rw [e3]; exact p2⟩⟩
  · have hx' : x = c' ∨ (x ∈ L1 ∨ x ∈ L2) := by
      simp only [List.mem_append, List.mem_cons] at hx
      rcases hx with h | h | h
      · exact .inr (.inl h)
      · exact .inl h
      · exact .inr (.inr h)
    rcases hx' with rfl | hx'
    · exact ⟨hc.row, hc.all⟩
    · have hin : x ∈ L1 ++ c :: L2 := by
        rcases hx' with h | h
        · exact List.mem_append_left _ h
        · exact List.mem_append_right _ (List.mem_cons_of_mem _ h)
      obtain ⟨r, al⟩ := h1 x hin
      refine ⟨hf.own r ?_, al⟩
      rintro k hk (e | ⟨i, hi, e⟩)
      · have hap : apartA x.m.A c.m.A := by
          rw [List.map_append, List.map_cons] at h2
          obtain ⟨_, q2, q3⟩ := List.pairwise_append.1 h2
          rcases hx' with h | h
          · exact q3 _ (List.mem_map_of_mem h) _ (by simp)
          · exact ((List.pairwise_cons.1 q2).1 _ (List.mem_map_of_mem h)).symm
        rw [own_blk] at hk
        obtain ⟨a, ha, rfl⟩ := Option.map_eq_some_iff.1 hk
        obtain ⟨b, hb, e⟩ := Option.map_eq_some_iff.1 e
        exact hap a b ha hb e.symm
      · rcases own_apart r (hp.own.1 i hi) (by decide) with h3 | h3
        · rw [hk] at h3; cases h3
        · exact h3 (by rw [hk, own_blk, e])
  · rw [inn_mid] at hm
    have hm' : m ∈ c'.M ∨ (m ∈ inn L1 ∨ m ∈ inn L2) := by
      simp only [List.mem_append] at hm
      rcases hm with h | h | h
      · exact .inr (.inl h)
      · exact .inl h
      · exact .inr (.inr h)
    rcases hm' with h | h
    · exact (PrfsO.iff.1 hc.own).1 m h
    · have r := p1 m (by rw [inn_mid]; simp only [List.mem_append]; rcases h with h | h; exact .inl h; exact .inr (.inr h))
      refine hf.own r ?_
      rintro k hk (e | ⟨i, hi, e⟩)
      · rcases own_apart r hp.row (by decide) with h3 | h3
        · rw [hk] at h3; cases h3
        · exact h3 (by rw [hk, own_blk, e])
      · have hap : apartA m.A c.M[i].A := by
          rw [inn_mid, List.map_append, List.map_append] at p2
          obtain ⟨_, q2, q3⟩ := List.pairwise_append.1 p2
          have hin : c.M[i].A ∈ c.M.map (·.A) := List.mem_map_of_mem (List.getElem_mem hi)
          rcases h with h | h
          · exact q3 _ (List.mem_map_of_mem h) _ (List.mem_append_left _ hin)
          · exact ((List.pairwise_append.1 q2).2.2 _ hin _ (List.mem_map_of_mem h)).symm
        rw [own_blk] at hk
        obtain ⟨a, ha, rfl⟩ := Option.map_eq_some_iff.1 hk
        obtain ⟨b, hb, e⟩ := Option.map_eq_some_iff.1 e
        exact hap a b ha hb e.symm
def mkC (k : Nat) (x : CM) : CM := ⟨⟨⟨((k : Nat) : Int), ((k + 1 : Nat) : Int), (mkPs (k + 2) x.M).map (·.t)⟩, x.m.A, x.m.c⟩, mkPs (k + 2) x.M⟩
def wC (x : CM) : Nat := 2 + wPs x.M
def mkL : Nat → List CM → List CM
  | _, [] => []
  | k, x :: L => mkC k x :: mkL (k + wC x) L
def wL : List CM → Nat
  | [] => 0
  | x :: L => wC x + wL L
theorem mkL_len : ∀ (L : List CM) (k : Nat), (mkL k L).length = L.length
  | [], _ => rfl
  | x :: L, k => by show (mkL (k + wC x) L).length + 1 = L.length + 1; rw [mkL_len L]
theorem mkL_get : ∀ (L : List CM) (k i : Nat) (h : i < L.length), (mkL k L)[i]'(by rw [mkL_len]; exact h) = mkC (k + wL (L.take i)) L[i]
  | [], _, _, h => absurd h (by simp)
  | x :: L, k, 0, _ => rfl
  | x :: L, k, i + 1, h => by
    have := mkL_get L (k + wC x) i (by simpa using h)
    simp only [mkL, List.getElem_cons_succ, List.take_succ_cons, wL]
    rw [this, Nat.add_assoc]
theorem wL_take : ∀ (L : List CM) (i : Nat) (h : i < L.length), wL (L.take (i + 1)) = wL (L.take i) + wC L[i]
  | [], _, h => absurd h (by simp)
  | x :: L, 0, _ => by simp [wL]
  | x :: L, i + 1, h => by
    have := wL_take L i (by simpa using h)
    simp only [List.take_succ_cons, wL, List.getElem_cons_succ] at this ⊢
    omega
theorem wL_le : ∀ (L : List CM) (i : Nat), wL (L.take i) ≤ wL L
  | [], i => by simp
  | x :: L, 0 => Nat.zero_le _
  | x :: L, i + 1 => by have := wL_le L i; simp only [List.take_succ_cons, wL]; omega
theorem mkPs_A : ∀ (M : List PrfA) (k : Nat), (mkPs k M).map (·.A) = M.map (·.A)
  | [], _ => rfl
  | m :: M, k => by simp only [mkPs, List.map_cons, mkPs_A M]; rfl
/-- The first j of L marked. -/
def mixL (k : Nat) (L : List CM) (j : Nat) : List CM := (mkL k L).take j ++ L.drop j
theorem mixL_len {k : Nat} {L : List CM} {j : Nat} (h : j ≤ L.length) : (mixL k L j).length = L.length := by
  unfold mixL; simp [mkL_len]; omega
theorem mixL_at {k : Nat} {L : List CM} {j : Nat} (h : j < L.length) : mixL k L j = (mkL k L).take j ++ L[j] :: L.drop (j + 1) := by
  unfold mixL; rw [List.drop_eq_getElem_cons h]
theorem mixL_next {k : Nat} {L : List CM} {j : Nat} (h : j < L.length) : mixL k L (j + 1) = (mkL k L).take j ++ mkC (k + wL (L.take j)) L[j] :: L.drop (j + 1) := by
  unfold mixL
  rw [List.take_succ_eq_append_getElem (by rw [mkL_len]; exact h), mkL_get L k j h, List.append_assoc]
  rfl
theorem mixL_end (k : Nat) (L : List CM) : mixL k L L.length = mkL k L := by
  unfold mixL
  rw [List.take_of_length_le (by rw [mkL_len]; exact Nat.le_refl _), List.drop_of_length_le (Nat.le_refl _), List.append_nil]
/-- The blocks of a row and of what its changes hold. -/
def blkC (A : Option Addr) (L : List CM) (b : Nat) : Prop := A.map (·.block) = some b ∨ ∃ i, ∃ h : i < L.length, blkP L[i].m.A L[i].M b
theorem cflat_mark {T D : List CM} {x : CM} {j kk : Nat} (hT : T.length = j) (hx : x.m.t.proofs.length = x.M.length) :
    ((cflat ((T ++ x :: D).map (·.m))).set (j * 3) (.int .i64 (kk : Int))).set (j * 3 + 1) (.int .i64 ((kk : Int) + 1)) = cflat ((T ++ mkC kk x :: D).map (·.m)) := by
  have e1 : (T ++ mkC kk x :: D).map (·.m) = ((T ++ x :: D).map (·.m)).set j (mkC kk x).m := by
    rw [List.map_append, List.map_cons, List.map_append, List.map_cons, List.set_append_right _ _ (by simp [hT])]
    simp [hT]
  rw [e1, ← cflat_set]
  have e4 : (mkC kk x).m.t.proofs.length = x.m.t.proofs.length := by simp [mkC, mkPs_len, hx]
  rw [e4]
  symm
  refine set_same ?_
  have hl : j < ((T ++ x :: D).map (·.m)).length := by simp; omega
  rw [List.getElem?_set_ne (by omega), List.getElem?_set_ne (by omega), cflat_get _ j hl 2 (by omega)]
  have : ((T ++ x :: D).map (·.m))[j] = x.m := by
    rw [List.getElem_map, List.getElem_append_right (by omega)]
    simp [hT]
  rw [this]
  rfl
end Go.Proofs.YtjnbhppnchmeoaaDoor

namespace Go.Proofs.YtjnbhppnchmeoaaDoor
open Go.RowKit
set_option linter.unusedVariables false
set_option maxRecDepth 1000000

set_option maxHeartbeats 4000000 in
theorem markChangeS_row (g c base bi k : Nat) (L : List CM) (w : World) (hr : w.ownsRow base 66 3 (.slice (some ⟨g, 0, none⟩) L.length c) L.length (cflat (L.map (·.m)))) (ho : CngsO w bi L) (h0 : 1 ≤ k) (h1 : k + wL L ≤ 3999990) :
    Calls Tryd.prog 60 #[.slice (some ⟨g, 0, none⟩) L.length c, .int .i64 k] w fun e w' => e = .returned (.int .i64 ((k + wL L : Nat) : Int)) ∧
      w'.ownsRow base 66 3 (.slice (some ⟨g, 0, none⟩) L.length c) L.length (cflat ((mkL k L).map (·.m))) ∧ CngsO w' bi (mkL k L) ∧ Frm w w' (blkC (some ⟨g, 0, none⟩) L) := by
  have hn := hr.1
  rw [cflat_len] at hn
  have hml : L.length ≤ 4000000 := by
    have : ∀ L : List CM, L.length ≤ wL L := fun L => by
      induction L with
      | nil => exact Nat.zero_le _
      | cons m L ih => simp only [List.length_cons, wL, wC]; omega
    have := this L
    omega
  go_enter Tryd.func60, Tryd.ntmps60
  go_wp2
  go_loopw [1, 5] (fun q i wr => ∃ j : Nat, j ≤ L.length ∧ i = .int .i64 j ∧ q = .int .i64 ((k + wL (L.take j) : Nat) : Int) ∧ wr.ownsRow base 66 3 (.slice (some ⟨g, 0, none⟩) L.length c) L.length (cflat ((mixL k L j).map (·.m))) ∧ CngsO wr bi (mixL k L j) ∧ Frm w wr (blkC (some ⟨g, 0, none⟩) L)) (fun _ i _ => L.length - (intOf i).toNat)
  case atStart => exact ⟨0, by omega, rfl, rfl, hr, ho, Frm.refl _ _⟩
  case round =>
    clear hr ho
    obtain ⟨j, hj, rfl, rfl, hr, ho, hf⟩ := hrel
    by_cases hlt : j < L.length
    · have hlt' : (j : Int) < (L.length : Int) := by omega
      have hle := wL_le L (j + 1)
      have hst := wL_take L j hlt
      have hwp : wC L[j] = 2 + wPs L[j].M := rfl
      have hlm : (mixL k L j).length = L.length := mixL_len hj
      have hnx := Lib.hid (mixL_next (k := k) hlt)
      have hTl : ((mkL k L).take j).length = j := by rw [List.length_take, mkL_len]; omega
      rw [mixL_at hlt] at hr ho
      have hx : L[j].m.t.proofs.length = L[j].M.length := by have := ho.pick.all; rw [← this, List.length_map]
      have BL := Lib.hid (fun b (h : blkP L[j].m.A L[j].M b) => (show blkC (some ⟨g, 0, none⟩) L b from .inr ⟨j, hlt, h⟩))
      have hST := Lib.hid hst
      have hgm : ((List.take j (mkL k L) ++ L[j] :: List.drop (j + 1) L).map (·.m))[j]'(by rw [List.length_map, ← mixL_at hlt, hlm]; exact hlt) = L[j].m := by
        rw [List.getElem_map, List.getElem_append_right (by omega)]
        simp [hTl]
      obtain ⟨y0, y1, y2, f0, f1, f2⟩ := row_c hr (k := j) (by rw [List.length_map, ← mixL_at hlt, hlm]; exact hlt)
      rw [hgm] at y0 y1 y2
      obtain ⟨x, hxx⟩ : ∃ x, Hid (L[j] = x) := ⟨_, Lib.hid rfl⟩
      rw [hxx.out] at hr ho hx BL y0 y1 y2 hwp hnx hST hst
      clear hgm
      have hNX := hnx.out
      clear hnx
      generalize List.take j (mkL k L) = T at hr ho hNX hTl
      generalize List.drop (j + 1) L = D at hr ho hNX
      have hnx := Lib.hid hNX
      clear hNX
      obtain ⟨kk, hkk⟩ : ∃ kk, Hid (k + wL (L.take j) = kk) := ⟨_, Lib.hid rfl⟩
      rw [hkk.out] at hnx ⊢
      have hk1 : 1 ≤ kk ∧ kk + 2 + wPs x.M ≤ 3999990 := by have := hkk.out; omega
      have CM := Lib.hid (cflat_mark (T := T) (D := D) (kk := kk) hTl hx)
      have r1 := (hr.stored (j * 3) (.int .i64 (kk : Int))).1
      have r2 := (r1.stored (j * 3 + 1) (.int .i64 ((kk : Int) + 1))).1
      rw [CM.out] at r2
      have o1 := ho.row' hr (by decide) (by decide) (grown_cell wr ⟨g, j * 3, none⟩ (.int .i64 (kk : Int)))
      have o2 := o1.row' r1 (by decide) (by decide) (grown_cell (wr.setCell ⟨g, j * 3, none⟩ (.int .i64 (kk : Int))) ⟨g, j * 3 + 1, none⟩ (.int .i64 ((kk : Int) + 1)))
      have q2 := (hf.grown (grown_cell wr ⟨g, j * 3, none⟩ (.int .i64 (kk : Int))) (fun b e => .inl e)).grown (grown_cell (wr.setCell ⟨g, j * 3, none⟩ (.int .i64 (kk : Int))) ⟨g, j * 3 + 1, none⟩ (.int .i64 ((kk : Int) + 1))) (fun b e => .inl e)
      have po := o2.pick
      have pr := po.row
      rw [hx] at pr
      have MP := Lib.hid (markProofS_own x.m.A x.m.c bi bi (kk + 2) x.M _ pr po.own (by omega) (by omega))
      rw [show ((kk + 2 : Nat) : Int) = (kk : Int) + 1 + 1 by omega] at MP
      rw [hx] at y2
      clear hst hle hwp pr
      go_wp2_with (fail)
      refine MP.out.mono ?_
      rintro e v3 ⟨rfl, hr3, ho3, hf3⟩
      have r3 := hf3.own r2 (po.far r2 (by decide) (by decide))
      have q3 := q2.then hf3 BL.out
      have o3 := o2.mid (c' := mkC kk x) rfl (mkPs_A x.M (kk + 2)) ⟨by
        have e5 : (mkC kk x).m.t.proofs.length = x.M.length := by simp [mkC, mkPs_len]
        rw [e5]; exact hr3, rfl, ho3⟩ hf3
      rw [← hnx.out] at r3 o3
      clear y0 y1 y2 f0 f1 f2 r1 r2 o1 o2 q2 po MP hr ho hf
      have hq : kk + 2 + wPs x.M = k + wL (L.take (j + 1)) := by have h1 := hST.out; have h2 := hkk.out; have h3 : wC x = 2 + wPs x.M := rfl; omega
      rw [hq]
      go_wp2
      exact ⟨⟨j + 1, by omega, by go_num, rfl, r3, o3, q3⟩, by simp [intOf]; omega⟩
    · obtain rfl : j = L.length := by omega
      go_wp2
      go_ret
      rw [mixL_end] at hr ho
      exact ⟨by rw [List.take_of_length_le (Nat.le_refl _)]; rfl, hr, ho, hf⟩
theorem markChangeS_own (A : Option Addr) (c base bi k : Nat) (L : List CM) (w : World) (hr : w.ownsRow base 66 3 (.slice A L.length c) L.length (cflat (L.map (·.m)))) (ho : CngsO w bi L) (h0 : 1 ≤ k) (h1 : k + wL L ≤ 3999990) :
    Calls Tryd.prog 60 #[.slice A L.length c, .int .i64 k] w fun e w' => e = .returned (.int .i64 ((k + wL L : Nat) : Int)) ∧
      w'.ownsRow base 66 3 (.slice A L.length c) L.length (cflat ((mkL k L).map (·.m))) ∧ CngsO w' bi (mkL k L) ∧ Frm w w' (blkC A L) := by
  rcases hr.2 with ⟨hv, hz⟩ | ⟨g, cap, cur, hv, _⟩
  · have hz' : L = [] := List.eq_nil_of_length_eq_zero hz
    subst hz'
    cases hv
    go_enter Tryd.func60, Tryd.ntmps60
    go_wp2
    go_loop [1, 5] (fun q i => q = .int .i64 k ∧ i = .int .i64 0) (fun _ _ => 0)
    case atStart => exact ⟨rfl, rfl⟩
    case round =>
      obtain ⟨rfl, rfl⟩ := hrel
      go_wp2
      go_ret
      exact ⟨rfl, World.ownsRow_nil _ _ _ _, CngsO.nil _ _, Frm.refl _ _⟩
  · cases hv
    exact markChangeS_row g c base bi k L w hr ho h0 h1
end Go.Proofs.YtjnbhppnchmeoaaDoor

namespace Go.Proofs.YtjnbhppnchmeoaaDoor
open Go.RowKit
set_option linter.unusedVariables false
set_option maxRecDepth 1000000

theorem mkL_t (L : List CM) (k i : Nat) (h : i < L.length) : (((mkL k L).map (·.m.t))[i]'(by rw [List.length_map, mkL_len]; exact h)) = (mkC (k + wL (L.take i)) L[i]).m.t := by
  rw [List.getElem_map, mkL_get L k i h]
set_option maxHeartbeats 4000000 in
theorem heldChangeS_any (A : Option Addr) (c k : Nat) (L : List CM) (w : World) {lo : Nat} (hF : Chs w lo w.heap.size A ((mkL k L).map (·.m.t))) (h0 : 1 ≤ k) (h1 : k + wL L ≤ 3999990) :
    Calls Tryd.prog 61 #[.slice A L.length c, .int .i64 k] w fun e w' => e = .returned (.int .i64 ((k + wL L : Nat) : Int)) ∧ Below w.heap.size w w' := by
  have hml : L.length ≤ 4000000 := by
    have : ∀ L : List CM, L.length ≤ wL L := fun L => by
      induction L with
      | nil => exact Nat.zero_le _
      | cons m L ih => simp only [List.length_cons, wL, wC]; omega
    have := this L
    omega
  have hll : ((mkL k L).map (·.m.t)).length = L.length := by rw [List.length_map, mkL_len]
  go_enter Tryd.func61, Tryd.ntmps61
  go_wp2
  go_loopw [1, 5] (fun q i wr => ∃ j : Nat, j ≤ L.length ∧ i = .int .i64 j ∧ q = .int .i64 ((k + wL (L.take j) : Nat) : Int) ∧ Below w.heap.size w wr) (fun _ i _ => L.length - (intOf i).toNat)
  case atStart => exact ⟨0, by omega, rfl, rfl, Below.refl _ _⟩
  case round =>
    obtain ⟨j, hj, rfl, rfl, hb⟩ := hrel
    by_cases hlt : j < L.length
    · have hlt' : (j : Int) < (L.length : Int) := by omega
      have hle := wL_le L (j + 1)
      have hst := wL_take L j hlt
      have hwp : wC L[j] = 2 + wPs L[j].M := rfl
      obtain ⟨a, rfl, hab, C, c1, y0, y1, y2, hC⟩ := (hF.on hb).at j (by rw [hll]; exact hlt)
      rw [mkL_t L k j hlt] at y0 y1 y2 hC
      have hST := Lib.hid hst
      obtain ⟨kk, hkk⟩ : ∃ kk, Hid (k + wL (L.take j) = kk) := ⟨_, Lib.hid rfl⟩
      rw [hkk.out] at y0 y1 y2 hC ⊢
      simp only [mkC, List.length_map, mkPs_len] at y0 y1 y2 hC
      rw [show ((kk + 1 : Nat) : Int) = (kk : Int) + 1 by omega] at y1
      have hk1 : 1 ≤ kk ∧ kk + 2 + wPs L[j].M ≤ 3999990 := by have := hkk.out; omega
      have HP := Lib.hid (heldProofS_any C c1 (kk + 2) L[j].M wr hC (by omega) (by omega))
      rw [show ((kk + 2 : Nat) : Int) = (kk : Int) + 1 + 1 by omega] at HP
      clear hst hle hwp
      go_wp2_with (fail)
      refine HP.out.mono ?_
      rintro e w6 ⟨rfl, hb6⟩
      have hq : kk + 2 + wPs L[j].M = k + wL (L.take (j + 1)) := by have h1 := hST.out; have h2 := hkk.out; have h3 : wC L[j] = 2 + wPs L[j].M := rfl; omega
      rw [hq]
      have hw6 := hb.trans (hb6.mono hb.size)
      have hnn : ¬ (((k + wL (L.take (j + 1)) : Nat) : Int) < 0) := by omega
      clear y0 y1 y2 HP hb6
      go_wp2
      exact ⟨⟨j + 1, by omega, by go_num, rfl, hw6⟩, by simp [intOf]; omega⟩
    · obtain rfl : j = L.length := by omega
      go_wp2
      go_ret
      exact ⟨by rw [List.take_of_length_le (Nat.le_refl _)]; rfl, hb⟩
end Go.Proofs.YtjnbhppnchmeoaaDoor

namespace Go.Proofs.YtjnbhppnchmeoaaDoor
open Go.RowKit
set_option linter.unusedVariables false
set_option linter.unusedSimpArgs false
set_option maxRecDepth 1000000

/-- What impl.readChange knows while it reads proofs. -/
def RCI (w wr : World) (r P : Nat) (s : ByteArray) (a b : Int) (o : Option Nat) (L : List Prf) (A : Option Addr) (j c : Nat) (M : List PrfA) : Prop :=
  Rdr 55 wr r s o ∧ Blk wr P 66 [.int .i64 a, .int .i64 b, .slice A j c] ∧ wr.ownsRow (P + 1) 90 4 (.slice A j c) j (pflat M) ∧ PrfsO wr (P + 1) M ∧ M.map (·.t) = L ∧ Blk wr w.heap.size 66 [.int .i64 0, .int .i64 0, .slice none 0 0] ∧ w.grownBy wr (some r)
set_option maxHeartbeats 8000000 in
theorem implReadChange_any (r : Nat) (s : ByteArray) (o : Option Nat) (w : World) (hg : Handle w) (hv : r ≠ 0) (hR : Rdr 55 w r s o) (hs : s.size ≤ 20000) :
    Calls Tryd.prog 31 #[.pointer (some ⟨r, 0, none⟩)] w fun e w' => ∃ A c M, e = .returned (cngV (rCng s o).1 (.slice A (rCng s o).1.proofs.length c)) ∧ CngO w' w.heap.size ⟨(rCng s o).1, A, c⟩ M ∧ Rdr 55 w' r s (rCng s o).2 ∧ w.grownBy w' (some r) := by
  obtain ⟨ii, hii, iz0, iz1, iz2⟩ := info_parts infoPrf
  have hrl := hR.lt
  have C0 := Lib.hid (fun W h1 h2 => implNum_any r s o W h1 h2 hs)
  obtain ⟨a, o1, E0⟩ : ∃ x y, rN s o = (x, y) := ⟨_, _, rfl⟩
  rw [E0] at C0
  have C1 := Lib.hid (fun W h1 h2 => implNum_any r s o1 W h1 h2 hs)
  obtain ⟨b, o2, E1⟩ : ∃ x y, rN s o1 = (x, y) := ⟨_, _, rfl⟩
  rw [E1] at C1
  have C3 := Lib.hid (fun W h1 h2 => count_any r s 6 o2 W h1 h2 hs)
  have hK0 := rM_in s (most := 6) (by decide) o2
  obtain ⟨K, o4, E3⟩ : ∃ x y, rM s 6 o2 = (x, y) := ⟨_, _, rfl⟩
  rw [E3] at C3 hK0
  have hRC : rCng s o = (⟨a, b, (rL (rPrf s) K.toNat o4).1⟩, (rL (rPrf s) K.toNat o4).2) := by unfold rCng; simp only [E0, E1, E3]
  rw [hRC]
  have HLN := Lib.hid (rL_len (rPrf s) K.toNat o4)
  simp only at C0 C1 C3 hK0 ⊢
  obtain ⟨n, hn⟩ : ∃ n : Nat, K = n := ⟨K.toNat, by omega⟩
  subst hn
  rw [Int.toNat_natCast] at HLN ⊢
  have hn4 : n ≤ 6 := by omega
  clear E0 E1 E3 hRC hK0
  obtain ⟨LN, HL⟩ : ∃ x, Hid (rL (rPrf s) n o4 = x) := ⟨_, Lib.hid rfl⟩
  rw [HL.out] at HLN ⊢
  obtain ⟨LL, oe⟩ := LN
  simp only at HLN ⊢
  have X0 := Blk.fresh w 66 [.int .i64 0, .int .i64 0, .slice none 0 0]
  have b0 := below_bx w (.cells #[.int .i64 0, .int .i64 0, .slice none 0 0] 66)
  simp only [List.toArray] at X0
  have R0 := hR.below b0
  have H0 := Handle.below hg b0
  have G0 : w.grownBy (w.alloc (.cells #[.int .i64 0, .int .i64 0, .slice none 0 0] 66)) (some r) := grown_below b0
  go_enter Tryd.func31, Tryd.ntmps31
  go_wp2_with (fail)
  generalize w.alloc (.cells #[.int .i64 0, .int .i64 0, .slice none 0 0] 66) = v0 at X0 R0 H0 G0 b0 ⊢
  have hz0 := X0.lt
  clear b0
  refine (C0.out _ H0 R0).mono ?_
  rintro e v1 ⟨rfl, R1, g1⟩
  have X1 := X0.grown g1 (fun e => by have := Option.some.inj e; omega)
  have H1 := H0.grown g1 hv
  have G1 := G0.trans g1
  clear X0 R0 H0 G0 g1
  go_wp2_with (fail)
  refine (C1.out _ H1 R1).mono ?_
  rintro e v2 ⟨rfl, R2, g2⟩
  have X2 := X1.grown g2 (fun e => by have := Option.some.inj e; omega)
  have H2 := H1.grown g2 hv
  have G2 := G1.trans g2
  clear X1 R1 H1 G1 g2
  have P4 := Blk.fresh v2 66 [.int .i64 a, .int .i64 b, .slice none 0 0]
  have b4 := below_bx v2 (.cells #[.int .i64 a, .int .i64 b, .slice none 0 0] 66)
  simp only [List.toArray] at P4
  have X4 := X2.below b4 X2.lt
  have R4 := R2.below b4
  have H4 := Handle.below H2 b4
  have G4 := grown_allocr G2 (.cells #[.int .i64 a, .int .i64 b, .slice none 0 0] 66)
  have hz3 := X2.lt
  have hzr := G2.size
  go_wp2_with (fail)
  generalize v2.alloc (.cells #[.int .i64 a, .int .i64 b, .slice none 0 0] 66) = v4 at P4 b4 X4 R4 H4 G4 ⊢
  clear b4 X2 R2 H2 G2
  generalize v2.heap.size = P at P4 hz3 hzr ⊢
  refine (C3.out _ H4 R4).mono ?_
  rintro e v5 ⟨rfl, R5, g5⟩
  have P5 := P4.grown g5 (fun e => by have := Option.some.inj e; omega)
  have X5 := X4.grown g5 (fun e => by have := Option.some.inj e; omega)
  have H5 := H4.grown g5 hv
  have G5 := G4.trans g5
  clear P4 X4 R4 H4 G4 g5 C0 C1 C3
  have hpr : P ≠ r := by omega
  have hxr : w.heap.size ≠ r := by omega
  go_wp2_with (fail)
  go_loopw [11] (fun i wr => ∃ (j : Nat) (A : Option Addr) (c : Nat) (M : List PrfA), j ≤ n ∧ i = .int .i64 j ∧ RCI w wr r P s a b (rL (rPrf s) j o4).2 (rL (rPrf s) j o4).1 A j c M) (fun i _ => n - (intOf i).toNat)
  case atStart => exact ⟨0, none, 0, [], by omega, rfl, ⟨R5, P5, World.ownsRow_nil _ _ _ _, PrfsO.nil _ _, rfl, X5, G5⟩⟩
  case round =>
    clear R5 P5 X5 G5 H5
    obtain ⟨j, A, c, M, hj, rfl, ⟨R, PK, ow, oM, hMt, X, G⟩⟩ := hrel
    have H := hg.grown G hv
    by_cases hlt : j < n
    · have hlt' : (j : Int) < (n : Int) := by omega
      have HS := Lib.hid (rL_snoc (rPrf s) j o4)
      have hln := rL_len (rPrf s) j o4
      obtain ⟨⟨L, oj⟩, hLj⟩ : ∃ x, rL (rPrf s) j o4 = x := ⟨_, rfl⟩
      rw [hLj] at HS R hMt hln
      simp only at HS R hMt hln
      clear hLj
      have CN := Lib.hid (fun W h1 h2 => implReadProof_any r s oj W h1 hv h2 hs)
      obtain ⟨⟨x, ox⟩, hx⟩ : ∃ y, rPrf s oj = y := ⟨_, rfl⟩
      rw [hx] at HS CN
      simp only at HS CN
      clear hx
      have Rd := rdr_drew R
      have Hd : Handle wr.drew := Handle.below H (below_drew (Below.refl _ _))
      have y0 := PK.drew.cell (i := 2) rfl
      have yf := PK.drew.froz 2
      have hpl := PK.lt
      have owd := ow.drew
      have PKd := PK.drew
      go_wp2_with (fail)
      go_region_law
        (first
          | (go_simp; go_at_call 54; (with_reducible refine (CN.out _ Hd Rd).mono ?_); rintro e w4 ⟨Ax, cx, rfl, oP, R4, g4⟩; have PK4 := PKd.grown g4 (fun e => hpr (Option.some.inj e)); have y4 := PK4.cell (i := 2) rfl; have y4a := (PK4.alloc (.cells #[.int .i64 x.view, .int .i64 x.seq, .string x.op, .slice Ax x.who.length cx] 90)).cell (i := 2) rfl; have ow4 := World.ownsRow.kept owd g4 (.inr (fun e => by have := (owd.lt _ e).1; omega)); have zz := g4.size)
          | (refine step_append_lies _ (by rfl) _ _ _ (by rfl) (P + 1) 90 ii _ 4 56 Tryd.underlying64 hii iz0 iz1 iz2 rfl (by omega) (.slice A j c) j _ (by rfl) (World.ownsRow.alloc ow4 _)
                  ⟨w4.heap.size, 0, none⟩ 1 1 [.int .i64 x.view, .int .i64 x.seq, .string x.op, .slice Ax x.who.length cx] (by rfl) (by rfl) (World.news_of_block (cs := #[.int .i64 x.view, .int .i64 x.seq, .string x.op, .slice Ax x.who.length cx]) (t := 90) (fr := (0, 0)) (heap_alloc_new w4 _)) (by simp [Value.oneCell'])
                  (by omega) (by unfold maxLen; omega) (by omega) (by have := PK4.lt; simp only [World.size_alloc]; omega) (w4.heap.size + 1) (by simp) ?_; intro gg cap' w5 hown5 hgrow5 hat5 hlt5; have O5 := (PK4.alloc (.cells #[.int .i64 x.view, .int .i64 x.seq, .string x.op, .slice Ax x.who.length cx] 90)).grown hgrow5 (fun e => by have := (ow4.lt _ e.symm).1; omega); have y5 := O5.cell (i := 2) rfl; have f5 := O5.froz 2))
      all_goals
        have R6 := (((rdr_alloc R4 (.cells #[.int .i64 x.view, .int .i64 x.seq, .string x.op, .slice Ax x.who.length cx] 90)).grown hgrow5 (fun e => by have := (ow4.lt _ e.symm).1; omega)).far (p := ⟨P, 2, none⟩) (by simp; omega) (.slice (some ⟨gg, 0, none⟩) (j + 1) cap'))
        have PK6 := O5.put 2 (.slice (some ⟨gg, 0, none⟩) (j + 1) cap')
        simp only [List.set_cons_succ, List.set_cons_zero] at PK6
        have ow6 := row_far hown5 (p := ⟨P, 2, none⟩) (by simp) (.slice (some ⟨gg, 0, none⟩) (j + 1) cap')
        have X6 := ((((X.drew.grown g4 (fun e => hxr (Option.some.inj e))).alloc (.cells #[.int .i64 x.view, .int .i64 x.seq, .string x.op, .slice Ax x.who.length cx] 90)).grown hgrow5 (fun e => by have := (ow4.lt _ e.symm).1; omega)).far (p := ⟨P, 2, none⟩) (by simp; omega) (.slice (some ⟨gg, 0, none⟩) (j + 1) cap'))
        have G6 := grown_setr (grown_rowr (grown_allocr ((grown_drew G).trans g4) (.cells #[.int .i64 x.view, .int .i64 x.seq, .string x.op, .slice Ax x.who.length cx] 90)) hgrow5 (fun k e => by have := (ow4.lt k e).1; omega)) (p := ⟨P, 2, none⟩) (by simp; omega) (.slice (some ⟨gg, 0, none⟩) (j + 1) cap')
        rw [show pflat M ++ [.int .i64 x.view, .int .i64 x.seq, .string x.op, .slice Ax x.who.length cx] = pflat (M ++ [⟨x, Ax, cx⟩]) by rw [pflat_append]; rfl] at ow6
        have oM4 := ((oM.drew.kept g4 (fun k e => by cases e; omega)).alloc (.cells #[.int .i64 x.view, .int .i64 x.seq, .string x.op, .slice Ax x.who.length cx] 90))
        have owa := World.ownsRow.alloc ow4 (.cells #[.int .i64 x.view, .int .i64 x.seq, .string x.op, .slice Ax x.who.length cx] 90)
        have oM6 := (oM4.row owa (by decide) hgrow5).set (p := ⟨P, 2, none⟩) (by simp) (.slice (some ⟨gg, 0, none⟩) (j + 1) cap')
        have oP6 := row_far (World.ownsRow.kept (World.ownsRow.alloc oP (.cells #[.int .i64 x.view, .int .i64 x.seq, .string x.op, .slice Ax x.who.length cx] 90)) hgrow5 (own_apart (World.ownsRow.alloc oP (.cells #[.int .i64 x.view, .int .i64 x.seq, .string x.op, .slice Ax x.who.length cx] 90)) owa (by decide))) (p := ⟨P, 2, none⟩) (by simp; omega) (.slice (some ⟨gg, 0, none⟩) (j + 1) cap')
        have oN6 := oM6.append (PrfsO.one oP6) (fun i hi a e => (oM.lt i hi a e).2) (by simp; omega)
        clear y0 yf y4 y4a y5 f5
        go_wp2_with (fail)
        exact ⟨⟨j + 1, _, _, M ++ [⟨x, Ax, cx⟩], by omega, by go_num, by rw [HS.out]; exact ⟨R6, PK6, ow6, oN6, by rw [List.map_append, hMt]; rfl, X6, G6⟩⟩, by simp [intOf]; omega⟩
    · obtain rfl : j = n := by omega
      rw [HL.out] at R hMt
      simp only at R hMt
      have p0 := PK.cell (i := 0) rfl
      have p1 := PK.cell (i := 1) rfl
      have p2 := PK.cell (i := 2) rfl
      have x0 := X.cell (i := 0) rfl
      have x1 := X.cell (i := 1) rfl
      have x2 := X.cell (i := 2) rfl
      have f0 := X.froz 0
      have f1 := X.froz 1
      have f2 := X.froz 2
      have SL : ∀ u : Value, True := fun _ => trivial
      clear SL
      go_wp2_with (fail)
      have Xf := ((X.put 0 (.int .i64 a)).put 1 (.int .i64 b)).put 2 (.slice A j c)
      simp only [List.set_cons_succ, List.set_cons_zero] at Xf
      have Rf := ((R.far (p := ⟨w.heap.size, 0, none⟩) (by simp; omega) (.int .i64 a)).far (p := ⟨w.heap.size, 1, none⟩) (by simp; omega) (.int .i64 b)).far (p := ⟨w.heap.size, 2, none⟩) (by simp; omega) (.slice A j c)
      have Gf := grown_setr (grown_setr (grown_setr G (p := ⟨w.heap.size, 0, none⟩) (by simp) (.int .i64 a)) (p := ⟨w.heap.size, 1, none⟩) (by simp) (.int .i64 b)) (p := ⟨w.heap.size, 2, none⟩) (by simp) (.slice A j c)
      have of := row_far (row_far (row_far ow (p := ⟨w.heap.size, 0, none⟩) (by simp; omega) (.int .i64 a)) (p := ⟨w.heap.size, 1, none⟩) (by simp; omega) (.int .i64 b)) (p := ⟨w.heap.size, 2, none⟩) (by simp; omega) (.slice A j c)
      have oMf := ((oM.set (p := ⟨w.heap.size, 0, none⟩) (by simp; omega) (.int .i64 a)).set (p := ⟨w.heap.size, 1, none⟩) (by simp; omega) (.int .i64 b)).set (p := ⟨w.heap.size, 2, none⟩) (by simp; omega) (.slice A j c)
      clear p0 p1 p2 x0 x1 x2 f0 f1 f2 X R G ow PK oM
      generalize ((wr.setCell ⟨w.heap.size, 0, none⟩ (.int .i64 a)).setCell ⟨w.heap.size, 1, none⟩ (.int .i64 b)).setCell ⟨w.heap.size, 2, none⟩ (.slice A j c) = w9 at Xf Rf Gf of oMf ⊢
      have x0 := Xf.cell (i := 0) rfl
      have x1 := Xf.cell (i := 1) rfl
      have x2 := Xf.cell (i := 2) rfl
      refine bodyPost_ret (v := .agg #[.int .i64 a, .int .i64 b, .slice A j c]) (by simp [results, Tryd.results31, go_sem, x0, x1, x2]) rfl ⟨A, c, M, ?_, ?_, Rf, Gf⟩
      · rw [HLN.out]
      · refine ⟨?_, hMt, oMf.low (by omega)⟩
        simp only [HLN.out]
        exact own_base of (by omega)
end Go.Proofs.YtjnbhppnchmeoaaDoor
