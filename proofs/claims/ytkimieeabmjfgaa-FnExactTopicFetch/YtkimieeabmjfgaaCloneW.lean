/- The contract of impl.TopicRight. Strings and groups appended to rows of the call's own, out of slices that are read. Rows of bytes that are known whole; joined. The contract of strings.Clone. -/
import Derived.Test.YtkimieeabmjfgaaTpRIW
import Derived.Deep.RegionHeld3
import Derived.Test.YtkimieeabmjfgaaCmW
import Derived.Laws.AppendOwnNone
import Derived.Test.YtkimieeabmjfgaaRwkW
import Derived.Lib.UnsafeStr
namespace Go.Proofs.Ytkimieeabmjfgaa
open Go.RowKit
set_option linter.unusedVariables false
set_option maxRecDepth 1000000

theorem numbersBetween_b (a b : Int) (w : World) : Calls Try.prog 97 #[.int .i64 a, .int .i64 b] w fun e w' => e = .returned (btwV w.heap.size (w.heap.size + 1)) ∧ w'.cell? ⟨w.heap.size, 0, none⟩ = some (.int .i64 a) ∧ w'.cell? ⟨w.heap.size + 1, 0, none⟩ = some (.int .i64 b) ∧ Below w.heap.size w w' := by
  refine (numbersBetween_any a b w).mono ?_
  rintro e w7 ⟨rfl, rfl⟩
  refine ⟨rfl, ((Blk.fresh w 2 [.int .i64 a]).alloc _).cell (i := 0) rfl, ?_, ((Below.refl _ _).alloc (Nat.le_refl _) _).alloc (by simp) _⟩
  have := (Blk.fresh (w.alloc (.cells #[.int .i64 a] 2)) 2 [.int .i64 b]).cell (i := 0) rfl
  simp only [World.size_alloc] at this
  exact this
set_option maxHeartbeats 8000000 in
theorem implTopicRight_any (t : Tpc) (A : Option Addr) (c : Nat) (B : Option Addr) (d : Nat) (w : World) (hf : t.fits) (hA : Strs w w.heap.size A t.held) (hB : Grs w w.heap.size B t.groups) :
    Calls Try.prog 102 #[topV t.name t.base (.slice A t.held.length c) (.slice B t.groups.length d)] w fun e w' => e = .returned (.bool (topB t)) ∧ Below w.heap.size w w' := by
  obtain ⟨f0, f1, f2, f3⟩ := hf
  have F0 : Hid (∀ h : ¬ topOK t, topB t = false) := Lib.hid topB_false
  have F1 : Hid (∀ h : topOK t, topB t = true) := Lib.hid topB_true
  obtain ⟨nm, bs, H, G⟩ := t
  simp only at f0 f1 f2 f3 hA hB F0 F1 ⊢
  generalize topB ⟨nm, bs, H, G⟩ = R at F0 F1 ⊢
  have hK := Blk.fresh w 29 [.string nm, .int .i64 bs, .slice A H.length c, .slice B G.length d]
  have hb0 := below_box w (.cells #[.string nm, .int .i64 bs, .slice A H.length c, .slice B G.length d] 29)
  simp only [List.toArray] at hK
  go_enter Try.func102, Try.ntmps102
  go_wp2_with (fail)
  generalize w.alloc (.cells #[.string nm, .int .i64 bs, .slice A H.length c, .slice B G.length d] 29) = w3 at hK hb0 ⊢
  have hA3 := hA.on hb0
  have hB3 := hB.on hb0
  obtain ⟨I, f, hI', g0, gk, gc, ge⟩ := class_grown w3
  have y0 := fun s => kept_cell (gk s) (hK.cell (i := 0) rfl)
  have y1 := fun s => kept_cell (gk s) (hK.cell (i := 1) rfl)
  have y2 := fun s => kept_cell (gk s) (hK.cell (i := 2) rfl)
  have y3 := fun s => kept_cell (gk s) (hK.cell (i := 3) rfl)
  rcases Bool.eq_false_or_eq_true (nameB nm) with hN | hN
  rotate_left
  · have NG := Lib.hid (fun W => bl (implName_b hN f0 W))
    have HR := Lib.hid (F0.out fun h => by have := h.1; rw [hN] at this; cases this)
    refine wp_region_kept f (by kernel_rfl) (by kernel_rfl) g0 ?_
    repeat (first
      | go_big_quiet_skip
      | (go_big_quiet_want; go_big_quiet_op; first
        | go_big_quiet_on
        | (apply Exists.intro; refine ⟨fun s => ?_, ?_⟩; (go_at_call 87; (with_reducible refine (NG.out _).mono ?_); rintro e w4 ⟨rfl, hb4⟩; exact ⟨rfl, gc _ _ hb4⟩); go_big_quiet_on)
        | (apply Exists.intro; refine ⟨fun s => ?_, ?_⟩; (go_at_call 46; (with_reducible refine (IG.out _).mono ?_); rintro e w4 ⟨rfl, hb4⟩; exact ⟨rfl, gc _ _ hb4⟩); go_big_quiet_on)
        | (apply Exists.intro; refine ⟨fun s => ?_, ?_⟩; (go_at_call 124; (with_reducible refine (MG.out _).mono ?_); rintro e w4 ⟨rfl, hb4⟩; exact ⟨rfl, gc _ _ hb4⟩); go_big_quiet_on)
        | (apply Exists.intro; refine ⟨fun s => ?_, ?_⟩; (go_at_call 98; (with_reducible refine (EN.out _).mono ?_); rintro e w4 ⟨rfl, hb4⟩; exact ⟨rfl, gc _ _ hb4⟩); go_big_quiet_on)))
    refine wpQuiet_nil ?_
    intro w5 h5
    have hb5 := ge _ h5
    go_wp2
    go_ret
    exact ⟨by rw [HR.out]; rfl, hb0.trans (hb5.mono hb0.size)⟩
  have NG := Lib.hid (fun W => bl (implName_b hN f0 W))
  rcases Bool.eq_false_or_eq_true (inB bs 0 1000000000) with hI | hI
  rotate_left
  · have IG := Lib.hid (fun W => bl (inRange_any hI W))
    have HR := Lib.hid (F0.out fun h => by have := h.2.1; rw [hI] at this; cases this)
    refine wp_region_kept f (by kernel_rfl) (by kernel_rfl) g0 ?_
    repeat (first
      | go_big_quiet_skip
      | (go_big_quiet_want; go_big_quiet_op; first
        | go_big_quiet_on
        | (apply Exists.intro; refine ⟨fun s => ?_, ?_⟩; (go_at_call 87; (with_reducible refine (NG.out _).mono ?_); rintro e w4 ⟨rfl, hb4⟩; exact ⟨rfl, gc _ _ hb4⟩); go_big_quiet_on)
        | (apply Exists.intro; refine ⟨fun s => ?_, ?_⟩; (go_at_call 46; (with_reducible refine (IG.out _).mono ?_); rintro e w4 ⟨rfl, hb4⟩; exact ⟨rfl, gc _ _ hb4⟩); go_big_quiet_on)
        | (apply Exists.intro; refine ⟨fun s => ?_, ?_⟩; (go_at_call 124; (with_reducible refine (MG.out _).mono ?_); rintro e w4 ⟨rfl, hb4⟩; exact ⟨rfl, gc _ _ hb4⟩); go_big_quiet_on)
        | (apply Exists.intro; refine ⟨fun s => ?_, ?_⟩; (go_at_call 98; (with_reducible refine (EN.out _).mono ?_); rintro e w4 ⟨rfl, hb4⟩; exact ⟨rfl, gc _ _ hb4⟩); go_big_quiet_on)))
    refine wpQuiet_nil ?_
    intro w5 h5
    have hb5 := ge _ h5
    go_wp2
    go_ret
    exact ⟨by rw [HR.out]; rfl, hb0.trans (hb5.mono hb0.size)⟩
  have IG := Lib.hid (fun W => bl (inRange_any hI W))
  have hbs := inB_true hI
  have MM := fun s => messagesRight_any A H c (f s) (hA3.on (gk s)) f2
  rcases Bool.eq_false_or_eq_true (msgB H) with hM | hM
  rotate_left
  · rw [hM] at MM
    have MG := Lib.hid (fun s => bl (MM s))
    have HR := Lib.hid (F0.out fun h => by have := msgB_true ⟨h.2.2.1, h.2.2.2.1⟩; rw [hM] at this; cases this)
    refine wp_region_kept f (by kernel_rfl) (by kernel_rfl) g0 ?_
    repeat (first
      | go_big_quiet_skip
      | (go_big_quiet_want; go_big_quiet_op; first
        | go_big_quiet_on
        | (apply Exists.intro; refine ⟨fun s => ?_, ?_⟩; (go_at_call 87; (with_reducible refine (NG.out _).mono ?_); rintro e w4 ⟨rfl, hb4⟩; exact ⟨rfl, gc _ _ hb4⟩); go_big_quiet_on)
        | (apply Exists.intro; refine ⟨fun s => ?_, ?_⟩; (go_at_call 46; (with_reducible refine (IG.out _).mono ?_); rintro e w4 ⟨rfl, hb4⟩; exact ⟨rfl, gc _ _ hb4⟩); go_big_quiet_on)
        | (apply Exists.intro; refine ⟨fun s => ?_, ?_⟩; (go_at_call 124; (with_reducible refine (MG.out _).mono ?_); rintro e w4 ⟨rfl, hb4⟩; exact ⟨rfl, gc _ _ hb4⟩); go_big_quiet_on)
        | (apply Exists.intro; refine ⟨fun s => ?_, ?_⟩; (go_at_call 98; (with_reducible refine (EN.out _).mono ?_); rintro e w4 ⟨rfl, hb4⟩; exact ⟨rfl, gc _ _ hb4⟩); go_big_quiet_on)))
    refine wpQuiet_nil ?_
    intro w5 h5
    have hb5 := ge _ h5
    go_wp2
    go_ret
    exact ⟨by rw [HR.out]; rfl, hb0.trans (hb5.mono hb0.size)⟩
  rw [hM] at MM
  have MG := Lib.hid (fun s => bl (MM s))
  have hM2 := msgB_iff.1 hM
  have EN := Lib.hid (endOf_any nm bs A H.length c (.slice B G.length d) (by omega) hbs.1 hbs.2 rfl)
  by_cases h5 : bs + H.length ≤ 1000000000
  rotate_left
  · have HR := Lib.hid (F0.out fun h => h5 h.2.2.2.2.2.1)
    refine wp_region_kept f (by kernel_rfl) (by kernel_rfl) g0 ?_
    repeat (first
      | go_big_quiet_skip
      | (go_big_quiet_want; go_big_quiet_op; first
        | go_big_quiet_on
        | (apply Exists.intro; refine ⟨fun s => ?_, ?_⟩; (go_at_call 87; (with_reducible refine (NG.out _).mono ?_); rintro e w4 ⟨rfl, hb4⟩; exact ⟨rfl, gc _ _ hb4⟩); go_big_quiet_on)
        | (apply Exists.intro; refine ⟨fun s => ?_, ?_⟩; (go_at_call 46; (with_reducible refine (IG.out _).mono ?_); rintro e w4 ⟨rfl, hb4⟩; exact ⟨rfl, gc _ _ hb4⟩); go_big_quiet_on)
        | (apply Exists.intro; refine ⟨fun s => ?_, ?_⟩; (go_at_call 124; (with_reducible refine (MG.out _).mono ?_); rintro e w4 ⟨rfl, hb4⟩; exact ⟨rfl, gc _ _ hb4⟩); go_big_quiet_on)
        | (apply Exists.intro; refine ⟨fun s => ?_, ?_⟩; (go_at_call 98; (with_reducible refine (EN.out _).mono ?_); rintro e w4 ⟨rfl, hb4⟩; exact ⟨rfl, gc _ _ hb4⟩); go_big_quiet_on)))
    refine wpQuiet_nil ?_
    intro w5 h5
    have hb5 := ge _ h5
    go_wp2
    go_ret
    exact ⟨by rw [HR.out]; rfl, hb0.trans (hb5.mono hb0.size)⟩
  clear g0 gk gc ge y0 y1 y2 y3 MG MM
  have c0 : w3.drew.cell? ⟨w.heap.size, 0, none⟩ = some (.string nm) := hK.cell (i := 0) rfl
  have c1 : w3.drew.cell? ⟨w.heap.size, 1, none⟩ = some (.int .i64 bs) := hK.cell (i := 1) rfl
  have c2 : w3.drew.cell? ⟨w.heap.size, 2, none⟩ = some (.slice A H.length c) := hK.cell (i := 2) rfl
  have c3 : w3.drew.cell? ⟨w.heap.size, 3, none⟩ = some (.slice B G.length d) := hK.cell (i := 3) rfl
  have hd5 : decide (bs + (H.length : Int) ≤ 1000000000) = true := by simp; exact h5
  have NQ := Lib.hid (implName_b hN f0)
  have IQ := Lib.hid (inRange_any hI)
  have MQ := Lib.hid (fun W (h : Below w3.drew.heap.size w3.drew W) => by have := messagesRight_any A H c W (hA3.on (below_drew (Below.refl _ w3) |>.trans h)) f2; rw [hM] at this; exact this)
  have GQ := Lib.hid (fun W p q (h : Below w3.drew.heap.size w3.drew W) => groupsRight_any nm bs H G B d p q W f3 (hB3.on (below_drew (Below.refl _ w3) |>.trans h)))
  go_region_held3 (fun W => W.cell? ⟨w.heap.size, 0, none⟩ = some (.string nm) ∧ W.cell? ⟨w.heap.size, 1, none⟩ = some (.int .i64 bs) ∧ W.cell? ⟨w.heap.size, 2, none⟩ = some (.slice A H.length c) ∧ W.cell? ⟨w.heap.size, 3, none⟩ = some (.slice B G.length d))
    (first
      | with_reducible exact ⟨c0, c1, c2, c3⟩
      | with_reducible exact ⟨kept_cell hb5 c0, kept_cell hb5 c1, kept_cell hb5 c2, kept_cell hb5 c3⟩
      | with_reducible exact ⟨kept_cell hb6 c0, kept_cell hb6 c1, kept_cell hb6 c2, kept_cell hb6 c3⟩
      | with_reducible exact ⟨kept_cell hb7 c0, kept_cell hb7 c1, kept_cell hb7 c2, kept_cell hb7 c3⟩
      | with_reducible exact ⟨kept_cell hb8 c0, kept_cell hb8 c1, kept_cell hb8 c2, kept_cell hb8 c3⟩)
    (first
      | (go_at_call 87; (with_reducible refine (NQ.out _).mono ?_); rintro e w' ⟨rfl, rfl⟩)
      | (go_at_call 46; (with_reducible refine (IQ.out _).mono ?_); rintro e w' ⟨rfl, rfl⟩)
      | (go_at_call 124; (with_reducible refine (MQ.out _ (Below.refl _ _)).mono ?_); rintro e w' ⟨rfl, rfl⟩)
      | (go_at_call 98; (with_reducible refine (EN.out w3.drew).mono ?_); rintro e w5 ⟨rfl, hb5⟩)
      | (go_at_call 98; (with_reducible refine (EN.out w5).mono ?_); rintro e w6 ⟨rfl, hb6'⟩; have hb6 := hb5.trans (hb6'.mono hb5.size))
      | (go_at_call 97; (with_reducible refine (numbersBetween_b bs (bs + H.length) w6).mono ?_); rintro e w7 ⟨rfl, p7, q7, hb7'⟩; have hb7 := hb6.trans (hb7'.mono hb6.size))
      | (go_at_call 125; (with_reducible refine (GQ.out w7 _ _ hb7 p7 q7).mono ?_); rintro e w8 ⟨rfl, hb8'⟩; have hb8 := hb7.trans (hb8'.mono hb7.size)))
  have HR : Hid (R = grpsB ⟨nm, bs, H, G⟩) := Lib.hid (by
    rcases Bool.eq_false_or_eq_true (grpsB ⟨nm, bs, H, G⟩) with hg | hg
    · have := grpsB_iff.1 hg
      rw [hg]; exact F1.out ⟨hN, hI, hM2.1, hM2.2, this.1, h5, this.2⟩
    · rw [hg]; exact F0.out fun h => by have := grpsB_true ⟨h.2.2.2.2.1, h.2.2.2.2.2.2⟩; rw [hg] at this; cases this)
  have hb9 : Below w3.heap.size w3 w8 := (below_drew (Below.refl _ w3)).trans hb8
  go_wp2
  go_ret
  exact ⟨by rw [HR.out]; rfl, hb0.trans (hb9.mono hb0.size)⟩
end Go.Proofs.Ytkimieeabmjfgaa

namespace Go.Proofs.Ytkimieeabmjfgaa
open Go.RowKit
set_option linter.unusedVariables false
set_option maxRecDepth 1000000

/-- What is known of the capacity of a slice. -/
structure Cap (A : Option Addr) (n c : Nat) : Prop where
  nil : A = none → c = 0
  le : n ≤ c
  max : c ≤ maxLen
theorem Cap.own {w : World} {lo n m c size : Nat} {e : TypeId} {A : Option Addr} {xs : List Value} (h : w.ownsRow lo e size (.slice A n c) m xs) : Cap A m c := by
  rcases h.2 with ⟨he, h0⟩ | ⟨g, cap, cur, he, hb, hg, hl, hm, _⟩
  · cases he; exact ⟨fun _ => rfl, by omega, by simp [maxLen]⟩
  · cases he; exact ⟨(fun e => by cases e), hl, hm⟩
theorem grown_same (w : World) (r : Option Nat) : w.grownBy w r := ⟨rfl, rfl, rfl, Nat.le_refl _, fun _ _ _ => rfl⟩
theorem strs_news {w : World} {B : Nat} {a : Addr} {L : List ByteArray} (h : Strs w B (some a) L) : ∀ j u, (L.map Value.string)[j]? = some u → w.cell? (a.add j) = some u := by
  intro j u hj
  have hjl : j < L.length := by have := (List.getElem?_eq_some_iff.1 hj).1; simpa using this
  obtain ⟨a', e, _, c0⟩ := h.2 j hjl
  cases e
  rw [c0, ← hj]
  simp [hjl]
theorem grs_news {w : World} {B : Nat} {a : Addr} {L : List Grp} (h : Grs w B (some a) L) : ∀ j u, (gflat L)[j]? = some u → w.cell? (a.add j) = some u := by
  intro j u hj
  have hjl : j < L.length * 2 := by rw [← gflat_len]; exact (List.getElem?_eq_some_iff.1 hj).1
  have hi : j / 2 < L.length := by omega
  have hg := gflat_get L (j / 2) hi (j % 2) (by omega)
  rw [show j / 2 * 2 + j % 2 = j by omega, hj] at hg
  obtain ⟨a', e, _, c0, c1⟩ := h.2 (j / 2) hi
  cases e
  have : j % 2 = 0 ∨ j % 2 = 1 := by omega
  rcases this with e | e
  · rw [e] at hg
    rw [show j = j / 2 * 2 by omega, c0]
    exact hg.symm
  · rw [e] at hg
    rw [show j = j / 2 * 2 + 1 by omega, c1]
    exact hg.symm
theorem strs_none {w : World} {B : Nat} {L : List ByteArray} (h : Strs w B none L) : L = [] := by
  cases L with
  | nil => rfl
  | cons f L => obtain ⟨a, e, _⟩ := h.2 0 (by simp); cases e
theorem grs_none {w : World} {B : Nat} {L : List Grp} (h : Grs w B none L) : L = [] := by
  cases L with
  | nil => rfl
  | cons f L => obtain ⟨a, e, _⟩ := h.2 0 (by simp); cases e
theorem wpList_app_str {ops : Array Oper} {rest : List Oper} {o : Oper} {a : Act} {w : World} {Q : Exit → Act → World → Prop} (hgd : o.guard = none) (s x : Operand)
    (ho : o.op = .call { callee := .builtin .append, args := #[s, x], argTypes := #[22, 22] })
    (base : Nat) (v : Value) (L : List ByteArray) (hs : a.eval s = v) (hown : OwnS w base v L) (B : Nat) (A : Option Addr) (M : List ByteArray) (c : Nat) (hx : a.eval x = .slice A M.length c) (hc : A = none → c = 0) (hM : Strs w B A M)
    (hlen : L.length + M.length ≤ 1000000) (hbase : base ≤ w.heap.size)
    (h : ∀ A' c' w', OwnS w' base (.slice A' (L ++ M).length c') (L ++ M) → w.grownBy w' v.ownBlock → wpList Try.prog ops Q rest (a.put o.dst (.slice A' (L ++ M).length c')) w') : wpList Try.prog ops Q (o :: rest) a w := by
  obtain ⟨i0, hi, hz0, hz1, hz2⟩ := info_parts infoStr
  have key : ∀ v' w', OwnS w' base v' (L ++ M) → w.grownBy w' v.ownBlock → wpList Try.prog ops Q rest (a.put o.dst v') w' := by
    intro v' w' h1 h2
    obtain ⟨A', c', rfl⟩ := ownS_some h1
    exact h A' c' w' h1 h2
  cases A with
  | none =>
    have hz := strs_none hM
    subst hz
    obtain rfl := hc rfl
    unfold OwnS at hown
    refine wpList_append_own_none hgd s x 22 ho base 9 i0 1 Try.underlying22 hi v _ _ hs hown (by rw [hx]; rfl) (key v w ?_ (grown_same _ _))
    rw [List.append_nil]; exact hown
  | some ad =>
    refine wpList_append_own w hgd s x 22 ho base 9 i0 (.string ⟨#[]⟩) 1 16 Try.underlying22 hi hz0 hz1 hz2 rfl (by decide) v _ _ hs hown ad M.length c (M.map Value.string) hx (by simp) (strs_news hM) (by intro u hu; obtain ⟨t, _, rfl⟩ := List.mem_map.1 hu; rfl) (by unfold maxLen; omega) (by omega) hbase ?_
    intro v' w' h1 h2 _
    refine key v' w' ?_ h2
    unfold OwnS
    rw [List.length_append, List.map_append]
    exact h1
theorem wpList_app_grp {ops : Array Oper} {rest : List Oper} {o : Oper} {a : Act} {w : World} {Q : Exit → Act → World → Prop} (hgd : o.guard = none) (s x : Operand)
    (ho : o.op = .call { callee := .builtin .append, args := #[s, x], argTypes := #[27, 27] })
    (base : Nat) (v : Value) (L : List Grp) (hs : a.eval s = v) (hown : OwnG w base v L) (B : Nat) (A : Option Addr) (M : List Grp) (c : Nat) (hx : a.eval x = .slice A M.length c) (hc : A = none → c = 0) (hM : Grs w B A M)
    (hlen : L.length + M.length ≤ 1000000) (hbase : base ≤ w.heap.size)
    (h : ∀ A' c' w', OwnG w' base (.slice A' (L ++ M).length c') (L ++ M) → w.grownBy w' v.ownBlock → wpList Try.prog ops Q rest (a.put o.dst (.slice A' (L ++ M).length c')) w') : wpList Try.prog ops Q (o :: rest) a w := by
  obtain ⟨i0, hi, hz0, hz1, hz2⟩ := info_parts infoGrp
  have key : ∀ v' w', OwnG w' base v' (L ++ M) → w.grownBy w' v.ownBlock → wpList Try.prog ops Q rest (a.put o.dst v') w' := by
    intro v' w' h1 h2
    obtain ⟨A', c', rfl, _⟩ := h1.slice
    exact h A' c' w' h1 h2
  cases A with
  | none =>
    have hz := grs_none hM
    subst hz
    obtain rfl := hc rfl
    unfold OwnG at hown
    refine wpList_append_own_none hgd s x 27 ho base 68 i0 2 Try.underlying27 hi v _ _ hs hown (by rw [hx]; rfl) (key v w ?_ (grown_same _ _))
    rw [List.append_nil]; exact hown
  | some ad =>
    refine wpList_append_own w hgd s x 27 ho base 68 i0 (.agg #[.string ⟨#[]⟩, .int .i64 0]) 2 24 Try.underlying27 hi hz0 hz1 hz2 rfl (by decide) v _ _ hs hown ad M.length c (gflat M) hx (gflat_len M) (grs_news hM) (gflat_one M) (by unfold maxLen; omega) (by omega) hbase ?_
    intro v' w' h1 h2 _
    refine key v' w' ?_ h2
    unfold OwnG
    rw [List.length_append, gflat_append]
    exact h1
theorem strs_one (w : World) (s : ByteArray) (t : TypeId) : Strs (w.alloc (.cells #[.string s] t)) (w.heap.size + 1) (some ⟨w.heap.size, 0, none⟩) [s] := by
  refine ⟨by simp [maxLen], fun i hi => ⟨_, rfl, by simp, ?_⟩⟩
  exact one_cell w (.string s) t i _ (by simp at hi; subst hi; rfl)
theorem grs_one (w : World) (g : Grp) (t : TypeId) : Grs (w.alloc (.cells #[.string g.name, .int .i64 g.acked] t)) (w.heap.size + 1) (some ⟨w.heap.size, 0, none⟩) [g] := by
  have h := Blk.fresh w t [.string g.name, .int .i64 g.acked]
  refine ⟨by simp [maxLen], fun i hi => ⟨_, rfl, by simp, ?_, ?_⟩⟩
  · obtain rfl : i = 0 := by simp at hi; omega
    rw [add_none]; exact h.cell (i := 0) rfl
  · obtain rfl : i = 0 := by simp at hi; omega
    rw [add_none]; exact h.cell (i := 1) rfl
/-- Rows of different kinds lie in different blocks. -/
theorem own_apart {w : World} {b b' s s' n m : Nat} {t t' : TypeId} {u v : Value} {xs ys : List Value} (h : w.ownsRow b t s u n xs) (h2 : w.ownsRow b' t' s' v m ys) (ht : t ≠ t') : u.ownBlock = none ∨ u.ownBlock ≠ v.ownBlock := by
  rcases h.2 with ⟨he, _⟩ | ⟨g, cap, cur, he, _, hg, _⟩
  · rw [he]; exact .inl rfl
  · refine .inr fun e => ?_
    rw [he] at e
    rcases h2.2 with ⟨he2, _⟩ | ⟨g2, cap2, cur2, he2, _, hg2, _⟩
    · rw [he2] at e; cases e
    · rw [he2] at e
      cases e
      rw [hg] at hg2
      injection hg2 with hg2
      injection hg2 with _ h4 _
      exact ht h4
theorem own_not {w : World} {b s n g : Nat} {t t' : TypeId} {v : Value} {xs cs : List Value} (h : w.ownsRow b t s v n xs) (hB : Blk w g t' cs) (ht : t ≠ t') : v.ownBlock ≠ some g := by
  intro e
  rcases h.2 with ⟨he, _⟩ | ⟨k, cap, cur, he, _, hg, _⟩
  · rw [he] at e; cases e
  · rw [he] at e
    cases e
    unfold Blk at hB
    rw [hg] at hB
    injection hB with hB
    injection hB with _ h4 _
    exact ht h4
theorem own_empty (w : World) (t : TypeId) (s : Nat) (hs : 0 < s) : (w.alloc (.cells #[] t)).ownsRow w.heap.size t s (.slice (some ⟨w.heap.size, 0, none⟩) 0 0) 0 [] :=
  ⟨by simp, .inr ⟨w.heap.size, 0, #[], rfl, Nat.le_refl _, by have := heap_alloc_new w (.cells #[] t); simpa using this, Nat.le_refl _, by simp [maxLen], by simp, by simp⟩⟩
/-- A world that grew at one row of the call's own is still as it was below. -/
theorem below_row {B : Nat} {w w' w2 : World} {row : Option Nat} (hb : Below B w w') (hB : B ≤ w.heap.size) (hg : w'.grownBy w2 row) (hr : ∀ k, row = some k → B ≤ k) : Below B w w2 := hb.grown hg (Nat.le_trans hB hb.size) hr
end Go.Proofs.Ytkimieeabmjfgaa

namespace Go.Proofs.Ytkimieeabmjfgaa
open Go.RowKit
set_option linter.unusedVariables false

theorem sizeU8 : (Try.prog.info? 5).map (·.size) = some 1 := by kernel_rfl

/-- A row that is owned up to its capacity is its block. -/
theorem own_heap {w : World} {base g n : Nat} {e : TypeId} {xs : List Value} (h : w.ownsRow base e 1 (.slice (some ⟨g, 0, none⟩) n n) n xs) : w.heap[g]? = some (.cells xs.toArray e (0, 0)) := by
  obtain ⟨hl, hh⟩ := h
  rcases hh with ⟨h1, _⟩ | ⟨g', cap, cur, h1, _, hb, _, _, hs, ht⟩
  · cases h1
  · simp at h1
    obtain ⟨rfl, rfl⟩ := h1
    rw [hb]
    have : cur.toList = xs := by rw [← ht, List.take_of_length_le (by simp [hs])]
    rw [← this]
theorem own_heap' {w : World} {base g n : Nat} {e : TypeId} {xs : List Value} (h : w.ownsRow base e 1 (.slice (some ⟨g, 0, none⟩) n n) n xs) : ∃ Z : List Value, Hid (w.heap[g]? = some (.cells Z.toArray e (0, 0))) ∧ Z.length = n :=
  ⟨xs, own_heap h, by simpa using h.1⟩

theorem bc_len (a : ByteArray) : (Lib.byteCells a.data.toList).length = a.size := by rw [Lib.byteCells_length, ← Lib.size_eq]
theorem ne_empty {b : ByteArray} (h : 0 < b.size) : ¬ b = ByteArray.empty := by intro e; subst e; simp at h

theorem splice_len0 {Z : List Value} {a : ByteArray} {m : Nat} (h : Z.length = a.size + m) : (splice Z 0 (Lib.byteCells a.data.toList)).length = a.size + m := by
  rw [length_splice _ _ _ (by rw [bc_len]; omega), h]
theorem conv_two {w : World} {g n : Nat} {Z : List Value} {a b : ByteArray} (hn : n = a.size + b.size) (hs : n ≤ 1048576)
    (h : Hid (w.heap[g]? = some (.cells (splice (splice Z 0 (Lib.byteCells a.data.toList)) a.size (Lib.byteCells b.data.toList)).toArray 5 (0, 0)))) (hZ : Hid (Z.length = a.size + b.size)) :
    (convert 135 9 (.slice (some ⟨g, 0, none⟩) n n)).run Try.prog w = .ok (.string (a ++ b)) w := by
  have e : splice (splice Z 0 (Lib.byteCells a.data.toList)) a.size (Lib.byteCells b.data.toList) = Lib.byteCells (a.data.toList ++ b.data.toList) := by
    have := splice_two Z (Lib.byteCells a.data.toList) (Lib.byteCells b.data.toList) (by rw [bc_len, bc_len]; exact hZ.out)
    rw [bc_len] at this
    rw [this, byteCells_append]
  have h' := h.out
  rw [e] at h'
  have hl : (Lib.byteCells (a.data.toList ++ b.data.toList)).length = n := by rw [← byteCells_append, List.length_append, bc_len, bc_len, hn]
  rw [← str_append]
  refine own_bytes (base := 0) (n := n) ⟨by simpa using hl, .inr ⟨g, n, _, rfl, Nat.zero_le _, h', Nat.le_refl _, ?_, by simpa using hl, ?_⟩⟩
  · unfold maxLen; omega
  · rw [List.take_of_length_le (by simp [hl])]

end Go.Proofs.Ytkimieeabmjfgaa

namespace Go.Proofs.Ytkimieeabmjfgaa
open Go.RowKit
set_option linter.unusedVariables false

theorem cellsU8 : Try.prog.cellsOf 5 = 1 := by kernel_rfl
theorem splice_one {α : Type} (Z X : List α) (hZ : Z.length = X.length) : splice Z 0 X = X := by simp [splice, hZ]

/-- The string over the whole of a new row of bytes. -/
theorem run_clone {w : World} {g : Nat} {Z : List Value} {s : ByteArray} (hp : 0 < s.size) (hs : s.size ≤ 1048576)
    (h : Hid (w.heap[g]? = some (.cells (splice Z 0 (Lib.byteCells s.data.toList)).toArray 5 (0, 0)))) (hZ : Hid (Z.length = s.size)) :
    (Builtin.unsafeString_ #[144, 3] 9 #[.pointer (some ⟨g, 0, none⟩), .int .i64 s.size]).run Try.prog w = .ok (.string s) (w.freeze ⟨g, 0, none⟩ s.size) := by
  have e : splice Z 0 (Lib.byteCells s.data.toList) = Lib.byteCells s.data.toList := splice_one _ _ (by rw [bc_len]; exact hZ.out)
  have h' := h.out
  rw [e] at h'
  have hl : s.data.toList.length = s.size := by simp
  have := Lib.run_unsafeString_row (P := Try.prog) w 144 3 9 5 Try.underlying144 cellsU8 g s.size (by simp [World.shape?, h', bc_len]) s.data.toList
    (by intro e; rw [e] at hl; simp at hl; omega) (by omega) (by omega) (by
      intro j x hj
      have hjl : j < s.data.toList.length := (List.getElem?_eq_some_iff.1 hj).1
      have hadd : (⟨g, 0, none⟩ : Addr).add j = ⟨g, j, none⟩ := by unfold Addr.add; split <;> simp_all
      rw [hadd]
      simp [World.cell?, h', Lib.byteCells, hj])
  rw [hl] at this
  exact this

set_option maxHeartbeats 1600000 in
set_option maxRecDepth 1000000 in
theorem slClone_any (s : ByteArray) (w : World) (hs : s.size ≤ 1048576) :
    Calls Try.prog 120 #[.string s] w fun e w' => e = .returned (.string s) ∧ Below w.heap.size w w' := by
  obtain ⟨i0, hi, hz0, hz1, hz2⟩ := info_parts infoU8
  by_cases hz : s.size = 0
  · have he : s = ByteArray.empty := ByteArray.size_eq_zero_iff.1 hz
    subst he
    go_enter Try.func120, Try.ntmps120
    go_wp2
    go_ret
    exact ⟨rfl, Below.refl _ _⟩
  · have hp : 0 < s.size := by omega
    have hne : ((s.size : Int) == 0) = false := by simpa using ne_empty hp
    clear hz
    go_enter Try.func120, Try.ntmps120
    go_wp2_with (first
    | (at_make; refine wpList_make_full _ rfl _ _ 135 rfl w.heap.size 5 i0 (.int .u8 0) 1 Try.underlying135 hi hz0 hz1 _ _ _ _ s.size rfl rfl rfl rfl (by rw [hz2]; omega) (by unfold maxLen; omega) (Nat.le_refl _) ?_; intro w1 hown1 hgrow1; obtain ⟨Z, HG1, hZ⟩ := own_heap' hown1; have HZ := Lib.hid hZ; clear hZ; have hb1 := (Below.refl w.heap.size w).grown hgrow1 (Nat.le_refl _) (fun k e => by cases e); clear hown1 hgrow1)
    | ((with_reducible refine wpList_copy_str rfl (.tmp 10) (.tmp 11) 135 9 rfl 5 Try.underlying135 sizeU8 _ _ _ s rfl rfl w.heap.size 0 _ 5 HG1.out (by omega) (fun _ => rfl) (by rw [HZ.out]; omega) w.heap.size w hb1 (Nat.le_refl _) ?_); intro w2 HG2 hb2; clear HG1 hb1; have hcl := run_clone hp hs HG2 HZ))
    go_ret
    exact ⟨rfl, Lib.below_freeze hb2 (p := ⟨w.heap.size, 0, none⟩) (Nat.le_refl _) _⟩

theorem clone_any (s : ByteArray) (w : World) (hs : s.size ≤ 1048576) :
    Calls Try.prog 90 #[.string s] w fun e w' => e = .returned (.string s) ∧ Below w.heap.size w w' := by
  go_enter Try.func90, Try.ntmps90
  go_wp2_with (go_at_call 120; refine (slClone_any _ _ hs).mono ?_; rintro e w1 ⟨rfl, hb1⟩)
  go_ret
  exact ⟨rfl, hb1⟩


end Go.Proofs.Ytkimieeabmjfgaa
