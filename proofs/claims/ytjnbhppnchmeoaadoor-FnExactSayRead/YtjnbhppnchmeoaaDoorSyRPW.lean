/- What is read of a say, as plain mathematics: lists of things read one behind the other; what is read has one encoding. OpRight, ProofRight: spec and impl answer alike. The counts of the readers: impl's count, spec's many. impl.readProof: a proof read, its numbers in a row of the call's own. -/
import Derived.Test.YtjnbhppnchmeoaaDoorCmMathW
import Derived.Test.YtjnbhppnchmeoaaDoorSyEncW
import Derived.Test.YtjnbhppnchmeoaaDoorRwkW
import Derived.Deep.RegionLaw
import Derived.Deep.AppendLies
namespace Go.Proofs.YtjnbhppnchmeoaaDoor
open Go.RowKit
set_option linter.unusedVariables false

/-- A count: a number of 0 .. most. -/
def rM (s : ByteArray) (most : Int) (o : Option Nat) : Int × Option Nat := if 0 ≤ (rN s o).1 ∧ (rN s o).1 ≤ most then rN s o else (0, none)
/-- So many things, one behind the other. -/
def rL {α : Type} (f : Option Nat → α × Option Nat) : Nat → Option Nat → List α × Option Nat
  | 0, o => ([], o)
  | k + 1, o => ((f o).1 :: (rL f k (f o).2).1, (rL f k (f o).2).2)
theorem rL_len {α : Type} (f : Option Nat → α × Option Nat) : ∀ (k : Nat) (o : Option Nat), (rL f k o).1.length = k
  | 0, _ => rfl
  | k + 1, o => by show ((rL f k (f o).2).1.length) + 1 = k + 1; rw [rL_len f k]
theorem rL_snoc {α : Type} (f : Option Nat → α × Option Nat) : ∀ (k : Nat) (o : Option Nat), rL f (k + 1) o = ((rL f k o).1 ++ [(f (rL f k o).2).1], (f (rL f k o).2).2)
  | 0, _ => rfl
  | k + 1, o => by
    have h := rL_snoc f k (f o).2
    show ((f o).1 :: (rL f (k + 1) (f o).2).1, (rL f (k + 1) (f o).2).2) = _
    rw [h]; rfl
/-- What f reads behind a place stands there as e writes it. -/
def Canon {α : Type} (s : ByteArray) (f : Option Nat → α × Option Nat) (e : α → ByteArray) : Prop :=
  ∀ o q, (∀ p, o = some p → p ≤ s.size) → (f o).2 = some q → ∃ p, o = some p ∧ s.extract p q = e (f o).1 ∧ p < q ∧ q ≤ s.size
theorem Canon.le {α : Type} {s : ByteArray} {f : Option Nat → α × Option Nat} {e : α → ByteArray} (h : Canon s f e) {o : Option Nat} (ho : ∀ p, o = some p → p ≤ s.size) : ∀ p, (f o).2 = some p → p ≤ s.size := fun q hq => (h o q ho hq).choose_spec.2.2.2
theorem canon_none {α : Type} {s : ByteArray} {f : Option Nat → α × Option Nat} {e : α → ByteArray} (h : Canon s f e) : (f none).2 = none := by
  cases hq : (f none).2 with
  | none => rfl
  | some q => obtain ⟨p, h1, _⟩ := h none q (fun p e => by cases e) hq; cases h1
theorem canonN (s : ByteArray) : Canon s (rN s) numS := fun _ _ ho h => rN_some h ho
theorem canonT (s : ByteArray) : Canon s (rT s) ptext := fun _ _ ho h => rT_some h ho
theorem canonM (s : ByteArray) (most : Int) : Canon s (rM s most) numS := fun o q ho h => by
  unfold rM at h ⊢
  split at h
  · rename_i hc; rw [if_pos hc]; exact rN_some h ho
  · cases h
theorem rM_in (s : ByteArray) {most : Int} (hm : 0 ≤ most) (o : Option Nat) : 0 ≤ (rM s most o).1 ∧ (rM s most o).1 ≤ most := by
  unfold rM
  split
  · rename_i hc; exact hc
  · exact ⟨Int.le_refl _, hm⟩
theorem ext_join {s : ByteArray} {a b c : Nat} (h1 : a ≤ b) (h2 : b ≤ c) : s.extract a b ++ s.extract b c = s.extract a c := by
  rw [ByteArray.extract_append_extract]
  congr 1 <;> omega
theorem ext_nil (s : ByteArray) (p : Nat) : s.extract p p = ⟨#[]⟩ := by apply ByteArray.ext; simp
theorem rL_canon {α : Type} {s : ByteArray} {f : Option Nat → α × Option Nat} {e : α → ByteArray} (hf : Canon s f e) : ∀ (k : Nat) (o : Option Nat) (q : Nat), (∀ p, o = some p → p ≤ s.size) → (rL f k o).2 = some q →
    ∃ p, o = some p ∧ s.extract p q = cat e (rL f k o).1 ∧ p ≤ q ∧ q ≤ s.size
  | 0, o, q, ho, h => ⟨q, h, ext_nil s q, Nat.le_refl _, ho q h⟩
  | k + 1, o, q, ho, h => by
    obtain ⟨p2, e2, x2, l2, m2⟩ := rL_canon hf k (f o).2 q (hf.le ho) h
    obtain ⟨p, e1, x1, l1, m1⟩ := hf o p2 ho e2
    refine ⟨p, e1, ?_, by omega, m2⟩
    show s.extract p q = e (f o).1 ++ cat e (rL f k (f o).2).1
    rw [← x1, ← x2, ext_join (by omega) l2]
theorem rL_none {α : Type} {s : ByteArray} {f : Option Nat → α × Option Nat} {e : α → ByteArray} (hf : Canon s f e) : ∀ k, (rL f k none).2 = none
  | 0 => rfl
  | k + 1 => by show (rL f k (f none).2).2 = none; rw [canon_none hf]; exact rL_none hf k
theorem rL_le {α : Type} {s : ByteArray} {f : Option Nat → α × Option Nat} {e : α → ByteArray} (hf : Canon s f e) {k : Nat} {o : Option Nat} (ho : ∀ p, o = some p → p ≤ s.size) : ∀ p, (rL f k o).2 = some p → p ≤ s.size := fun q hq => (rL_canon hf k o q ho hq).choose_spec.2.2.2
/-- A proof. -/
def rPrf (s : ByteArray) (o : Option Nat) : Prf × Option Nat :=
  let a := rN s o
  let b := rN s a.2
  let t := rT s b.2
  let k := rM s 4 t.2
  let l := rL (rN s) k.1.toNat k.2
  (⟨a.1, b.1, t.1, l.1⟩, l.2)
theorem canonPrf (s : ByteArray) : Canon s (rPrf s) prfE := fun o q ho h => by
  have o1 := (canonN s).le ho
  have o2 := (canonN s).le o1
  have o3 := (canonT s).le o2
  have o4 := (canonM s 4).le o3
  have hl := rL_len (rN s) (rM s 4 (rT s (rN s (rN s o).2).2).2).1.toNat (rM s 4 (rT s (rN s (rN s o).2).2).2).2
  have hk := rM_in s (most := 4) (by decide) (rT s (rN s (rN s o).2).2).2
  obtain ⟨p4, e4, x4, l4, m4⟩ := rL_canon (canonN s) (rM s 4 (rT s (rN s (rN s o).2).2).2).1.toNat (rM s 4 (rT s (rN s (rN s o).2).2).2).2 q o4 h
  obtain ⟨p3, e3, x3, l3, m3⟩ := canonM s 4 _ _ o3 e4
  obtain ⟨p2, e2, x2, l2, m2⟩ := canonT s _ _ o2 e3
  obtain ⟨p1, e1, x1, l1, m1⟩ := canonN s _ _ o1 e2
  obtain ⟨p0, e0, x0, l0, m0⟩ := canonN s _ _ ho e1
  refine ⟨p0, e0, ?_, by omega, m4⟩
  unfold prfE rPrf
  simp only
  rw [hl, show (((rM s 4 (rT s (rN s (rN s o).2).2).2).1.toNat : Nat) : Int) = (rM s 4 (rT s (rN s (rN s o).2).2).2).1 by omega]
  rw [← x0, ← x1, ← x2, ← x3, ← x4, ext_join (by omega) (by omega), ext_join (by omega) (by omega), ext_join (by omega) (by omega), ext_join (by omega) (by omega)]
/-- A change. -/
def rCng (s : ByteArray) (o : Option Nat) : Cng × Option Nat :=
  let a := rN s o
  let b := rN s a.2
  let k := rM s 6 b.2
  let l := rL (rPrf s) k.1.toNat k.2
  (⟨a.1, b.1, l.1⟩, l.2)
theorem canonCng (s : ByteArray) : Canon s (rCng s) cngE := fun o q ho h => by
  have o1 := (canonN s).le ho
  have o2 := (canonN s).le o1
  have o4 := (canonM s 6).le o2
  have hl := rL_len (rPrf s) (rM s 6 (rN s (rN s o).2).2).1.toNat (rM s 6 (rN s (rN s o).2).2).2
  have hk := rM_in s (most := 6) (by decide) (rN s (rN s o).2).2
  obtain ⟨p4, e4, x4, l4, m4⟩ := rL_canon (canonPrf s) (rM s 6 (rN s (rN s o).2).2).1.toNat (rM s 6 (rN s (rN s o).2).2).2 q o4 h
  obtain ⟨p3, e3, x3, l3, m3⟩ := canonM s 6 _ _ o2 e4
  obtain ⟨p1, e1, x1, l1, m1⟩ := canonN s _ _ o1 e3
  obtain ⟨p0, e0, x0, l0, m0⟩ := canonN s _ _ ho e1
  refine ⟨p0, e0, ?_, by omega, m4⟩
  unfold cngE rCng
  simp only
  rw [hl, show (((rM s 6 (rN s (rN s o).2).2).1.toNat : Nat) : Int) = (rM s 6 (rN s (rN s o).2).2).1 by omega]
  rw [← x0, ← x1, ← x3, ← x4, ext_join (by omega) (by omega), ext_join (by omega) (by omega), ext_join (by omega) (by omega)]
/-- A say. -/
def rSy (s : ByteArray) : Sy × Option Nat :=
  let a := rN s (some 0)
  let b := rN s a.2
  let c := rN s b.2
  let d := rN s c.2
  let t := rT s d.2
  let k := rM s 4 t.2
  let l := rL (rCng s) k.1.toNat k.2
  (⟨a.1, b.1, c.1, d.1, t.1, l.1⟩, l.2)
theorem rSy_enc {s : ByteArray} {q : Nat} (h : (rSy s).2 = some q) : s.extract 0 q = syE (rSy s).1 ∧ 0 < q ∧ q ≤ s.size := by
  have o0 : ∀ p, some 0 = some p → p ≤ s.size := fun p e => by cases e; omega
  obtain ⟨a, ha⟩ : ∃ a, rN s (some 0) = a := ⟨_, rfl⟩
  obtain ⟨b, hb⟩ : ∃ b, rN s a.2 = b := ⟨_, rfl⟩
  obtain ⟨c, hc⟩ : ∃ c, rN s b.2 = c := ⟨_, rfl⟩
  obtain ⟨d, hd⟩ : ∃ d, rN s c.2 = d := ⟨_, rfl⟩
  obtain ⟨t, ht⟩ : ∃ t, rT s d.2 = t := ⟨_, rfl⟩
  obtain ⟨k, hk⟩ : ∃ k, rM s 4 t.2 = k := ⟨_, rfl⟩
  obtain ⟨l, hl⟩ : ∃ l, rL (rCng s) k.1.toNat k.2 = l := ⟨_, rfl⟩
  have e : rSy s = (⟨a.1, b.1, c.1, d.1, t.1, l.1⟩, l.2) := by unfold rSy; simp only [ha, hb, hc, hd, ht, hk, hl]
  rw [e] at h ⊢
  have o1 : ∀ p, a.2 = some p → p ≤ s.size := by rw [← ha]; exact (canonN s).le o0
  have o2 : ∀ p, b.2 = some p → p ≤ s.size := by rw [← hb]; exact (canonN s).le o1
  have o3 : ∀ p, c.2 = some p → p ≤ s.size := by rw [← hc]; exact (canonN s).le o2
  have o4 : ∀ p, d.2 = some p → p ≤ s.size := by rw [← hd]; exact (canonN s).le o3
  have o5 : ∀ p, t.2 = some p → p ≤ s.size := by rw [← ht]; exact (canonT s).le o4
  have o6 : ∀ p, k.2 = some p → p ≤ s.size := by rw [← hk]; exact (canonM s 4).le o5
  have hn := rL_len (rCng s) k.1.toNat k.2
  have hi := rM_in s (most := 4) (by decide) t.2
  rw [hk] at hi
  obtain ⟨p6, e6, x6, l6, m6⟩ := rL_canon (canonCng s) k.1.toNat k.2 q o6 (by rw [hl]; exact h)
  obtain ⟨p5, e5, x5, l5, m5⟩ := canonM s 4 _ _ o5 (by rw [hk]; exact e6)
  obtain ⟨p4, e4, x4, l4, m4⟩ := canonT s _ _ o4 (by rw [ht]; exact e5)
  obtain ⟨p3, e3, x3, l3, m3⟩ := canonN s _ _ o3 (by rw [hd]; exact e4)
  obtain ⟨p2, e2, x2, l2, m2⟩ := canonN s _ _ o2 (by rw [hc]; exact e3)
  obtain ⟨p1, e1, x1, l1, m1⟩ := canonN s _ _ o1 (by rw [hb]; exact e2)
  obtain ⟨p0, e0, x0, l0, m0⟩ := canonN s _ _ o0 (by rw [ha]; exact e1)
  cases e0
  rw [hl] at hn x6
  rw [hk] at x5
  rw [ht] at x4
  rw [hd] at x3
  rw [hc] at x2
  rw [hb] at x1
  rw [ha] at x0
  refine ⟨?_, by omega, m6⟩
  unfold syE
  simp only
  rw [hn, show ((k.1.toNat : Nat) : Int) = k.1 by omega]
  rw [← x0, ← x1, ← x2, ← x3, ← x4, ← x5, ← x6, ext_join (by omega) (by omega), ext_join (by omega) (by omega), ext_join (by omega) (by omega), ext_join (by omega) (by omega), ext_join (by omega) (by omega), ext_join (by omega) (by omega)]
/-- What impl asks of what was read is what spec asks. -/
theorem rSy_same {s : ByteArray} {q : Nat} (h : (rSy s).2 = some q) : ((some q == some s.size) && sayB (rSy s).1) = decide (syBytes (rSy s).1 = s) := by
  obtain ⟨h1, h2, h3⟩ := rSy_enc h
  have hs : s.extract 0 s.size = s := by apply ByteArray.ext; simp
  cases hb : sayB (rSy s).1
  · rw [syBytes_no hb, Bool.and_false]
    symm
    refine decide_eq_false fun e => ?_
    rw [← e] at h3
    have : (⟨#[]⟩ : ByteArray).size = 0 := rfl
    omega
  · rw [syBytes_ok hb, Bool.and_true, ← h1]
    by_cases e : q = s.size
    · subst e; simp [hs]
    · have hne : ¬ s.extract 0 q = s := fun e2 => by
        have := congrArg ByteArray.size e2
        simp at this
        omega
      simp [e, hne]
theorem rSy_ne {s : ByteArray} {q : Nat} (h : (rSy s).2 = some q) : ¬ s.size = 0 := by have := rSy_enc h; omega
end Go.Proofs.YtjnbhppnchmeoaaDoor

namespace Go.Proofs.YtjnbhppnchmeoaaDoor
open Go.RowKit
set_option linter.unusedVariables false
set_option maxRecDepth 1000000

theorem is_any {n a b : Int} {r : Bool} (h : decide (a ≤ n ∧ n ≤ b) = r) (w : World) : Calls Tryd.prog 36 #[.int .i64 n, .int .i64 a, .int .i64 b] w fun e w' => e = .returned (.bool r) ∧ w = w' :=
  (l03Is_any n a b w).mono fun e w' h' => ⟨by rw [h'.1, ← Bool.decide_and, h], h'.2.symm⟩
theorem view_any {n : Int} {r : Bool} (h : decide (0 ≤ n ∧ n ≤ 7) = r) (w : World) : Calls Tryd.prog 101 #[.int .i64 n] w fun e w' => e = .returned (.bool r) ∧ w = w' := by
  go_enter Tryd.func101, Tryd.ntmps101
  go_wp2_with (go_at_call 36; refine (is_any h _).mono ?_; rintro e w1 ⟨rfl, rfl⟩)
  go_ret
  exact ⟨rfl, rfl⟩
theorem seq_any {n : Int} {r : Bool} (h : decide (1 ≤ n ∧ n ≤ 6) = r) (w : World) : Calls Tryd.prog 102 #[.int .i64 n] w fun e w' => e = .returned (.bool r) ∧ w = w' := by
  go_enter Tryd.func102, Tryd.ntmps102
  go_wp2_with (go_at_call 36; refine (is_any h _).mono ?_; rintro e w1 ⟨rfl, rfl⟩)
  go_ret
  exact ⟨rfl, rfl⟩
theorem specOp_any {s : ByteArray} {r : Bool} (hs : s.size ≤ maxLen) (h : decide (s.size ≤ 120) = r) (w : World) : Calls Tryd.prog 103 #[.string s] w fun e w' => e = .returned (.bool r) ∧ w = w' := by
  unfold maxLen at hs
  have e9 : decide ((s.size : Int) ≤ 120) = r := by rw [← h]; simp; omega
  go_enter Tryd.func103, Tryd.ntmps103
  go_wp2
  go_ret
  exact ⟨rfl, rfl⟩
theorem implOp_any {s : ByteArray} {r : Bool} (hs : s.size ≤ maxLen) (h : decide (s.size ≤ 120) = r) (w : World) : Calls Tryd.prog 80 #[.string s] w fun e w' => e = .returned (.bool r) ∧ w = w' := by
  unfold maxLen at hs
  have e9 : decide ((s.size : Int) ≤ 120) = r := by rw [← h]; simp; omega
  go_enter Tryd.func80, Tryd.ntmps80
  go_wp2
  go_ret
  exact ⟨rfl, rfl⟩
set_option maxHeartbeats 2000000 in
theorem specProofRight_any (t : Prf) (A : Option Addr) (c : Nat) (w : World) {lo : Nat} (hf : t.fits) (hA : Ints w lo w.heap.size A t.who) :
    Calls Tryd.prog 121 #[prfV t (.slice A t.who.length c)] w fun e w' => e = .returned (.bool (prfB t)) ∧ Below w.heap.size w w' := by
  obtain ⟨view, seq, op, L⟩ := t
  obtain ⟨f0, f1, f2⟩ := hf
  simp only at f0 f1 f2 hA ⊢
  have HR : Hid (prfB ⟨view, seq, op, L⟩ = (decide (0 ≤ view ∧ view ≤ 7) && (decide (1 ≤ seq ∧ seq ≤ 6) && (decide (op.size ≤ 120) && quorum L)))) := Lib.hid rfl
  generalize prfB ⟨view, seq, op, L⟩ = Z at HR ⊢
  have hb0 := below_bx w (.cells #[.int .i64 view, .int .i64 seq, .string op, .slice A L.length c] 90)
  have hK := Blk.fresh w 90 [.int .i64 view, .int .i64 seq, .string op, .slice A L.length c]
  simp only [List.toArray] at hK
  have QR := Lib.hid (fun W (h : Below w.heap.size w W) => specQuorum_any A L c W (hA.on h).nms)
  rcases Bool.eq_false_or_eq_true (decide (0 ≤ view ∧ view ≤ 7)) with h1 | h1
  rotate_left
  · have I1 := Lib.hid (fun W => view_any h1 W)
    rw [h1] at HR
    obtain rfl : Z = false := by rw [HR.out]; rfl
    clear HR
    go_enter Tryd.func121, Tryd.ntmps121
    go_wp2_with (first | (go_at_call 101; (with_reducible refine (I1.out _).mono ?_); rintro e w1 ⟨rfl, rfl⟩))
    go_ret
    exact ⟨rfl, hb0⟩
  have I1 := Lib.hid (fun W => view_any h1 W)
  rcases Bool.eq_false_or_eq_true (decide (1 ≤ seq ∧ seq ≤ 6)) with h2 | h2
  rotate_left
  · have I2 := Lib.hid (fun W => seq_any h2 W)
    rw [h1, h2] at HR
    obtain rfl : Z = false := by rw [HR.out]; rfl
    clear HR
    go_enter Tryd.func121, Tryd.ntmps121
    go_wp2_with (first | (go_at_call 101; (with_reducible refine (I1.out _).mono ?_); rintro e w1 ⟨rfl, rfl⟩) | (go_at_call 102; (with_reducible refine (I2.out _).mono ?_); rintro e w1 ⟨rfl, rfl⟩))
    go_ret
    exact ⟨rfl, hb0⟩
  have I2 := Lib.hid (fun W => seq_any h2 W)
  rcases Bool.eq_false_or_eq_true (decide (op.size ≤ 120)) with h3 | h3
  rotate_left
  · have I3 := Lib.hid (fun W => specOp_any f2 h3 W)
    rw [h1, h2, h3] at HR
    obtain rfl : Z = false := by rw [HR.out]; rfl
    clear HR
    go_enter Tryd.func121, Tryd.ntmps121
    go_wp2_with (first | (go_at_call 101; (with_reducible refine (I1.out _).mono ?_); rintro e w1 ⟨rfl, rfl⟩) | (go_at_call 102; (with_reducible refine (I2.out _).mono ?_); rintro e w1 ⟨rfl, rfl⟩) | (go_at_call 103; (with_reducible refine (I3.out _).mono ?_); rintro e w1 ⟨rfl, rfl⟩))
    go_ret
    exact ⟨rfl, hb0⟩
  have I3 := Lib.hid (fun W => specOp_any f2 h3 W)
  rw [h1, h2, h3] at HR
  have HR2 : Hid (Z = quorum L) := Lib.hid (by rw [HR.out]; rfl)
  clear HR
  generalize quorum L = q at HR2 QR
  obtain rfl := HR2.out
  go_enter Tryd.func121, Tryd.ntmps121
  go_wp2_with (first | (go_at_call 101; (with_reducible refine (I1.out _).mono ?_); rintro e w1 ⟨rfl, rfl⟩) | (go_at_call 102; (with_reducible refine (I2.out _).mono ?_); rintro e w1 ⟨rfl, rfl⟩) | (go_at_call 103; (with_reducible refine (I3.out _).mono ?_); rintro e w1 ⟨rfl, rfl⟩) | (go_at_call 128; (with_reducible refine (QR.out _ hb0).mono ?_); rintro e w1 ⟨rfl, hb1⟩))
  go_ret
  exact ⟨rfl, hb0.trans (hb1.mono hb0.size)⟩
set_option maxHeartbeats 2000000 in
theorem implProofRight_any (t : Prf) (A : Option Addr) (c : Nat) (w : World) {lo : Nat} (hf : t.fits) (hA : Ints w lo w.heap.size A t.who) :
    Calls Tryd.prog 108 #[prfV t (.slice A t.who.length c)] w fun e w' => e = .returned (.bool (prfB t)) ∧ Below w.heap.size w w' := by
  obtain ⟨view, seq, op, L⟩ := t
  obtain ⟨f0, f1, f2⟩ := hf
  simp only at f0 f1 f2 hA ⊢
  have HR : Hid (prfB ⟨view, seq, op, L⟩ = (decide (0 ≤ view ∧ view ≤ 7) && (decide (1 ≤ seq ∧ seq ≤ 6) && (decide (op.size ≤ 120) && quorum L)))) := Lib.hid rfl
  generalize prfB ⟨view, seq, op, L⟩ = Z at HR ⊢
  have hb0 := below_bx w (.cells #[.int .i64 view, .int .i64 seq, .string op, .slice A L.length c] 90)
  have hK := Blk.fresh w 90 [.int .i64 view, .int .i64 seq, .string op, .slice A L.length c]
  simp only [List.toArray] at hK
  have QR := Lib.hid (fun W (h : Below w.heap.size w W) => implQuorum_any A L c W (hA.on h).nms)
  rcases Bool.eq_false_or_eq_true (decide (0 ≤ view ∧ view ≤ 7)) with h1 | h1
  rotate_left
  · have I1 := Lib.hid (fun W => inQ_any h1 W)
    rw [h1] at HR
    obtain rfl : Z = false := by rw [HR.out]; rfl
    clear HR
    go_enter Tryd.func108, Tryd.ntmps108
    go_wp2_with (first | (go_at_call 41; (with_reducible refine (I1.out _).mono ?_); rintro e w1 ⟨rfl, rfl⟩))
    go_ret
    exact ⟨rfl, hb0⟩
  have I1 := Lib.hid (fun W => inQ_any h1 W)
  rcases Bool.eq_false_or_eq_true (decide (1 ≤ seq ∧ seq ≤ 6)) with h2 | h2
  rotate_left
  · have I2 := Lib.hid (fun W => inQ_any h2 W)
    rw [h1, h2] at HR
    obtain rfl : Z = false := by rw [HR.out]; rfl
    clear HR
    go_enter Tryd.func108, Tryd.ntmps108
    go_wp2_with (first | (go_at_call 41; (with_reducible refine (I1.out _).mono ?_); rintro e w1 ⟨rfl, rfl⟩) | (go_at_call 41; (with_reducible refine (I2.out _).mono ?_); rintro e w1 ⟨rfl, rfl⟩))
    go_ret
    exact ⟨rfl, hb0⟩
  have I2 := Lib.hid (fun W => inQ_any h2 W)
  rcases Bool.eq_false_or_eq_true (decide (op.size ≤ 120)) with h3 | h3
  rotate_left
  · have I3 := Lib.hid (fun W => implOp_any f2 h3 W)
    rw [h1, h2, h3] at HR
    obtain rfl : Z = false := by rw [HR.out]; rfl
    clear HR
    go_enter Tryd.func108, Tryd.ntmps108
    go_wp2_with (first | (go_at_call 41; (with_reducible refine (I1.out _).mono ?_); rintro e w1 ⟨rfl, rfl⟩) | (go_at_call 41; (with_reducible refine (I2.out _).mono ?_); rintro e w1 ⟨rfl, rfl⟩) | (go_at_call 80; (with_reducible refine (I3.out _).mono ?_); rintro e w1 ⟨rfl, rfl⟩))
    go_ret
    exact ⟨rfl, hb0⟩
  have I3 := Lib.hid (fun W => implOp_any f2 h3 W)
  rw [h1, h2, h3] at HR
  have HR2 : Hid (Z = quorum L) := Lib.hid (by rw [HR.out]; rfl)
  clear HR
  generalize quorum L = q at HR2 QR
  obtain rfl := HR2.out
  go_enter Tryd.func108, Tryd.ntmps108
  go_wp2_with (first | (go_at_call 41; (with_reducible refine (I1.out _).mono ?_); rintro e w1 ⟨rfl, rfl⟩) | (go_at_call 41; (with_reducible refine (I2.out _).mono ?_); rintro e w1 ⟨rfl, rfl⟩) | (go_at_call 80; (with_reducible refine (I3.out _).mono ?_); rintro e w1 ⟨rfl, rfl⟩) | (go_at_call 123; (with_reducible refine (QR.out _ hb0).mono ?_); rintro e w1 ⟨rfl, hb1⟩))
  go_ret
  exact ⟨rfl, hb0.trans (hb1.mono hb0.size)⟩
theorem bothProofRight (t : Prf) (hf : t.fits) (hs : t.small) : ∃ r : Bool,
    (∀ A c W, Ints W 0 W.heap.size A t.who → Calls Tryd.prog 121 #[prfV t (.slice A t.who.length c)] W fun e w' => e = .returned (.bool r) ∧ Below W.heap.size W w') ∧
    (∀ A c W, Ints W 0 W.heap.size A t.who → Calls Tryd.prog 108 #[prfV t (.slice A t.who.length c)] W fun e w' => e = .returned (.bool r) ∧ Below W.heap.size W w') :=
  ⟨prfB t, fun A c W h => specProofRight_any t A c W hf h, fun A c W h => implProofRight_any t A c W hf h⟩
end Go.Proofs.YtjnbhppnchmeoaaDoor

namespace Go.Proofs.YtjnbhppnchmeoaaDoor
open Go.RowKit
set_option linter.unusedVariables false
set_option linter.unusedSimpArgs false
set_option maxRecDepth 1000000

theorem Handle.grown {w w' : World} {r : Nat} (h : Handle w) (hg : w.grownBy w' (some r)) (hr : r ≠ 0) : Handle w' :=
  World.grownBy.cell hg h (fun e => hr (Option.some.inj e).symm)
theorem Rdr.blk {T : TypeId} {W : World} {r : Nat} {s : ByteArray} {o : Option Nat} (h : Rdr T W r s o) : ∃ (q : Nat) (b : Bool), q ≤ s.size ∧ Blk W r T [.string s, .int .i64 (q : Int), .bool b] := by
  cases o with
  | none => obtain ⟨q, h1, h2⟩ := h; exact ⟨q, true, h1, h2⟩
  | some p => exact ⟨p, false, h.2, h.1⟩
set_option maxHeartbeats 2000000 in
theorem count_any (r : Nat) (s : ByteArray) (most : Int) (o : Option Nat) (w : World) (hg : Handle w) (hR : Rdr 55 w r s o) (hs : s.size ≤ 20000) :
    Calls Tryd.prog 21 #[.pointer (some ⟨r, 0, none⟩), .int .i64 most] w fun e w' => e = .returned (.int .i64 (rM s most o).1) ∧ Rdr 55 w' r s (rM s most o).2 ∧ w.grownBy w' (some r) := by
  have NM := Lib.hid (implNum_any r s o w hg hR hs)
  have HM : Hid (rM s most o = if 0 ≤ (rN s o).1 ∧ (rN s o).1 ≤ most then rN s o else (0, none)) := Lib.hid rfl
  obtain ⟨⟨n, o2⟩, hn⟩ : ∃ x, rN s o = x := ⟨_, rfl⟩
  obtain ⟨⟨a, b⟩, ha⟩ : ∃ x, rM s most o = x := ⟨_, rfl⟩
  rw [hn, ha] at HM
  rw [hn] at NM
  rw [ha]
  clear hn ha
  simp only at NM HM ⊢
  rcases Bool.eq_false_or_eq_true (decide (0 ≤ n ∧ n ≤ most)) with h | h
  · have I := Lib.hid (fun W => inQ_any h W)
    have h' := of_decide_eq_true h
    have HA : a = n := by have := HM.out; rw [if_pos h'] at this; exact congrArg Prod.fst this
    have HB : b = o2 := by have := HM.out; rw [if_pos h'] at this; exact congrArg Prod.snd this
    subst HA HB
    clear h h' HM
    go_enter Tryd.func21, Tryd.ntmps21
    go_wp2_with (fail)
    refine NM.out.mono ?_
    rintro e w2 ⟨rfl, hR2, hG⟩
    go_wp2_with (go_at_call 41; (with_reducible refine (I.out _).mono ?_); rintro e w3 ⟨rfl, rfl⟩)
    go_ret
    exact ⟨rfl, hR2, hG⟩
  · have I := Lib.hid (fun W => inQ_any h W)
    have h' := of_decide_eq_false h
    have HA : a = 0 := by have := HM.out; rw [if_neg h'] at this; exact congrArg Prod.fst this
    have HB : b = none := by have := HM.out; rw [if_neg h'] at this; exact congrArg Prod.snd this
    subst HA HB
    clear h h' HM
    go_enter Tryd.func21, Tryd.ntmps21
    go_wp2_with (fail)
    refine NM.out.mono ?_
    rintro e w2 ⟨rfl, hR2, hG⟩
    obtain ⟨q, bb, hq, hB⟩ := hR2.blk
    have c2 := hB.cell (i := 2) rfl
    have f2 := hB.froz 2
    have hP := hB.put 2 (.bool true)
    go_wp2_with (go_at_call 41; (with_reducible refine (I.out _).mono ?_); rintro e w3 ⟨rfl, rfl⟩)
    go_ret
    exact ⟨rfl, ⟨q, hq, hP⟩, grown_one hG 2 _⟩
set_option maxHeartbeats 2000000 in
theorem many_any (r : Nat) (s : ByteArray) (most : Int) (o : Option Nat) (w : World) (hR : Rdr 42 w r s o) (hs : s.size ≤ 20000) :
    Calls Tryd.prog 15 #[.pointer (some ⟨r, 0, none⟩), .int .i64 most] w fun e w' => e = .returned (.int .i64 (rM s most o).1) ∧ Rdr 42 w' r s (rM s most o).2 ∧ w.grownBy w' (some r) := by
  have NM := Lib.hid (specNum_any r s o w hR hs)
  have HM : Hid (rM s most o = if 0 ≤ (rN s o).1 ∧ (rN s o).1 ≤ most then rN s o else (0, none)) := Lib.hid rfl
  obtain ⟨⟨n, o2⟩, hn⟩ : ∃ x, rN s o = x := ⟨_, rfl⟩
  obtain ⟨⟨a, b⟩, ha⟩ : ∃ x, rM s most o = x := ⟨_, rfl⟩
  rw [hn, ha] at HM
  rw [hn] at NM
  rw [ha]
  clear hn ha
  simp only at NM HM ⊢
  rcases Bool.eq_false_or_eq_true (decide (0 ≤ n ∧ n ≤ most)) with h | h
  · have I := Lib.hid (fun W => is_any h W)
    have h' := of_decide_eq_true h
    have HA : a = n := by have := HM.out; rw [if_pos h'] at this; exact congrArg Prod.fst this
    have HB : b = o2 := by have := HM.out; rw [if_pos h'] at this; exact congrArg Prod.snd this
    subst HA HB
    clear h h' HM
    go_enter Tryd.func15, Tryd.ntmps15
    go_wp2_with (fail)
    refine NM.out.mono ?_
    rintro e w2 ⟨rfl, hR2, hG⟩
    go_wp2_with (go_at_call 36; (with_reducible refine (I.out _).mono ?_); rintro e w3 ⟨rfl, rfl⟩)
    go_ret
    exact ⟨rfl, hR2, hG⟩
  · have I := Lib.hid (fun W => is_any h W)
    have h' := of_decide_eq_false h
    have HA : a = 0 := by have := HM.out; rw [if_neg h'] at this; exact congrArg Prod.fst this
    have HB : b = none := by have := HM.out; rw [if_neg h'] at this; exact congrArg Prod.snd this
    subst HA HB
    clear h h' HM
    go_enter Tryd.func15, Tryd.ntmps15
    go_wp2_with (fail)
    refine NM.out.mono ?_
    rintro e w2 ⟨rfl, hR2, hG⟩
    obtain ⟨q, bb, hq, hB⟩ := hR2.blk
    have c2 := hB.cell (i := 2) rfl
    have f2 := hB.froz 2
    have hP := hB.put 2 (.bool true)
    go_wp2_with (go_at_call 36; (with_reducible refine (I.out _).mono ?_); rintro e w3 ⟨rfl, rfl⟩)
    go_ret
    exact ⟨rfl, ⟨q, hq, hP⟩, grown_one hG 2 _⟩
end Go.Proofs.YtjnbhppnchmeoaaDoor

namespace Go.Proofs.YtjnbhppnchmeoaaDoor
open Go.RowKit
set_option linter.unusedVariables false
set_option linter.unusedSimpArgs false
set_option maxRecDepth 1000000

/-- The numbers of a proof in a row of the call's own. -/
def PrfO (w : World) (base : Nat) (m : PrfA) : Prop := w.ownsRow base 2 1 (.slice m.A m.t.who.length m.c) m.t.who.length (m.t.who.map (Value.int .i64))
/-- What impl.readProof knows while it reads numbers. -/
def RPI (w wr : World) (r P : Nat) (s : ByteArray) (a b : Int) (t : ByteArray) (o : Option Nat) (L : List Int) (A : Option Addr) (j c : Nat) : Prop :=
  Rdr 55 wr r s o ∧ Blk wr P 90 [.int .i64 a, .int .i64 b, .string t, .slice A j c] ∧ wr.ownsRow (P + 1) 2 1 (.slice A j c) j (L.map (Value.int .i64)) ∧ Blk wr w.heap.size 90 [.int .i64 0, .int .i64 0, .string ⟨#[]⟩, .slice none 0 0] ∧ w.grownBy wr (some r)
theorem grown_allocr {w wr : World} {r : Nat} (h : w.grownBy wr (some r)) (o : Obj) : w.grownBy (wr.alloc o) (some r) := h.trans (World.grownBy_alloc wr o (some r))
theorem rdr_alloc {T : TypeId} {w : World} {r : Nat} {s : ByteArray} {o : Option Nat} (h : Rdr T w r s o) (b : Obj) : Rdr T (w.alloc b) r s o := h.below (below_bx w b)
theorem rdr_drew {T : TypeId} {w : World} {r : Nat} {s : ByteArray} {o : Option Nat} (h : Rdr T w r s o) : Rdr T w.drew r s o := h.below (below_drew (Below.refl _ _))
theorem grown_setr {w wr : World} {r : Nat} (h : w.grownBy wr (some r)) {p : Addr} (hp : w.heap.size ≤ p.block) (u : Value) : w.grownBy (wr.setCell p u) (some r) :=
  ⟨h.os, h.tape, h.output, by simpa [World.setCell] using h.size, fun k hk hne => (Below.heap_setCell wr p u k (by omega)).trans (h.block k hk hne)⟩
theorem grown_rowr {w wr w' : World} {r : Nat} {row : Option Nat} (h : w.grownBy wr (some r)) (hg : wr.grownBy w' row) (hr : ∀ k, row = some k → w.heap.size ≤ k) : w.grownBy w' (some r) :=
  ⟨hg.os.trans h.os, hg.tape.trans h.tape, hg.output.trans h.output, Nat.le_trans h.size hg.size, fun k hk hne => (hg.block k (Nat.lt_of_lt_of_le hk h.size) (fun e => by have := hr k e.symm; omega)).trans (h.block k hk hne)⟩
set_option maxHeartbeats 8000000 in
theorem implReadProof_any (r : Nat) (s : ByteArray) (o : Option Nat) (w : World) (hg : Handle w) (hv : r ≠ 0) (hR : Rdr 55 w r s o) (hs : s.size ≤ 20000) :
    Calls Tryd.prog 54 #[.pointer (some ⟨r, 0, none⟩)] w fun e w' => ∃ A c, e = .returned (prfV (rPrf s o).1 (.slice A (rPrf s o).1.who.length c)) ∧ PrfO w' w.heap.size ⟨(rPrf s o).1, A, c⟩ ∧ Rdr 55 w' r s (rPrf s o).2 ∧ w.grownBy w' (some r) := by
  obtain ⟨ii, hii, iz0, iz1, iz2⟩ := info_parts infoI64n
  have hrl := hR.lt
  have C0 := Lib.hid (fun W h1 h2 => implNum_any r s o W h1 h2 hs)
  obtain ⟨a, o1, E0⟩ : ∃ x y, rN s o = (x, y) := ⟨_, _, rfl⟩
  rw [E0] at C0
  have C1 := Lib.hid (fun W h1 h2 => implNum_any r s o1 W h1 h2 hs)
  obtain ⟨b, o2, E1⟩ : ∃ x y, rN s o1 = (x, y) := ⟨_, _, rfl⟩
  rw [E1] at C1
  have C2 := Lib.hid (fun W h1 h2 => implText_any r s o2 W h1 h2 hs)
  obtain ⟨t, o3, E2⟩ : ∃ x y, rT s o2 = (x, y) := ⟨_, _, rfl⟩
  rw [E2] at C2
  have C3 := Lib.hid (fun W h1 h2 => count_any r s 4 o3 W h1 h2 hs)
  have hK0 := rM_in s (most := 4) (by decide) o3
  obtain ⟨K, o4, E3⟩ : ∃ x y, rM s 4 o3 = (x, y) := ⟨_, _, rfl⟩
  rw [E3] at C3 hK0
  have hRC : rPrf s o = (⟨a, b, t, (rL (rN s) K.toNat o4).1⟩, (rL (rN s) K.toNat o4).2) := by unfold rPrf; simp only [E0, E1, E2, E3]
  rw [hRC]
  have HLN := Lib.hid (rL_len (rN s) K.toNat o4)
  simp only at C0 C1 C2 C3 hK0 ⊢
  obtain ⟨n, hn⟩ : ∃ n : Nat, K = n := ⟨K.toNat, by omega⟩
  subst hn
  rw [Int.toNat_natCast] at HLN ⊢
  have hn4 : n ≤ 4 := by omega
  clear E0 E1 E2 E3 hRC hK0
  obtain ⟨LN, HL⟩ : ∃ x, Hid (rL (rN s) n o4 = x) := ⟨_, Lib.hid rfl⟩
  rw [HL.out] at HLN ⊢
  obtain ⟨LL, oe⟩ := LN
  simp only at HLN ⊢
  have X0 := Blk.fresh w 90 [.int .i64 0, .int .i64 0, .string ⟨#[]⟩, .slice none 0 0]
  have b0 := below_bx w (.cells #[.int .i64 0, .int .i64 0, .string ⟨#[]⟩, .slice none 0 0] 90)
  simp only [List.toArray] at X0
  have R0 := hR.below b0
  have H0 := Handle.below hg b0
  have G0 : w.grownBy (w.alloc (.cells #[.int .i64 0, .int .i64 0, .string ⟨#[]⟩, .slice none 0 0] 90)) (some r) := grown_below b0
  go_enter Tryd.func54, Tryd.ntmps54
  go_wp2_with (fail)
  generalize w.alloc (.cells #[.int .i64 0, .int .i64 0, .string ⟨#[]⟩, .slice none 0 0] 90) = v0 at X0 R0 H0 G0 b0 ⊢
  have hz0 := X0.lt
  clear b0
  refine (C0.out _ H0 R0).mono ?_
  rintro e v1 ⟨rfl, R1, g1⟩
  have X1 := X0.grown g1 (fun e => by have := Option.some.inj e; omega)
  have H1 := H0.grown g1 hv
  have G1 := G0.trans g1
  clear X0 R0 H0 G0 g1
  go_wp2_with (fail)
  refine (C1.out _ H1 R1).mono ?_
  rintro e v2 ⟨rfl, R2, g2⟩
  have X2 := X1.grown g2 (fun e => by have := Option.some.inj e; omega)
  have H2 := H1.grown g2 hv
  have G2 := G1.trans g2
  clear X1 R1 H1 G1 g2
  go_wp2_with (fail)
  refine (C2.out _ H2 R2).mono ?_
  rintro e v3 ⟨rfl, R3, g3⟩
  have X3 := X2.grown g3 (fun e => by have := Option.some.inj e; omega)
  have H3 := H2.grown g3 hv
  have G3 := G2.trans g3
  clear X2 R2 H2 G2 g3
  have P4 := Blk.fresh v3 90 [.int .i64 a, .int .i64 b, .string t, .slice none 0 0]
  have b4 := below_bx v3 (.cells #[.int .i64 a, .int .i64 b, .string t, .slice none 0 0] 90)
  simp only [List.toArray] at P4
  have X4 := X3.below b4 X3.lt
  have R4 := R3.below b4
  have H4 := Handle.below H3 b4
  have G4 := grown_allocr G3 (.cells #[.int .i64 a, .int .i64 b, .string t, .slice none 0 0] 90)
  have hz3 := X3.lt
  have hzr := G3.size
  go_wp2_with (fail)
  generalize v3.alloc (.cells #[.int .i64 a, .int .i64 b, .string t, .slice none 0 0] 90) = v4 at P4 b4 X4 R4 H4 G4 ⊢
  clear b4 X3 R3 H3 G3
  generalize v3.heap.size = P at P4 hz3 hzr ⊢
  refine (C3.out _ H4 R4).mono ?_
  rintro e v5 ⟨rfl, R5, g5⟩
  have P5 := P4.grown g5 (fun e => by have := Option.some.inj e; omega)
  have X5 := X4.grown g5 (fun e => by have := Option.some.inj e; omega)
  have H5 := H4.grown g5 hv
  have G5 := G4.trans g5
  clear P4 X4 R4 H4 G4 g5 C0 C1 C2 C3
  have hpr : P ≠ r := by omega
  have hxr : w.heap.size ≠ r := by omega
  go_wp2_with (fail)
  go_loopw [13] (fun i wr => ∃ (j : Nat) (A : Option Addr) (c : Nat), j ≤ n ∧ i = .int .i64 j ∧ RPI w wr r P s a b t (rL (rN s) j o4).2 (rL (rN s) j o4).1 A j c) (fun i _ => n - (intOf i).toNat)
  case atStart => exact ⟨0, none, 0, by omega, rfl, ⟨R5, P5, World.ownsRow_nil _ _ _ _, X5, G5⟩⟩
  case round =>
    clear R5 P5 X5 G5 H5
    obtain ⟨j, A, c, hj, rfl, ⟨R, PK, ow, X, G⟩⟩ := hrel
    have H := hg.grown G hv
    by_cases hlt : j < n
    · have hlt' : (j : Int) < (n : Int) := by omega
      have HS := Lib.hid (rL_snoc (rN s) j o4)
      have hln := rL_len (rN s) j o4
      obtain ⟨⟨L, oj⟩, hLj⟩ : ∃ x, rL (rN s) j o4 = x := ⟨_, rfl⟩
      rw [hLj] at HS R ow hln
      simp only at HS R ow hln
      clear hLj
      have CN := Lib.hid (fun W h1 h2 => implNum_any r s oj W h1 h2 hs)
      obtain ⟨⟨x, ox⟩, hx⟩ : ∃ y, rN s oj = y := ⟨_, rfl⟩
      rw [hx] at HS CN
      simp only at HS CN
      clear hx
      have Rd := rdr_drew R
      have Hd : Handle wr.drew := Handle.below H (below_drew (Below.refl _ _))
      have y0 := PK.drew.cell (i := 3) rfl
      have yf := PK.drew.froz 3
      have hpl := PK.lt
      have owd := ow.drew
      have PKd := PK.drew
      go_wp2_with (fail)
      go_region_law
        (first
          | (go_simp; go_at_call 23; (with_reducible refine (CN.out _ Hd Rd).mono ?_); rintro e w4 ⟨rfl, R4, g4⟩; have PK4 := PKd.grown g4 (fun e => hpr (Option.some.inj e)); have y4 := PK4.cell (i := 3) rfl; have y4a := (PK4.alloc (.cells #[.int .i64 x] 2)).cell (i := 3) rfl; have ow4 := World.ownsRow.kept owd g4 (.inr (fun e => by have := (owd.lt _ e).1; omega)); have zz := g4.size)
          | (refine step_append_lies _ (by rfl) _ _ _ (by rfl) (P + 1) 2 ii _ 1 8 Tryd.underlying88 hii iz0 iz1 iz2 rfl (by omega) (.slice A j c) j _ (by rfl) (World.ownsRow.alloc ow4 _)
                  ⟨w4.heap.size, 0, none⟩ 1 1 [.int .i64 x] (by rfl) (by rfl) (World.news_of_block (cs := #[.int .i64 x]) (t := 2) (fr := (0, 0)) (heap_alloc_new w4 _)) (by simp [Value.oneCell'])
                  (by omega) (by unfold maxLen; omega) (by omega) (by have := PK4.lt; simp only [World.size_alloc]; omega) (w4.heap.size + 1) (by simp) ?_; intro gg cap' w5 hown5 hgrow5 hat5 hlt5; have O5 := (PK4.alloc (.cells #[.int .i64 x] 2)).grown hgrow5 (fun e => by have := (ow4.lt _ e.symm).1; omega); have y5 := O5.cell (i := 3) rfl; have f5 := O5.froz 3))
      all_goals
        have R6 := (((rdr_alloc R4 (.cells #[.int .i64 x] 2)).grown hgrow5 (fun e => by have := (ow4.lt _ e.symm).1; omega)).far (p := ⟨P, 3, none⟩) (by simp; omega) (.slice (some ⟨gg, 0, none⟩) (j + 1) cap'))
        have PK6 := O5.put 3 (.slice (some ⟨gg, 0, none⟩) (j + 1) cap')
        simp only [List.set_cons_succ, List.set_cons_zero] at PK6
        have ow6 := row_far hown5 (p := ⟨P, 3, none⟩) (by simp) (.slice (some ⟨gg, 0, none⟩) (j + 1) cap')
        have X6 := ((((X.drew.grown g4 (fun e => hxr (Option.some.inj e))).alloc (.cells #[.int .i64 x] 2)).grown hgrow5 (fun e => by have := (ow4.lt _ e.symm).1; omega)).far (p := ⟨P, 3, none⟩) (by simp; omega) (.slice (some ⟨gg, 0, none⟩) (j + 1) cap'))
        have G6 := grown_setr (grown_rowr (grown_allocr ((grown_drew G).trans g4) (.cells #[.int .i64 x] 2)) hgrow5 (fun k e => by have := (ow4.lt k e).1; omega)) (p := ⟨P, 3, none⟩) (by simp; omega) (.slice (some ⟨gg, 0, none⟩) (j + 1) cap')
        rw [show List.map (Value.int .i64) L ++ [.int .i64 x] = List.map (Value.int .i64) (L ++ [x]) by simp] at ow6
        clear y0 yf y4 y4a y5 f5
        go_wp2_with (fail)
        exact ⟨⟨j + 1, _, _, by omega, by go_num, by rw [HS.out]; exact ⟨R6, PK6, ow6, X6, G6⟩⟩, by simp [intOf]; omega⟩
    · obtain rfl : j = n := by omega
      rw [HL.out] at R ow
      simp only at R ow
      have p0 := PK.cell (i := 0) rfl
      have p1 := PK.cell (i := 1) rfl
      have p2 := PK.cell (i := 2) rfl
      have p3 := PK.cell (i := 3) rfl
      have x0 := X.cell (i := 0) rfl
      have x1 := X.cell (i := 1) rfl
      have x2 := X.cell (i := 2) rfl
      have x3 := X.cell (i := 3) rfl
      have f0 := X.froz 0
      have f1 := X.froz 1
      have f2 := X.froz 2
      have f3 := X.froz 3
      have SL : ∀ u : Value, True := fun _ => trivial
      clear SL
      go_wp2_with (fail)
      have Xf := (((X.put 0 (.int .i64 a)).put 1 (.int .i64 b)).put 2 (.string t)).put 3 (.slice A j c)
      simp only [List.set_cons_succ, List.set_cons_zero] at Xf
      have Rf := (((R.far (p := ⟨w.heap.size, 0, none⟩) (by simp; omega) (.int .i64 a)).far (p := ⟨w.heap.size, 1, none⟩) (by simp; omega) (.int .i64 b)).far (p := ⟨w.heap.size, 2, none⟩) (by simp; omega) (.string t)).far (p := ⟨w.heap.size, 3, none⟩) (by simp; omega) (.slice A j c)
      have Gf := grown_setr (grown_setr (grown_setr (grown_setr G (p := ⟨w.heap.size, 0, none⟩) (by simp) (.int .i64 a)) (p := ⟨w.heap.size, 1, none⟩) (by simp) (.int .i64 b)) (p := ⟨w.heap.size, 2, none⟩) (by simp) (.string t)) (p := ⟨w.heap.size, 3, none⟩) (by simp) (.slice A j c)
      have of := row_far (row_far (row_far (row_far ow (p := ⟨w.heap.size, 0, none⟩) (by simp; omega) (.int .i64 a)) (p := ⟨w.heap.size, 1, none⟩) (by simp; omega) (.int .i64 b)) (p := ⟨w.heap.size, 2, none⟩) (by simp; omega) (.string t)) (p := ⟨w.heap.size, 3, none⟩) (by simp; omega) (.slice A j c)
      clear p0 p1 p2 p3 x0 x1 x2 x3 f0 f1 f2 f3 X R G ow PK
      generalize (((wr.setCell ⟨w.heap.size, 0, none⟩ (.int .i64 a)).setCell ⟨w.heap.size, 1, none⟩ (.int .i64 b)).setCell ⟨w.heap.size, 2, none⟩ (.string t)).setCell ⟨w.heap.size, 3, none⟩ (.slice A j c) = w9 at Xf Rf Gf of ⊢
      have x0 := Xf.cell (i := 0) rfl
      have x1 := Xf.cell (i := 1) rfl
      have x2 := Xf.cell (i := 2) rfl
      have x3 := Xf.cell (i := 3) rfl
      refine bodyPost_ret (v := .agg #[.int .i64 a, .int .i64 b, .string t, .slice A j c]) (by simp [results, Tryd.results54, go_sem, x0, x1, x2, x3]) rfl ⟨A, c, ?_, ?_, Rf, Gf⟩
      · rw [HLN.out]
      · unfold PrfO
        simp only [HLN.out]
        exact own_base of (by omega)
end Go.Proofs.YtjnbhppnchmeoaaDoor
