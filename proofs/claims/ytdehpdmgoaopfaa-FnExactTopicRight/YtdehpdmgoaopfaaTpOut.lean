/- What the exact laws do with a TopicOut. -/
import Derived.Test.YtdehpdmgoaopfaaSl
import Derived.Test.YtdehpdmgoaopfaaTpTo
namespace Go.Proofs.Ytdehpdmgoaopfaa
open Go.RowKit
set_option linter.unusedVariables false
set_option maxRecDepth 1000000

/-- The value of a TopicOut. -/
abbrev outV (nm : ByteArray) (bs : Int) (h g t : Value) (n co : Int) : Value := .agg #[.string nm, .int .i64 bs, h, g, t, .int .i64 n, .int .i64 co]
/-- The texts that are fetched lie apart from the messages. -/
def Apart (A B : Option Addr) : Prop := ∀ a b, A = some a → B = some b → a.block ≠ b.block
theorem Apart.map {A B : Option Addr} (h : Apart A B) {a : Addr} (ha : A = some a) : A.map (·.block) ≠ B.map (·.block) := by
  subst ha
  cases B with
  | none => simp
  | some b => simpa using h a b rfl rfl
theorem Sl.apart {w w' : World} {lo hi : Nat} {t : TypeId} {A B : Option Addr} {xs ys : List Value} (h : Sl w lo hi t A xs) (hc : Wr w w' B ys) (ha : Apart A B) : Sl w' lo hi t A xs := by
  refine h.keep hc fun hx hy => ?_
  rcases h with h | ⟨g, off, cs, h1, _⟩
  · exact absurd h hx
  · exact ha.map h1
theorem Apart.symm {A B : Option Addr} (h : Apart A B) : Apart B A := fun a b ha hb e => h b a hb ha e.symm
theorem Wr.below {w w1 w2 : World} {A : Option Addr} {xs : List Value} (hb : Below w.heap.size w w1) (h : Wr w1 w2 A xs) : Wr w w2 A xs := by
  obtain ⟨row, hg, hr⟩ := h
  exact ⟨row, ⟨hg.os.trans hb.os, hg.tape.trans hb.tape, hg.output.trans hb.output, Nat.le_trans hb.size hg.size, fun k hk hne => (hg.block k (by have := hb.size; omega) hne).trans (hb.block k hk)⟩, hr⟩
set_option maxHeartbeats 2000000 in
theorem eqTopicOut_same (nm : ByteArray) (bs : Int) (A B C D S T : Option Addr) (H : List ByteArray) (G : List Grp) (N : List ByteArray) (n co : Int) (a b c d x y : Nat) (w : World) (hA : Strs w w.heap.size A H) (hC : Strs w w.heap.size C H) (hB : Grs w w.heap.size B G) (hD : Grs w w.heap.size D G) (hS : Strs w w.heap.size S N) (hT : Strs w w.heap.size T N) :
    Calls Try.prog 44 #[outV nm bs (.slice A H.length a) (.slice B G.length b) (.slice S N.length x) n co, outV nm bs (.slice C H.length c) (.slice D G.length d) (.slice T N.length y) n co] w fun e w' => e = .returned (.bool true) ∧ Below w.heap.size w w' := by
  have h0 := (Blk.fresh w 30 [.string nm, .int .i64 bs, .slice A H.length a, .slice B G.length b, .slice S N.length x, .int .i64 n, .int .i64 co]).alloc (.cells #[.string nm, .int .i64 bs, .slice C H.length c, .slice D G.length d, .slice T N.length y, .int .i64 n, .int .i64 co] 30)
  have h1 := Blk.fresh (w.alloc (.cells #[.string nm, .int .i64 bs, .slice A H.length a, .slice B G.length b, .slice S N.length x, .int .i64 n, .int .i64 co] 30)) 30 [.string nm, .int .i64 bs, .slice C H.length c, .slice D G.length d, .slice T N.length y, .int .i64 n, .int .i64 co]
  have hb0 : Below w.heap.size w ((w.alloc (.cells #[.string nm, .int .i64 bs, .slice A H.length a, .slice B G.length b, .slice S N.length x, .int .i64 n, .int .i64 co] 30)).alloc (.cells #[.string nm, .int .i64 bs, .slice C H.length c, .slice D G.length d, .slice T N.length y, .int .i64 n, .int .i64 co] 30)) := ((Below.refl _ w).alloc (Nat.le_refl _) _).alloc (by simp) _
  simp only [List.toArray, World.size_alloc] at h0 h1
  have HE := Lib.hid (eqTopic_same nm bs A B C D H G a b c d _ (hA.on hb0) (hC.on hb0) (hB.on hb0) (hD.on hb0))
  have HT := Lib.hid (fun W (h : Below w.heap.size w W) => eqStringS_same S T N x y W (hS.on h) (hT.on h))
  go_enter Try.func44, Try.ntmps44
  go_wp2_with (fail)
  refine HE.out.mono ?_
  rintro e w1 ⟨rfl, hb1⟩
  clear HE
  have g0 := h0.below hb1 h0.lt
  have g1 := h1.below hb1 h1.lt
  have hw1 := hb0.trans (hb1.mono hb0.size)
  clear h0 h1 hb0 hb1
  have k3 := g0.cell (i := 4) rfl
  have l3 := g1.cell (i := 4) rfl
  go_wp2_with (fail)
  refine (HT.out _ hw1).mono ?_
  rintro e w2 ⟨rfl, hb2⟩
  have p0 := g0.below hb2 g0.lt
  have p1 := g1.below hb2 g1.lt
  have k5 := p0.cell (i := 5) rfl
  have l5 := p1.cell (i := 5) rfl
  have k6 := p0.cell (i := 6) rfl
  have l6 := p1.cell (i := 6) rfl
  clear k3 l3
  go_wp2
  go_ret
  exact ⟨rfl, hw1.trans (hb2.mono hw1.size)⟩
set_option maxHeartbeats 2000000 in
theorem markTopic_sl (nm : ByteArray) (bs : Int) (A : Option Addr) (H : List ByteArray) (c : Nat) (B : Option Addr) (G : List Grp) (d lo hi k : Nat) (w : World) (h : Sl w lo hi 9 A (H.map Value.string)) (h2 : Sl w lo hi 47 B (gflat G)) (h0 : 1 ≤ k) (h1 : k + H.length + 2 * G.length ≤ 4000000) :
    Calls Try.prog 45 #[topV nm bs (.slice A H.length c) (.slice B G.length d), .int .i64 k] w fun e w' => e = .returned (.int .i64 ((k + H.length + 2 * G.length : Nat) : Int)) ∧
      Sl w' lo hi 9 A ((markN H.length k).map Value.string) ∧ Sl w' lo hi 47 B (gflat (markG G.length (k + H.length))) ∧ (∀ t' C zs, t' ≠ 47 → Sl w lo hi t' C zs → Apart C A → Sl w' lo hi t' C zs) ∧ Chg w w' lo hi := by
  have hb0 : Below w.heap.size w (w.alloc (.cells #[.string nm, .int .i64 bs, .slice A H.length c, .slice B G.length d] 26)) := (Below.refl _ w).alloc (Nat.le_refl _) _
  have k0 := Blk.fresh w 26 [.string nm, .int .i64 bs, .slice A H.length c, .slice B G.length d]
  have HK : Hid (∀ t' C zs, Sl w lo hi t' C zs → Sl (w.alloc (.cells #[.string nm, .int .i64 bs, .slice A H.length c, .slice B G.length d] 26)) lo hi t' C zs) := Lib.hid fun t' C zs q => q.below hb0
  have q1 := h.below hb0
  have q2 := h2.below hb0
  simp only [List.toArray] at k0
  obtain ⟨j, HJ⟩ : ∃ j, Hid (k + H.length = j) := ⟨_, Lib.hid rfl⟩
  have hj : 1 ≤ j ∧ j + 2 * G.length ≤ 4000000 := by have := HJ.out; omega
  have hkl : k + H.length ≤ 4000000 := by omega
  rw [HJ.out]
  have hxb : ∀ row, (∀ q, row = some q → (H.map Value.string) ≠ [] ∧ A.map (·.block) = some q) → row ≠ some w.heap.size := by
    intro row hr e
    obtain ⟨hx, hy⟩ := hr _ e
    rcases h with h | ⟨g, off, cs, e1, _, e3, _⟩
    · exact hx h
    · rw [e1] at hy
      have := e3.lt
      simp at hy
      omega
  clear h1
  go_enter Try.func45, Try.ntmps45
  go_wp2_with (fail)
  generalize w.alloc (.cells #[.string nm, .int .i64 bs, .slice A H.length c, .slice B G.length d] 26) = v0 at hb0 k0 HK q1 q2 ⊢
  have MS := markStringS_sl A H c lo hi k v0 q1 h0 hkl
  rw [HJ.out] at MS
  refine MS.mono ?_
  rintro e w1 ⟨rfl, hX, hr, hc⟩
  have q3 := q2.keep hr (q2.differ q1 (by decide))
  have k1 : Blk w1 w.heap.size 26 [.string nm, .int .i64 bs, .slice A H.length c, .slice B G.length d] := by
    obtain ⟨row, hg, hrr⟩ := hr
    exact k0.grown hg (fun e => hxb row hrr e.symm)
  have c3 := k1.cell (i := 3) rfl
  have MG := Lib.hid (markGroupS_sl B G d lo hi j w1 q3 hj.1 hj.2)
  clear MS hxb
  go_wp2_with (fail)
  refine MG.out.mono ?_
  rintro e w2 ⟨rfl, hY, hr2, hc2⟩
  have hX2 := hX.keep hr2 (hX.differ q3 (by decide))
  clear c3
  go_wp2
  go_ret
  refine ⟨rfl, hX2, hY, fun t' C zs ht hz ha => ?_, Chg.after hb0 (hc.trans hc2)⟩
  have z1 := (HK.out t' C zs hz).apart hr ha
  exact z1.keep hr2 (z1.differ q3 ht)
set_option maxHeartbeats 2000000 in
theorem heldTopic_any (nm : ByteArray) (bs : Int) (A : Option Addr) (n c : Nat) (B : Option Addr) (m d k : Nat) (w : World) (hA : Strs w w.heap.size A (markN n k)) (hB : Grs w w.heap.size B (markG m (k + n))) (h0 : 1 ≤ k) (h1 : k + n + 2 * m ≤ 4000000) :
    Calls Try.prog 89 #[topV nm bs (.slice A n c) (.slice B m d), .int .i64 k] w fun e w' => e = .returned (.int .i64 ((k + n + 2 * m : Nat) : Int)) ∧ Below w.heap.size w w' := by
  have hb0 : Below w.heap.size w (w.alloc (.cells #[.string nm, .int .i64 bs, .slice A n c, .slice B m d] 26)) := (Below.refl _ w).alloc (Nat.le_refl _) _
  have k0 := Blk.fresh w 26 [.string nm, .int .i64 bs, .slice A n c, .slice B m d]
  simp only [List.toArray] at k0
  obtain ⟨j, HJ⟩ : ∃ j, Hid (k + n = j) := ⟨_, Lib.hid rfl⟩
  have HS := heldStringS_any A n c k _ (hA.on hb0) h0 (by omega)
  rw [HJ.out] at HS hB ⊢
  have hj : 1 ≤ j ∧ j + 2 * m ≤ 4000000 := by have := HJ.out; omega
  have hj' : ¬ ((j : Int) < 0) := by omega
  have hjm : ¬ (((j + 2 * m : Nat) : Int) < 0) := by omega
  have HSH := Lib.hid HS
  have HT := Lib.hid (fun W (h : Below w.heap.size w W) => heldGroupS_any B m d j W (hB.on h) hj.1 hj.2)
  clear HS h1
  go_enter Try.func89, Try.ntmps89
  go_wp2_with (fail)
  refine HSH.out.mono ?_
  rintro e w1 ⟨rfl, hb1⟩
  have hw1 := hb0.trans (hb1.mono hb0.size)
  have k1 := k0.below hb1 k0.lt
  have k3 := k1.cell (i := 3) rfl
  clear HSH
  go_wp2_with (fail)
  refine (HT.out _ hw1).mono ?_
  rintro e w2 ⟨rfl, hb2⟩
  go_wp2
  go_ret
  exact ⟨rfl, hw1.trans (hb2.mono hw1.size)⟩
set_option maxHeartbeats 2000000 in
theorem markTopicOut_sl (nm : ByteArray) (bs : Int) (A : Option Addr) (H : List ByteArray) (c : Nat) (B : Option Addr) (G : List Grp) (d : Nat) (T : Option Addr) (N : List ByteArray) (x : Nat) (n co : Int) (lo hi k : Nat) (w : World) (h : Sl w lo hi 9 A (H.map Value.string)) (h2 : Sl w lo hi 47 B (gflat G)) (h3 : Sl w lo hi 9 T (N.map Value.string)) (ha : Apart A T) (h0 : 1 ≤ k) (h1 : k + H.length + 2 * G.length + N.length ≤ 4000000) (hhi : hi ≤ w.heap.size) :
    Calls Try.prog 46 #[outV nm bs (.slice A H.length c) (.slice B G.length d) (.slice T N.length x) n co, .int .i64 k] w fun e w' => e = .returned (.int .i64 ((k + H.length + 2 * G.length + N.length : Nat) : Int)) ∧
      Sl w' lo hi 9 A ((markN H.length k).map Value.string) ∧ Sl w' lo hi 47 B (gflat (markG G.length (k + H.length))) ∧ Sl w' lo hi 9 T ((markN N.length (k + H.length + 2 * G.length)).map Value.string) ∧ Chg w w' lo hi := by
  have hb0 : Below w.heap.size w (w.alloc (.cells #[.string nm, .int .i64 bs, .slice A H.length c, .slice B G.length d, .slice T N.length x, .int .i64 n, .int .i64 co] 30)) := (Below.refl _ w).alloc (Nat.le_refl _) _
  have k0 := Blk.fresh w 30 [.string nm, .int .i64 bs, .slice A H.length c, .slice B G.length d, .slice T N.length x, .int .i64 n, .int .i64 co]
  simp only [List.toArray] at k0
  have q1 := h.below hb0
  have q2 := h2.below hb0
  have q3 := h3.below hb0
  obtain ⟨j, HJ⟩ : ∃ j, Hid (k + H.length + 2 * G.length = j) := ⟨_, Lib.hid rfl⟩
  have hj : 1 ≤ j ∧ j + N.length ≤ 4000000 := by have := HJ.out; omega
  have hkl : k + H.length + 2 * G.length ≤ 4000000 := by omega
  have MT := markTopic_sl nm bs A H c B G d lo hi k _ q1 q2 h0 hkl
  rw [HJ.out] at MT ⊢
  have MH := Lib.hid MT
  clear MT h1
  go_enter Try.func46, Try.ntmps46
  go_wp2_with (fail)
  refine MH.out.mono ?_
  rintro e w1 ⟨rfl, hX, hY, hO, hc⟩
  have z3 := hO _ _ _ (by decide) q3 ha.symm
  have k1 := k0.offC hc (by omega)
  have hc1 := Chg.after hb0 hc
  have c3 := k1.cell (i := 4) rfl
  clear MH hO hb0
  go_wp2_with (fail)
  refine (markStringS_sl T N x lo hi j w1 z3 hj.1 hj.2).mono ?_
  rintro e w2 ⟨rfl, hZ, hr2, hc2⟩
  have hX2 := hX.apart hr2 ha
  have hY2 := hY.keep hr2 (hY.differ z3 (by decide))
  clear c3
  go_wp2
  go_ret
  exact ⟨rfl, hX2, hY2, hZ, hc1.trans hc2⟩
set_option maxHeartbeats 2000000 in
theorem heldTopicOut_any (nm : ByteArray) (bs : Int) (A : Option Addr) (n c : Nat) (B : Option Addr) (m d : Nat) (T : Option Addr) (p x : Nat) (nn co : Int) (k : Nat) (w : World) (hA : Strs w w.heap.size A (markN n k)) (hB : Grs w w.heap.size B (markG m (k + n))) (hT : Strs w w.heap.size T (markN p (k + n + 2 * m))) (h0 : 1 ≤ k) (h1 : k + n + 2 * m + p ≤ 4000000) :
    Calls Try.prog 47 #[outV nm bs (.slice A n c) (.slice B m d) (.slice T p x) nn co, .int .i64 k] w fun e w' => e = .returned (.int .i64 ((k + n + 2 * m + p : Nat) : Int)) ∧ Below w.heap.size w w' := by
  have hb0 : Below w.heap.size w (w.alloc (.cells #[.string nm, .int .i64 bs, .slice A n c, .slice B m d, .slice T p x, .int .i64 nn, .int .i64 co] 30)) := (Below.refl _ w).alloc (Nat.le_refl _) _
  have k0 := Blk.fresh w 30 [.string nm, .int .i64 bs, .slice A n c, .slice B m d, .slice T p x, .int .i64 nn, .int .i64 co]
  simp only [List.toArray] at k0
  obtain ⟨j, HJ⟩ : ∃ j, Hid (k + n + 2 * m = j) := ⟨_, Lib.hid rfl⟩
  have HM := heldTopic_any nm bs A n c B m d k _ (hA.on hb0) (hB.on hb0) h0 (by omega)
  rw [HJ.out] at HM hT ⊢
  have hj : 1 ≤ j ∧ j + p ≤ 4000000 := by have := HJ.out; omega
  have hj' : ¬ ((j : Int) < 0) := by omega
  have hjp : ¬ (((j + p : Nat) : Int) < 0) := by omega
  have HMH := Lib.hid HM
  have HT := Lib.hid (fun W (h : Below w.heap.size w W) => heldStringS_any T p x j W (hT.on h) hj.1 hj.2)
  clear HM h1
  go_enter Try.func47, Try.ntmps47
  go_wp2_with (fail)
  refine HMH.out.mono ?_
  rintro e w1 ⟨rfl, hb1⟩
  have hw1 := hb0.trans (hb1.mono hb0.size)
  have k1 := k0.below hb1 k0.lt
  have k3 := k1.cell (i := 4) rfl
  clear HMH
  go_wp2_with (fail)
  refine (HT.out _ hw1).mono ?_
  rintro e w2 ⟨rfl, hb2⟩
  go_wp2
  go_ret
  exact ⟨rfl, hw1.trans (hb2.mono hw1.size)⟩
end Go.Proofs.Ytdehpdmgoaopfaa
