/- The contract of strings.Clone. The methods move, ack and seek of topicWork. The contract of impl.freshTexts. The method fetch of topicWork. -/
import Derived.Test.YtjnbhppnchmeoaaDrawW
import Derived.Lib.UnsafeStr
import Derived.Test.YtjnbhppnchmeoaaTpOpDW
import Derived.Test.YtjnbhppnchmeoaaTpRTW
import Derived.Deep.RegionLaw
import Derived.Test.YtjnbhppnchmeoaaIs3W
import Derived.BigRegion
namespace Go.Proofs.Ytjnbhppnchmeoaa
open Go.RowKit
set_option linter.unusedVariables false

theorem cellsU8 : Try.prog.cellsOf 5 = 1 := by kernel_rfl
theorem splice_one {α : Type} (Z X : List α) (hZ : Z.length = X.length) : splice Z 0 X = X := by simp [splice, hZ]

/-- The string over the whole of a new row of bytes. -/
theorem run_clone {w : World} {g : Nat} {Z : List Value} {s : ByteArray} (hp : 0 < s.size) (hs : s.size ≤ 1048576)
    (h : Hid (w.heap[g]? = some (.cells (splice Z 0 (Lib.byteCells s.data.toList)).toArray 5 (0, 0)))) (hZ : Hid (Z.length = s.size)) :
    (Builtin.unsafeString_ #[143, 3] 9 #[.pointer (some ⟨g, 0, none⟩), .int .i64 s.size]).run Try.prog w = .ok (.string s) (w.freeze ⟨g, 0, none⟩ s.size) := by
  have e : splice Z 0 (Lib.byteCells s.data.toList) = Lib.byteCells s.data.toList := splice_one _ _ (by rw [bc_len]; exact hZ.out)
  have h' := h.out
  rw [e] at h'
  have hl : s.data.toList.length = s.size := by simp
  have := Lib.run_unsafeString_row (P := Try.prog) w 143 3 9 5 Try.underlying143 cellsU8 g s.size (by simp [World.shape?, h', bc_len]) s.data.toList
    (by intro e; rw [e] at hl; simp at hl; omega) (by omega) (by omega) (by
      intro j x hj
      have hjl : j < s.data.toList.length := (List.getElem?_eq_some_iff.1 hj).1
      have hadd : (⟨g, 0, none⟩ : Addr).add j = ⟨g, j, none⟩ := by unfold Addr.add; split <;> simp_all
      rw [hadd]
      simp [World.cell?, h', Lib.byteCells, hj])
  rw [hl] at this
  exact this

set_option maxHeartbeats 1600000 in
set_option maxRecDepth 1000000 in
theorem slClone_any (s : ByteArray) (w : World) (hs : s.size ≤ 1048576) :
    Calls Try.prog 130 #[.string s] w fun e w' => e = .returned (.string s) ∧ Below w.heap.size w w' := by
  obtain ⟨i0, hi, hz0, hz1, hz2⟩ := info_parts infoU8
  by_cases hz : s.size = 0
  · have he : s = ByteArray.empty := ByteArray.size_eq_zero_iff.1 hz
    subst he
    go_enter Try.func130, Try.ntmps130
    go_wp2
    go_ret
    exact ⟨rfl, Below.refl _ _⟩
  · have hp : 0 < s.size := by omega
    have hne : ((s.size : Int) == 0) = false := by simpa using ne_empty hp
    clear hz
    go_enter Try.func130, Try.ntmps130
    go_wp2_with (first
    | (at_make; refine wpList_make_full _ rfl _ _ 22 rfl w.heap.size 5 i0 (.int .u8 0) 1 Try.underlying22 hi hz0 hz1 _ _ _ _ s.size rfl rfl rfl rfl (by rw [hz2]; omega) (by unfold maxLen; omega) (Nat.le_refl _) ?_; intro w1 hown1 hgrow1; obtain ⟨Z, HG1, hZ⟩ := own_heap' hown1; have HZ := Lib.hid hZ; clear hZ; have hb1 := (Below.refl w.heap.size w).grown hgrow1 (Nat.le_refl _) (fun k e => by cases e); clear hown1 hgrow1)
    | ((with_reducible refine wpList_copy_str rfl (.tmp 10) (.tmp 11) 22 9 rfl 5 Try.underlying22 sizeU8 _ _ _ s rfl rfl w.heap.size 0 _ 5 HG1.out (by omega) (fun _ => rfl) (by rw [HZ.out]; omega) w.heap.size w hb1 (Nat.le_refl _) ?_); intro w2 HG2 hb2; clear HG1 hb1; have hcl := run_clone hp hs HG2 HZ))
    go_ret
    exact ⟨rfl, Lib.below_freeze hb2 (p := ⟨w.heap.size, 0, none⟩) (Nat.le_refl _) _⟩

theorem clone_any (s : ByteArray) (w : World) (hs : s.size ≤ 1048576) :
    Calls Try.prog 110 #[.string s] w fun e w' => e = .returned (.string s) ∧ Below w.heap.size w w' := by
  go_enter Try.func110, Try.ntmps110
  go_wp2_with (go_at_call 130; refine (slClone_any _ _ hs).mono ?_; rintro e w1 ⟨rfl, hb1⟩)
  go_ret
  exact ⟨rfl, hb1⟩


end Go.Proofs.Ytjnbhppnchmeoaa

namespace Go.Proofs.Ytjnbhppnchmeoaa
open Go.RowKit Go.Deep
set_option linter.unusedVariables false
set_option maxRecDepth 1000000
theorem gflat_set1 (G : List Grp) {k : Nat} (h : k < G.length) (n : Int) : (gflat G).set (k * 2 + 1) (.int .i64 n) = gflat (G.set k ⟨G[k].name, n⟩) := by
  rw [← gflat_set ⟨G[k].name, n⟩ G k]
  have e : (gflat G)[k * 2]? = some (.string G[k].name) := by have := gflat_get G k h 0 (by omega); rw [Nat.add_zero] at this; rw [this]; rfl
  have hl : k * 2 < (gflat G).length := by rw [gflat_len]; omega
  have e2 : (gflat G).set (k * 2) (.string G[k].name) = gflat G := by
    rw [List.getElem?_eq_getElem hl] at e
    injection e with e
    rw [← e]; exact List.set_getElem_self hl
  simp only [e2]
/-- What a group's place is set to. -/
def setA (t : Tpc) (k : Nat) (n : Int) : Ans := ⟨⟨t.name, t.base, t.held, t.groups.set k ⟨(t.groups.getD k zeroGrp).name, n⟩⟩, [], 0, 0⟩
def moveA (t : Tpc) (k : Nat) (n : Int) (r : Bool) : Ans := if r = true then setA t k n else ill 8
theorem move_yes (p bg k x y : Nat) (n a0 b0 : Int) (c0 c1 c2 c3 c4 c6 c7 v : Value) (w : World) (P : Blk w p 83 [c0, c1, c2, c3, c4, .int .i64 n, c6, c7]) (hx : w.cell? ⟨x, 0, none⟩ = some (.int .i64 a0)) (hy : w.cell? ⟨y, 0, none⟩ = some (.int .i64 b0)) (hv : w.cell? ⟨bg, k * 2 + 1, none⟩ = some v) (hz : w.frozen? ⟨bg, k * 2 + 1, none⟩ = false) (hr : inB n a0 b0 = true) :
    Calls Try.prog 118 #[.pointer (some ⟨p, 0, none⟩), .pointer (some ⟨bg, k * 2, none⟩), btwV x y] w fun e w' => e = .returned (.int .i64 0) ∧ w' = w.setCell ⟨bg, k * 2 + 1, none⟩ (.int .i64 n) := by
  have BT := Lib.hid (between_any hr x y w hx hy)
  have q5 := P.cell (i := 5) rfl
  clear hx hy hr
  go_enter Try.func118, Try.ntmps118
  go_wp2_with (fail)
  refine BT.out.mono ?_
  rintro e w' ⟨rfl, rfl⟩
  go_wp2
  go_ret
  exact ⟨rfl, rfl⟩
theorem move_no (p bg k x y : Nat) (n a0 b0 : Int) (c0 c1 c2 c3 c4 c6 c7 : Value) (w : World) (P : Blk w p 83 [c0, c1, c2, c3, c4, .int .i64 n, c6, c7]) (hx : w.cell? ⟨x, 0, none⟩ = some (.int .i64 a0)) (hy : w.cell? ⟨y, 0, none⟩ = some (.int .i64 b0)) (hr : inB n a0 b0 = false) :
    Calls Try.prog 118 #[.pointer (some ⟨p, 0, none⟩), .pointer (some ⟨bg, k * 2, none⟩), btwV x y] w fun e w' => e = .returned (.int .i64 8) ∧ w' = w := by
  have BT := Lib.hid (between_any hr x y w hx hy)
  have q5 := P.cell (i := 5) rfl
  clear hx hy hr
  go_enter Try.func118, Try.ntmps118
  go_wp2_with (fail)
  refine BT.out.mono ?_
  rintro e w' ⟨rfl, rfl⟩
  go_wp2
  go_ret
  exact ⟨rfl, rfl⟩
/-- What a change of a group's place leaves. -/
theorem set_post {w W : World} {lo p bg k : Nat} {t : Tpc} {s : ByteArray} {n : Int} {A : Option Addr} {a b : Nat} (h : Wk w lo p t s n A a (some ⟨bg, 0, none⟩) b) (hb : Below w.heap.size w W) (hlow : lo ≤ w.heap.size) (hk : k < t.groups.length) :
    OpPost lo p s n (setA t k n) w (.returned (.int .i64 0)) (W.setCell ⟨bg, k * 2 + 1, none⟩ (.int .i64 n)) := by
  obtain ⟨P, oS, oG⟩ := h
  have P1 := P.below hb P.lt
  have S1 : OwnS W lo (.slice A t.held.length a) t.held := row_below oS hb (Nat.le_refl _)
  have G1 : OwnG W lo (.slice (some ⟨bg, 0, none⟩) t.groups.length b) t.groups := row_below oG hb (Nat.le_refl _)
  have cS := Cap.own oS
  have cG := Cap.own oG
  have nP : p ≠ bg := fun e => own_not oG P (by decide) (by rw [e]; rfl)
  have hbl := (oG.lt bg rfl).1
  have S2 : OwnS (W.setCell ⟨bg, k * 2 + 1, none⟩ (.int .i64 n)) lo (.slice A t.held.length a) t.held := row_off S1 (p := ⟨bg, k * 2 + 1, none⟩) (by
    rcases own_apart S1 G1 (by decide) with h | h
    · rw [h]; exact fun e => by cases e
    · exact h) _
  have G2 := (World.ownsRow.stored G1 (k * 2 + 1) (.int .i64 n)).1
  rw [gflat_set1 t.groups hk n] at G2
  have hl2 : (t.groups.set k ⟨t.groups[k].name, n⟩).length = t.groups.length := List.length_set ..
  have eD : t.groups.getD k zeroGrp = t.groups[k] := by rw [List.getD_eq_getElem?_getD, List.getElem?_eq_getElem hk]; rfl
  have hb2 : Below lo w (W.setCell ⟨bg, k * 2 + 1, none⟩ (.int .i64 n)) := (hb.mono hlow).setCell (p := ⟨bg, k * 2 + 1, none⟩) hbl _
  refine ⟨hb2, fun g cs hg h => (h.below hb h.lt).far (p := ⟨bg, k * 2 + 1, none⟩) (fun e => own_not oG h (by decide) (by rw [e]; rfl)) _, rfl, .inr ⟨rfl, A, a, some ⟨bg, 0, none⟩, b, none, 0, ?_, ?_, ?_, .inl rfl, (fun x y _ e => by cases e), cS, ?_⟩⟩
  · have := P1.far (p := ⟨bg, k * 2 + 1, none⟩) nP (.int .i64 n)
    unfold setA
    simp only [List.length_set]
    exact this
  · exact Sl.of_own S2 rfl
  · unfold setA
    simp only [eD]
    have h3 := Sl.of_own G2 rfl
    exact h3
  · unfold setA
    simp only [List.length_set]
    exact cG
set_option maxHeartbeats 8000000 in
theorem ack_any (t : Tpc) (s : ByteArray) (n : Int) (lo p bg k : Nat) (A : Option Addr) (a b : Nat) (w : World) (h : Wk w lo p t s n A a (some ⟨bg, 0, none⟩) b) (hl : lo ≤ p) (hH : t.held.length ≤ 20) (h0 : 0 ≤ t.base) (h1 : t.base + t.held.length ≤ 1000000000) (hk : k < t.groups.length) :
    Calls Try.prog 76 #[.pointer (some ⟨p, 0, none⟩), .pointer (some ⟨bg, k * 2, none⟩)] w (OpPost lo p s n (moveA t k n (inB n (t.groups.getD k zeroGrp).acked (t.base + t.held.length))) w) := by
  have hlow : lo ≤ w.heap.size := Nat.le_trans hl (Nat.le_of_lt h.blk.lt)
  have SP := Lib.hid (fun W (hb : Below w.heap.size w W) => set_post (n := n) h hb hlow hk)
  have NP := Lib.hid (fun W (hb : Below w.heap.size w W) => (show OpPost lo p s n (ill 8) w (.returned (.int .i64 8)) W from ⟨hb.mono hlow, fun g cs _ q => q.below hb q.lt, rfl, .inl ⟨by simp [ill], rfl⟩⟩))
  obtain ⟨P, oS, oG⟩ := h
  have EN := Lib.hid (endOf_any t.name t.base A t.held.length a (.slice (some ⟨bg, 0, none⟩) t.groups.length b) (by omega) h0 (by omega) rfl)
  obtain ⟨ak0, ak1, af0, af1⟩ := row_grp oG hk
  obtain ⟨ak, HAK⟩ : ∃ x, Hid (t.groups[k].acked = x) := ⟨_, Lib.hid rfl⟩
  rw [HAK.out] at ak1
  have eD : Hid ((t.groups.getD k zeroGrp).acked = ak) := Lib.hid (by rw [List.getD_eq_getElem?_getD, List.getElem?_eq_getElem hk]; exact HAK.out)
  rw [eD.out]
  have nP : p ≠ bg := fun e => own_not oG P (by decide) (by rw [e]; rfl)
  obtain ⟨E, HE⟩ : ∃ x, Hid (t.base + (t.held.length : Int) = x) := ⟨_, Lib.hid rfl⟩
  rw [HE.out] at EN ⊢
  have FZ := Lib.hid (fun W (hb : Below w.heap.size w W) => (show W.frozen? ⟨bg, k * 2 + 1, none⟩ = false from by rw [← af1]; exact hb.frozen (p := ⟨bg, k * 2 + 1, none⟩) (oG.lt bg rfl).2))
  obtain ⟨r, HR⟩ : ∃ r, Hid (inB n ak E = r) := ⟨_, Lib.hid rfl⟩
  rw [HR.out]
  have y0 : w.drew.cell? ⟨p, 0, none⟩ = _ := P.drew.cell (i := 0) rfl
  have y1 : w.drew.cell? ⟨p, 1, none⟩ = _ := P.drew.cell (i := 1) rfl
  have y2 : w.drew.cell? ⟨p, 2, none⟩ = _ := P.drew.cell (i := 2) rfl
  have y3 : w.drew.cell? ⟨p, 3, none⟩ = _ := P.drew.cell (i := 3) rfl
  have yk : w.drew.cell? ⟨bg, k * 2 + 1, none⟩ = some (.int .i64 ak) := ak1
  have DR := Lib.hid (fun W (h : Below w.drew.heap.size w.drew W) => (show Below w.heap.size w W from (below_drew (Below.refl _ w)).trans h))
  have PL := Lib.hid P
  clear P oS oG ak0 ak1 af0 af1 eD HE HAK h0 h1
  cases r with
  | true =>
    have MV := Lib.hid (fun W x y hP hx hy hv hz => move_yes (p := p) (bg := bg) (k := k) (x := x) (y := y) (n := n) (a0 := ak) (b0 := E) (w := W) (P := hP) (hx := hx) (hy := hy) (hv := hv) (hz := hz) (hr := HR.out) (c0 := .string t.name) (c1 := .int .i64 t.base) (c2 := .slice A t.held.length a) (c3 := .slice (some ⟨bg, 0, none⟩) t.groups.length b) (c4 := .string s) (c6 := .slice none 0 0) (c7 := .int .i64 0) (v := .int .i64 ak))
    unfold moveA
    rw [if_pos rfl]
    go_enter Try.func76, Try.ntmps76
    go_wp2_with (fail)
    go_region_law
      (first
        | (go_simp; go_at_call 62; (with_reducible refine (EN.out _).mono ?_); rintro e w4 ⟨rfl, hb4⟩; have z0 := kept_cell hb4 y0; have z1 := kept_cell hb4 y1; have z2 := kept_cell hb4 y2; have z3 := kept_cell hb4 y3; have zk := kept_cell hb4 yk)
        | (go_simp; go_at_call 67; (with_reducible refine (numbersBetween_b _ _ w4).mono ?_); rintro e w5 ⟨rfl, hx, hy, hb5⟩; have hb6 := hb4.trans (hb5.mono hb4.size); have vk := kept_cell hb6 yk)
        | (go_simp; go_at_call 118; (with_reducible refine (MV.out w5 w4.heap.size (w4.heap.size + 1) (PL.out.below (DR.out _ hb6) PL.out.lt) hx hy vk (FZ.out _ (DR.out _ hb6))).mono ?_); rintro e w6 ⟨rfl, rfl⟩))
    all_goals
      have hb7 := SP.out w5 (DR.out _ hb6)
      go_wp2
      go_ret
      exact hb7
  | false =>
    have MV := Lib.hid (fun W x y hP hx hy => move_no (p := p) (bg := bg) (k := k) (x := x) (y := y) (n := n) (a0 := ak) (b0 := E) (w := W) (P := hP) (hx := hx) (hy := hy) (hr := HR.out) (c0 := .string t.name) (c1 := .int .i64 t.base) (c2 := .slice A t.held.length a) (c3 := .slice (some ⟨bg, 0, none⟩) t.groups.length b) (c4 := .string s) (c6 := .slice none 0 0) (c7 := .int .i64 0))
    unfold moveA
    rw [if_neg (by simp)]
    go_enter Try.func76, Try.ntmps76
    go_wp2_with (fail)
    go_region_law
      (first
        | (go_simp; go_at_call 62; (with_reducible refine (EN.out _).mono ?_); rintro e w4 ⟨rfl, hb4⟩; have z0 := kept_cell hb4 y0; have z1 := kept_cell hb4 y1; have z2 := kept_cell hb4 y2; have z3 := kept_cell hb4 y3; have zk := kept_cell hb4 yk)
        | (go_simp; go_at_call 67; (with_reducible refine (numbersBetween_b _ _ w4).mono ?_); rintro e w5 ⟨rfl, hx, hy, hb5⟩; have hb6 := hb4.trans (hb5.mono hb4.size))
        | (go_simp; go_at_call 118; (with_reducible refine (MV.out w5 w4.heap.size (w4.heap.size + 1) (PL.out.below (DR.out _ hb6) PL.out.lt) hx hy).mono ?_); rintro e w6 ⟨rfl, rfl⟩))
    all_goals
      have hb7 := NP.out _ (DR.out _ hb6)
      go_wp2
      go_ret
      exact hb7
end Go.Proofs.Ytjnbhppnchmeoaa

namespace Go.Proofs.Ytjnbhppnchmeoaa
open Go.RowKit
set_option linter.unusedVariables false
set_option maxRecDepth 1000000
set_option maxHeartbeats 2000000 in
theorem freshTexts_any (A : Option Addr) (L : List ByteArray) (c : Nat) (w : World) (hA : Strs w w.heap.size A L) (hn : L.length ≤ 100000) (hs : ∀ s ∈ L, s.size ≤ 1048576) :
    Calls Try.prog 116 #[.slice A L.length c] w fun e w' => ∃ B d, e = .returned (.slice B L.length d) ∧ OwnS w' w.heap.size (.slice B L.length d) L ∧ Below w.heap.size w w' := by
  obtain ⟨i0, hi, hz0, hz1, hz2⟩ := info_parts infoStr
  have HA := Lib.hid (fun W (h : Below w.heap.size w W) => hA.on h)
  go_enter Try.func116, Try.ntmps116
  go_wp2
  go_loopw [3, 5, 8] (fun v _ i wr => ∃ k : Nat, k ≤ L.length ∧ i = .int .i64 k ∧ OwnS wr w.heap.size v (L.take k) ∧ Below w.heap.size w wr) (fun _ _ i _ => L.length - (intOf i).toNat)
  case atStart => exact ⟨0, by omega, rfl, World.ownsRow_nil _ _ _ _, Below.refl _ _⟩
  case round =>
    obtain ⟨k, hk, rfl, hO, hb⟩ := hrel
    by_cases hlt : k < L.length
    · have hlt' : (k : Int) < (L.length : Int) := by omega
      obtain ⟨a, rfl, hab, c0⟩ := (HA.out _ hb).2 k hlt
      have hss := hs _ (List.getElem_mem hlt)
      go_wp2_with (fail)
      refine (clone_any L[k] _ hss).mono ?_
      rintro e w1 ⟨rfl, hb1⟩
      have hO1 := row_below hO hb1 (Nat.le_refl _)
      have hb01 := hb.trans (hb1.mono hb.size)
      clear c0
      go_wp2_with (at_builtin; refine wpList_append_own _ rfl _ _ 23 rfl w.heap.size 9 i0 (.string ⟨#[]⟩) 1 16 Try.underlying23 hi hz0 hz1 hz2 rfl (by decide) _ _ _ rfl (World.ownsRow.alloc hO1 _) ⟨w1.heap.size, 0, none⟩ 1 1 [.string L[k]] rfl rfl (one_cell _ _ _) (one_str _) (by simp [maxLen]; omega) (by simp; omega) (by have := hb01.size; simp; omega) ?_)
      intro v' w2 hO2 hg2 _
      have hb2 := below_apps hb01 (Nat.le_refl _) hO1 (Nat.le_refl _) hg2
      have hO3 : OwnS w2 w.heap.size v' (L.take (k + 1)) := by
        unfold OwnS
        have e1 : (L.take (k + 1)).length = k + 1 := by simp; omega
        have e2 : (L.take (k + 1)).map Value.string = (L.map Value.string).take k ++ [.string L[k]] := by rw [List.take_succ_eq_append_getElem hlt, List.map_append, List.map_take]; rfl
        rw [e1, e2]
        exact hO2
      clear hO2
      go_wp2
      exact ⟨⟨k + 1, by omega, by go_num, hO3, hb2⟩, by simp [intOf]; omega⟩
    · obtain rfl : k = L.length := by omega
      rw [List.take_of_length_le (Nat.le_refl _)] at hO
      obtain ⟨B, d, rfl⟩ := ownS_some hO
      go_wp2
      go_ret
      exact ⟨B, d, rfl, hO, hb⟩
end Go.Proofs.Ytjnbhppnchmeoaa

namespace Go.Proofs.Ytjnbhppnchmeoaa
open Go.RowKit Go.Deep
set_option linter.unusedVariables false
set_option maxRecDepth 1000000
/-- What a group fetches. -/
def fetchA (t : Tpc) (k : Nat) (n : Int) : Ans :=
  ⟨t, (t.held.drop ((t.groups.getD k zeroGrp).acked - t.base).toNat).take n.toNat, (t.groups.getD k zeroGrp).acked, 0⟩
theorem strs_takeN {w : World} {B : Nat} {A : Option Addr} {L : List ByteArray} (h : Strs w B A L) (q : Nat) : Strs w B A (L.take q) := by
  refine ⟨Nat.le_trans (by simp; omega) h.1, fun i hi => ?_⟩
  simp at hi
  obtain ⟨a, e, h1, h2⟩ := h.2 i (by omega)
  exact ⟨a, e, h1, by simpa using h2⟩
set_option maxHeartbeats 8000000 in
theorem fetch_any (t : Tpc) (s : ByteArray) (n : Int) (lo p bg k : Nat) (A : Option Addr) (a b : Nat) (w : World) (h : Wk w lo p t s n A a (some ⟨bg, 0, none⟩) b) (hl : lo ≤ p) (hH : t.held.length ≤ 20) (hs : ∀ x ∈ t.held, x.size ≤ 1048576) (h0 : 0 ≤ t.base) (h1 : t.base + t.held.length ≤ 1000000000) (hk : k < t.groups.length) (hn0 : 0 ≤ n) (hn1 : n ≤ 20)
    (hk1 : t.base ≤ t.groups[k].acked) (hk2 : t.groups[k].acked ≤ t.base + t.held.length) :
    Calls Try.prog 72 #[.pointer (some ⟨p, 0, none⟩), .pointer (some ⟨bg, k * 2, none⟩)] w (OpPost lo p s n (fetchA t k n) w) := by
  have hlow : lo ≤ w.heap.size := Nat.le_trans hl (Nat.le_of_lt h.blk.lt)
  obtain ⟨P, oS, oG⟩ := h
  obtain ⟨ak0, ak1, af0, af1⟩ := row_grp oG hk
  obtain ⟨ak, HAK⟩ : ∃ x, Hid (t.groups[k].acked = x) := ⟨_, Lib.hid rfl⟩
  rw [HAK.out] at ak1 hk1 hk2
  obtain ⟨m, HM⟩ : ∃ m : Nat, Hid ((ak - t.base).toNat = m) := ⟨_, Lib.hid rfl⟩
  have hm : ak = t.base + m := by have := HM.out; omega
  have hml : m ≤ t.held.length := by omega
  have eR : Hid (fetchA t k n = ⟨t, (t.held.drop m).take n.toNat, t.base + m, 0⟩) := Lib.hid (by
    unfold fetchA
    have e : t.groups.getD k zeroGrp = t.groups[k] := by rw [List.getD_eq_getElem?_getD, List.getElem?_eq_getElem hk]; rfl
    rw [e, HAK.out, HM.out, hm])
  rw [eR.out]
  subst hm
  obtain ⟨nm, bs, H, G⟩ := t
  simp only at P oS oG hH hs h0 h1 hk hml ak1 ⊢
  have cS := Cap.own oS
  have cG := Cap.own oG
  have SA := (OwnS.strs (n := H.length) oS).2
  have hcl := cS.le
  have hcm := cS.max
  unfold maxLen at hcm
  have nP : p ≠ bg := fun e => own_not oG P (by decide) (by rw [e]; rfl)
  have y1 : w.drew.cell? ⟨p, 1, none⟩ = _ := P.drew.cell (i := 1) rfl
  have y2 : w.drew.cell? ⟨p, 2, none⟩ = _ := P.drew.cell (i := 2) rfl
  have yk : w.drew.cell? ⟨bg, k * 2 + 1, none⟩ = some (.int .i64 (bs + m)) := ak1
  have hsub : IntKind.i64.wrap (bs + (m : Int) - bs) = (m : Int) := by rw [IntWalk.i64_in _ (by omega)]; omega
  have hm0 : (0 : Int) ≤ (m : Int) := by omega
  have hm1 : (m : Int) ≤ (H.length : Int) := by omega
  have htn : ((m : Int)).toNat = m := by omega
  obtain ⟨I, fw, hI, g0, h6, gc, ge⟩ := class_grown w
  have x1 := fun q => kept_cell (h6 q) (P.cell (i := 1) rfl)
  have x2 := fun q => kept_cell (h6 q) (P.cell (i := 2) rfl)
  have xk := fun q => kept_cell (h6 q) ak1
  have GE := Lib.hid ge
  clear h6 gc ge
  obtain ⟨TX, HTX⟩ : ∃ X, Hid ((H.drop m).take n.toNat = X) := ⟨_, Lib.hid rfl⟩
  rw [HTX.out]
  go_enter Try.func72, Try.ntmps72
  go_wp2_with (fail)
  refine wp_region_kept fw (by kernel_rfl) (by kernel_rfl) g0 ?_
  repeat (first
    | go_big_quiet_skip
    | (go_big_quiet_want; go_big_quiet_op; go_big_quiet_on))
  refine wpQuiet_nil ?_
  intro w2 h2
  have hb2 := GE.out _ h2
  have P2 := P.below hb2 P.lt
  have S2 : OwnS w2 lo (.slice A H.length a) H := row_below oS hb2 (Nat.le_refl _)
  have G2 : OwnG w2 lo (.slice (some ⟨bg, 0, none⟩) G.length b) G := row_below oG hb2 (Nat.le_refl _)
  have ak2 := kept_cell hb2 ak1
  have SB := (strs_drop SA hml hcl).mono (Nat.le_refl _)
  have SB2 := SB.on hb2
  have hb02 : Below lo w w2 := hb2.mono hlow
  have KQ := Lib.hid (fun g cs (_ : g ≠ p) (h : Blk w g 30 cs) => h.below hb2 h.lt)
  clear SB h2 g0 x1 x2 xk GE y1 y2 yk hsub hm0 hm1 htn ak0 ak1 af0 af1
  obtain ⟨L, HL⟩ : ∃ L, Hid (H.drop m = L) := ⟨_, Lib.hid rfl⟩
  have hLl : H.length - m = L.length := by rw [← HL.out, List.length_drop]
  have hLs : ∀ x ∈ L, x.size ≤ 1048576 := fun x hx => hs x (List.mem_of_mem_drop (by rw [HL.out]; exact hx))
  have hcl2 : L.length ≤ a - m := by omega
  have hcm2 : a - m ≤ 9223372036854775807 := by omega
  rw [HL.out] at SB2
  rw [hLl]
  have hL20 : L.length ≤ 20 := by omega
  have hHm := hH
  generalize (if a = m then A else Option.map (fun x => x.add m) A) = A' at SB2 ⊢
  generalize a - m = c' at hcl2 hcm2 ⊢
  obtain ⟨N, rfl⟩ : ∃ N : Nat, n = (N : Int) := ⟨n.toNat, by omega⟩
  obtain ⟨q, hq, hqe⟩ : ∃ q : Nat, q ≤ L.length ∧ L.take N = L.take q ∧ ((N < L.length ∧ q = N) ∨ (N = L.length ∧ q = N) ∨ (L.length < N ∧ q = L.length)) := by
    rcases Nat.lt_trichotomy N L.length with h | h | h
    · exact ⟨N, by omega, rfl, .inl ⟨h, rfl⟩⟩
    · exact ⟨N, by omega, rfl, .inr (.inl ⟨h, rfl⟩)⟩
    · exact ⟨L.length, Nat.le_refl _, by rw [List.take_of_length_le (by omega), List.take_of_length_le (Nat.le_refl _)], .inr (.inr ⟨h, rfl⟩)⟩
  have eN : ((N : Int)).toNat = N := by omega
  have FX := fun W (hw : Below w2.heap.size w2 W) => freshTexts_any A' (L.take q) c' W (strs_takeN (SB2.on hw) q) (by simp; omega) (fun x hx => hLs x (List.mem_of_mem_take hx))
  have hql : (L.take q).length = q := by simp; omega
  rw [hql] at FX
  have FXh := Lib.hid FX
  clear FX SB2
  obtain ⟨QT, HQT⟩ : ∃ Q, Hid (L.take q = Q) := ⟨_, Lib.hid rfl⟩
  rw [HQT.out] at FXh hql
  have HTQ : Hid (TX = QT) := Lib.hid (by rw [← HTX.out, HL.out, eN, hqe.1, HQT.out])
  clear eN HTX
  have q5 := P2.cell (i := 5) rfl
  have HQL := Lib.hid hql
  clear hql hLl
  have hl2 : lo ≤ w2.heap.size := Nat.le_trans hlow hb02.size
  have hlw := hb02.size
  have FIN := Lib.hid (show ∀ q T x w3, QT.length = q → Below w2.heap.size w2 w3 → OwnS w3 w2.heap.size (.slice T q x) QT → OpPost lo p s N ⟨⟨nm, bs, H, G⟩, QT, bs + m, 0⟩ w (.returned (.int .i64 0)) ((w3.setCell ⟨p, 6, none⟩ (.slice T q x)).setCell ⟨p, 7, none⟩ (.int .i64 (bs + m))) from fun q T x w3 hql hb3 oT => by
    have P3 := P2.below hb3 P2.lt
    have S3 : OwnS w3 lo (.slice A H.length a) H := row_below S2 hb3 (Nat.le_refl _)
    have G3 : OwnG w3 lo (.slice (some ⟨bg, 0, none⟩) G.length b) G := row_below G2 hb3 (Nat.le_refl _)
    have hb03 := hb02.trans (hb3.mono hl2)
    have hap : Apart A T := fun x1 y1 e1 e2 => by
      have i1 := (S2.lt x1.block (by rw [e1]; rfl)).2
      have i2 := (oT.lt y1.block (by rw [e2]; rfl)).1
      omega
    have P4 := (P3.put 6 (.slice T q x)).put 7 (.int .i64 (bs + m))
    have hb4 := (hb03.setCell (p := ⟨p, 6, none⟩) hl (.slice T q x)).setCell (p := ⟨p, 7, none⟩) hl (.int .i64 (bs + m))
    have S4 := row_off (row_off S3 (p := ⟨p, 6, none⟩) (own_not S3 P3 (by decide)) (.slice T q x)) (p := ⟨p, 7, none⟩) (own_not S3 P3 (by decide)) (.int .i64 (bs + m))
    have G4 := row_off (row_off G3 (p := ⟨p, 6, none⟩) (own_not G3 P3 (by decide)) (.slice T q x)) (p := ⟨p, 7, none⟩) (own_not G3 P3 (by decide)) (.int .i64 (bs + m))
    have T4 := row_off (row_off oT (p := ⟨p, 6, none⟩) (own_not oT P3 (by decide)) (.slice T q x)) (p := ⟨p, 7, none⟩) (own_not oT P3 (by decide)) (.int .i64 (bs + m))
    simp only [List.set_cons_succ, List.set_cons_zero] at P4
    refine ⟨hb4, fun g cs hg h => (((KQ.out g cs hg h).below hb3 (KQ.out g cs hg h).lt).far (p := ⟨p, 6, none⟩) hg _).far (p := ⟨p, 7, none⟩) hg _, rfl, .inr ⟨rfl, A, a, some ⟨bg, 0, none⟩, b, T, x, ?_, Sl.of_own S4 rfl, Sl.of_own G4 rfl, (Sl.of_own T4 rfl).wide hl2 (Nat.le_refl _), hap, cS, cG⟩⟩
    simp only [hql]
    exact P4)
  rcases hqe.2 with ⟨h3, rfl⟩ | ⟨rfl, rfl⟩ | ⟨h3, rfl⟩
  all_goals
    clear hqe
    go_wp2_with (fail)
    with_reducible refine (FXh.out _ (Below.refl _ _)).mono ?_
    rintro e w3 ⟨T, x, rfl, oT, hb3⟩
    have P3 := P2.below hb3 P2.lt
    have ak3 := kept_cell hb3 ak2
    have q6 := P3.cell (i := 6) rfl
    have f6 := P3.froz 6
    have q7 := P3.cell (i := 7) rfl
    have f7 := P3.froz 7
    have ak4 := fun v => cell_put_far ak3 (p := ⟨p, 6, none⟩) (Ne.symm nP) v
    go_wp2
    go_ret
    have h := FIN.out _ _ _ _ HQL.out hb3 oT
    rw [← HTQ.out] at h
    exact h
end Go.Proofs.Ytjnbhppnchmeoaa
