/- The contract of strings.Clone. The method publish of topicWork. The method retain of topicWork. The methods move, ack and seek of topicWork. -/
import Derived.Test.YtodnmbppgjbpmaaDrawW
import Derived.Lib.UnsafeStr
import Derived.Test.YtodnmbppgjbpmaaTpWkW
import Derived.Test.YtodnmbppgjbpmaaIs3W
import Derived.Deep.RegionLaw
import Derived.Deep.AppendLies
import Derived.Test.YtodnmbppgjbpmaaTpOpDW
import Derived.Test.YtodnmbppgjbpmaaTpRTW
import Derived.BigQuiet
import Derived.Deep.DeepCutAuto
namespace Go.Proofs.Ytodnmbppgjbpmaa
open Go.RowKit
set_option linter.unusedVariables false

theorem cellsU8 : Try.prog.cellsOf 5 = 1 := by kernel_rfl
theorem splice_one {α : Type} (Z X : List α) (hZ : Z.length = X.length) : splice Z 0 X = X := by simp [splice, hZ]

/-- The string over the whole of a new row of bytes. -/
theorem run_clone {w : World} {g : Nat} {Z : List Value} {s : ByteArray} (hp : 0 < s.size) (hs : s.size ≤ 1048576)
    (h : Hid (w.heap[g]? = some (.cells (splice Z 0 (Lib.byteCells s.data.toList)).toArray 5 (0, 0)))) (hZ : Hid (Z.length = s.size)) :
    (Builtin.unsafeString_ #[98, 3] 9 #[.pointer (some ⟨g, 0, none⟩), .int .i64 s.size]).run Try.prog w = .ok (.string s) (w.freeze ⟨g, 0, none⟩ s.size) := by
  have e : splice Z 0 (Lib.byteCells s.data.toList) = Lib.byteCells s.data.toList := splice_one _ _ (by rw [bc_len]; exact hZ.out)
  have h' := h.out
  rw [e] at h'
  have hl : s.data.toList.length = s.size := by simp
  have := Lib.run_unsafeString_row (P := Try.prog) w 98 3 9 5 Try.underlying98 cellsU8 g s.size (by simp [World.shape?, h', bc_len]) s.data.toList
    (by intro e; rw [e] at hl; simp at hl; omega) (by omega) (by omega) (by
      intro j x hj
      have hjl : j < s.data.toList.length := (List.getElem?_eq_some_iff.1 hj).1
      have hadd : (⟨g, 0, none⟩ : Addr).add j = ⟨g, j, none⟩ := by unfold Addr.add; split <;> simp_all
      rw [hadd]
      simp [World.cell?, h', Lib.byteCells, hj])
  rw [hl] at this
  exact this

set_option maxHeartbeats 1600000 in
set_option maxRecDepth 1000000 in
theorem slClone_any (s : ByteArray) (w : World) (hs : s.size ≤ 1048576) :
    Calls Try.prog 90 #[.string s] w fun e w' => e = .returned (.string s) ∧ Below w.heap.size w w' := by
  obtain ⟨i0, hi, hz0, hz1, hz2⟩ := info_parts infoU8
  by_cases hz : s.size = 0
  · have he : s = ByteArray.empty := ByteArray.size_eq_zero_iff.1 hz
    subst he
    go_enter Try.func90, Try.ntmps90
    go_wp2
    go_ret
    exact ⟨rfl, Below.refl _ _⟩
  · have hp : 0 < s.size := by omega
    have hne : ((s.size : Int) == 0) = false := by simpa using ne_empty hp
    clear hz
    go_enter Try.func90, Try.ntmps90
    go_wp2_with (first
    | (at_make; refine wpList_make_full _ rfl _ _ 28 rfl w.heap.size 5 i0 (.int .u8 0) 1 Try.underlying28 hi hz0 hz1 _ _ _ _ s.size rfl rfl rfl rfl (by rw [hz2]; omega) (by unfold maxLen; omega) (Nat.le_refl _) ?_; intro w1 hown1 hgrow1; obtain ⟨Z, HG1, hZ⟩ := own_heap' hown1; have HZ := Lib.hid hZ; clear hZ; have hb1 := (Below.refl w.heap.size w).grown hgrow1 (Nat.le_refl _) (fun k e => by cases e); clear hown1 hgrow1)
    | ((with_reducible refine wpList_copy_str rfl (.tmp 10) (.tmp 11) 28 9 rfl 5 Try.underlying28 sizeU8 _ _ _ s rfl rfl w.heap.size 0 _ 5 HG1.out (by omega) (fun _ => rfl) (by rw [HZ.out]; omega) w.heap.size w hb1 (Nat.le_refl _) ?_); intro w2 HG2 hb2; clear HG1 hb1; have hcl := run_clone hp hs HG2 HZ))
    go_ret
    exact ⟨rfl, Lib.below_freeze hb2 (p := ⟨w.heap.size, 0, none⟩) (Nat.le_refl _) _⟩

theorem clone_any (s : ByteArray) (w : World) (hs : s.size ≤ 1048576) :
    Calls Try.prog 78 #[.string s] w fun e w' => e = .returned (.string s) ∧ Below w.heap.size w w' := by
  go_enter Try.func78, Try.ntmps78
  go_wp2_with (go_at_call 90; refine (slClone_any _ _ hs).mono ?_; rintro e w1 ⟨rfl, hb1⟩)
  go_ret
  exact ⟨rfl, hb1⟩


end Go.Proofs.Ytodnmbppgjbpmaa

namespace Go.Proofs.Ytodnmbppgjbpmaa
open Go.RowKit Go.Deep
set_option linter.unusedVariables false
set_option maxRecDepth 1000000
/-- Whether a topic is full. -/
noncomputable def fullB (t : Tpc) : Bool := @decide (t.held.length = 20 ∨ t.base + t.held.length = 1000000000) (Classical.propDecidable _)
theorem fullB_true {t : Tpc} (h : t.held.length = 20 ∨ t.base + t.held.length = 1000000000) : fullB t = true := by unfold fullB; exact @decide_eq_true _ (Classical.propDecidable _) h
theorem fullB_false {t : Tpc} (h : ¬ (t.held.length = 20 ∨ t.base + t.held.length = 1000000000)) : fullB t = false := by unfold fullB; exact @decide_eq_false _ (Classical.propDecidable _) h
/-- What publish leaves. -/
def PubPost (w : World) (lo p : Nat) (t : Tpc) (s : ByteArray) (n : Int) (B : Option Addr) (b : Nat) (e : Ending) (w' : World) : Prop :=
  Below lo w w' ∧ (∀ g cs, g ≠ p → Blk w g 36 cs → Blk w' g 36 cs) ∧ if fullB t = true then e = .returned (.int .i64 9) else e = .returned (.int .i64 0) ∧ ∃ E c, Blk w' p 61 [.string t.name, .int .i64 t.base, .slice E (t.held ++ [s]).length c, .slice B t.groups.length b, .string s, .int .i64 n, .slice none 0 0, .int .i64 (t.base + t.held.length)] ∧ OwnS w' lo (.slice E (t.held ++ [s]).length c) (t.held ++ [s]) ∧ OwnG w' lo (.slice B t.groups.length b) t.groups
set_option maxHeartbeats 8000000 in
theorem publish_any (t : Tpc) (s : ByteArray) (n : Int) (lo p : Nat) (A : Option Addr) (a : Nat) (B : Option Addr) (b : Nat) (w : World) (h : Wk w lo p t s n A a B b) (hl : lo ≤ p) (hs : s.size ≤ 1048576) (hH : t.held.length ≤ 20) (h0 : 0 ≤ t.base) (h1 : t.base + t.held.length ≤ 1000000000) :
    Calls Try.prog 50 #[.pointer (some ⟨p, 0, none⟩)] w (PubPost w lo p t s n B b) := by
  obtain ⟨K, oS, oG⟩ := h
  obtain ⟨nm, bs, H, G⟩ := t
  simp only at K oS oG hH h0 h1
  have hlow : lo ≤ w.heap.size := Nat.le_trans hl (Nat.le_of_lt K.lt)
  have EN := Lib.hid (endOf_any nm bs A H.length a (.slice B G.length b) (by omega) h0 (by omega) rfl)
  have CL := Lib.hid (fun W => clone_any s W hs)
  have FT := Lib.hid (fun h => fullB_true (t := ⟨nm, bs, H, G⟩) h)
  have FF := Lib.hid (fun h => fullB_false (t := ⟨nm, bs, H, G⟩) h)
  have ZM : Hid (Below lo w w) := Lib.hid (Below.refl _ _)
  have k0 := K.cell (i := 0) rfl
  have k1 := K.cell (i := 1) rfl
  have k2 := K.cell (i := 2) rfl
  have k3 := K.cell (i := 3) rfl
  go_enter Try.func50, Try.ntmps50
  go_wp2_with (fail)
  refine (EN.out _).mono ?_
  rintro e w1 ⟨rfl, hb1⟩
  have K1 := K.below hb1 K.lt
  have S1 : w1.ownsRow lo 9 1 (.slice A H.length a) H.length (H.map Value.string) := row_below oS hb1 (Nat.le_refl _)
  have G1 : w1.ownsRow lo 53 2 (.slice B G.length b) G.length (gflat G) := row_below oG hb1 (Nat.le_refl _)
  have hb : Below lo w w1 := hb1.mono hlow
  have hl1 : lo ≤ w1.heap.size := Nat.le_trans hlow hb1.size
  have KP : Hid (∀ g cs, g ≠ p → Blk w g 36 cs → Blk w1 g 36 cs) := Lib.hid fun g cs _ h => h.below hb1 h.lt
  clear k0 k1 k2 k3 K oS oG hb1
  have j2 := K1.cell (i := 2) rfl
  by_cases h20 : H.length = 20
  · have HF := Lib.hid (FT.out (.inl h20))
    have hd : ((H.length : Int) == 20) = true := by rw [h20]; rfl
    clear h20
    go_wp2
    go_ret
    exact ⟨hb, KP.out, by rw [if_pos HF.out]; rfl⟩
  have hd : ((H.length : Int) == 20) = false := by rw [beq_eq_false_iff_ne]; omega
  by_cases hmx : bs + (H.length : Int) = 1000000000
  · have HF := Lib.hid (FT.out (.inr hmx))
    have hd2 : (bs + (H.length : Int) == 1000000000) = true := by rw [hmx]; rfl
    clear hmx h20
    go_wp2
    go_ret
    exact ⟨hb, KP.out, by rw [if_pos HF.out]; rfl⟩
  have HF := Lib.hid (FF.out (fun h => h.elim h20 hmx))
  have hd2 : (bs + (H.length : Int) == 1000000000) = false := by rw [beq_eq_false_iff_ne]; exact hmx
  go_wp2_with (fail)
  clear j2 FT FF
  obtain ⟨i0, hi, hz0, hz1, hz2⟩ := info_parts infoStr
  have nO := own_not S1 K1 (by decide)
  have y2 := K1.drew.cell (i := 2) rfl
  have y4 := K1.drew.cell (i := 4) rfl
  have Kd := K1.drew
  have Sd := S1.drew
  have LK : Hid ((H.map Value.string).length = H.length) := Lib.hid (by simp)
  go_region_law
    (first
      | (go_simp; go_at_call 78; (with_reducible refine (CL.out _).mono ?_); rintro e w4 ⟨rfl, hb4⟩; have y24 := kept_cell hb4 y2; have y44 := kept_cell hb4 y4; have y24a := kept_cell (show Below w4.heap.size w4 (w4.alloc (.cells #[.string s] 9)) from (Below.refl _ _).alloc (Nat.le_refl _) _) y24)
      | (refine step_append_lies _ (by rfl) _ _ _ (by rfl) lo 9 i0 _ 1 16 Try.underlying29 hi hz0 hz1 hz2 rfl (by omega) (.slice A H.length a) H.length _ (by rfl) (World.ownsRow.alloc (row_below Sd hb4 (Nat.le_refl _)) _)
              ⟨w4.heap.size, 0, none⟩ 1 1 [.string s] (by rfl) (by rfl) (World.news_of_block (cs := #[.string s]) (t := 9) (fr := (0, 0)) (heap_alloc_new w4 _)) (by simp [Value.oneCell'])
              (by omega) (by unfold maxLen; omega) (by omega) (by have h := hb4.size; simp only [World.size_drew, World.size_alloc] at h ⊢; omega) (w4.heap.size + 1) (by simp) ?_; intro gg cap' w5 hown5 hgrow5 hat5 hlt5; have q4 : Below w4.heap.size w4 (w4.alloc (.cells #[.string s] 9)) := (Below.refl _ _).alloc (Nat.le_refl _) _; have O5 := ((Kd.below hb4 Kd.lt).below q4 (Kd.below hb4 Kd.lt).lt).grown hgrow5 (Ne.symm nO); have y5 := O5.cell (i := 2) rfl; have f5 := O5.froz 2))
  all_goals
    have hb4' : Below w1.heap.size w1 w4 := (below_drew (Below.refl _ w1)).trans hb4
    have hw4 := hb.trans (hb4'.mono hl1)
    have hl4 : lo ≤ w4.heap.size := Nat.le_trans hl1 hb4'.size
    have hw5 := hw4.alloc hl4 (.cells #[.string s] 9)
    have hb5 := below_row hw5 hlow hgrow5 (fun k e => (S1.lt _ e).1)
    have G4 := World.ownsRow.alloc (row_below G1 hb4' (Nat.le_refl _)) (.cells #[.string s] 9)
    have G5 := World.ownsRow.kept G4 hgrow5 (own_apart G4 (World.ownsRow.alloc (row_below S1 hb4' (Nat.le_refl _)) (.cells #[.string s] 9)) (by decide))
    have KP6 := Lib.hid (fun g cs (hg : g ≠ p) (h : Blk w g 36 cs) => ((((KP.out g cs hg h).below hb4' (KP.out g cs hg h).lt).alloc (.cells #[.string s] 9)).grown hgrow5 (Ne.symm (own_not S1 (KP.out g cs hg h) (by decide)))).far (p := ⟨p, 2, none⟩) hg (.slice (some ⟨gg, 0, none⟩) (H.length + 1) cap'))
    have O6 := O5.put 2 (.slice (some ⟨gg, 0, none⟩) (H.length + 1) cap')
    have G6 := row_off G5 (p := ⟨p, 2, none⟩) (own_not G5 O5 (by decide)) (.slice (some ⟨gg, 0, none⟩) (H.length + 1) cap')
    have o6 := row_off hown5 (p := ⟨p, 2, none⟩) (own_not hown5 O5 (by decide)) (.slice (some ⟨gg, 0, none⟩) (H.length + 1) cap')
    have hb6 := hb5.setCell (p := ⟨p, 2, none⟩) (by simp; omega) (.slice (some ⟨gg, 0, none⟩) (H.length + 1) cap')
    simp only [List.set_cons_succ, List.set_cons_zero] at O6
    clear y2 y4 y24 y44 y24a y5 f5
    generalize w5.setCell ⟨p, 2, none⟩ (.slice (some ⟨gg, 0, none⟩) (H.length + 1) cap') = w6 at O6 G6 o6 hb6 KP6 ⊢
    have z7 := O6.cell (i := 7) rfl
    have f7 := O6.froz 7
    go_wp2
    go_ret
    refine ⟨hb6.setCell (p := ⟨p, 7, none⟩) (by simp; omega) _, fun g cs hg h => (KP6.out g cs hg h).far (p := ⟨p, 7, none⟩) hg _, ?_⟩
    rw [if_neg (by rw [HF.out]; simp)]
    refine ⟨rfl, some ⟨gg, 0, none⟩, cap', ?_, ?_, ?_⟩
    · have := O6.put 7 (.int .i64 (bs + H.length))
      simpa using this
    · have := row_off o6 (p := ⟨p, 7, none⟩) (own_not o6 O6 (by decide)) (.int .i64 (bs + H.length))
      unfold OwnS
      simpa using this
    · exact row_off G6 (p := ⟨p, 7, none⟩) (own_not G6 O6 (by decide)) _
end Go.Proofs.Ytodnmbppgjbpmaa

namespace Go.Proofs.Ytodnmbppgjbpmaa
open Go.RowKit
set_option linter.unusedVariables false
set_option maxRecDepth 1000000
/-- What retain makes of a topic. -/
def retA (t : Tpc) (m : Nat) : Ans := ⟨⟨t.name, t.base + m, t.held.drop m, t.groups.map (upG (t.base + m))⟩, [], m, 0⟩
set_option maxHeartbeats 8000000 in
theorem retain_any (t : Tpc) (s : ByteArray) (n : Int) (lo p : Nat) (A : Option Addr) (a : Nat) (B : Option Addr) (b : Nat) (w : World) (h : Wk w lo p t s n A a B b) (hl : lo ≤ p) (hf : ∀ g ∈ t.groups, g.fits) (hH : t.held.length ≤ 20) (hG : t.groups.length ≤ 4) (h0 : 0 ≤ t.base) (h1 : t.base + t.held.length ≤ 1000000000) (hn0 : 0 ≤ n) (hn1 : n ≤ 20) :
    Calls Try.prog 74 #[.pointer (some ⟨p, 0, none⟩)] w (OpPost lo p s n (retA t (goneN t n)) w) := by
  obtain ⟨P, oS, oG⟩ := h
  obtain ⟨m, HM⟩ : ∃ m, Hid (goneN t n = m) := ⟨_, Lib.hid rfl⟩
  have hml := gone_le t n
  have HMX : Hid (max ((t.held.length : Int) - n) 0 = ((goneN t n : Nat) : Int)) := Lib.hid (by unfold goneN; omega)
  rw [HM.out] at hml HMX ⊢
  obtain ⟨nm, bs, H, G⟩ := t
  simp only at P oS oG hH hG h0 h1 hml HMX hf
  have hlow : lo ≤ w.heap.size := Nat.le_trans hl (Nat.le_of_lt P.lt)
  have hmx := HMX.out
  have kq := Lib.hid (fun g cs (_ : g ≠ p) (h : Blk w g 36 cs) => h)
  have hb : Below lo w w := Below.refl _ _
  have cS := Cap.own oS
  have nS := own_not oS P (by decide)
  have nG := own_not oG P (by decide)
  have HC3 := Lib.hid (cap_drop (k := m) cS hml)
  have HS3 := Lib.hid (fun (W : World) (h : W.ownsRow lo 9 1 (.slice A H.length a) H.length (H.map Value.string)) => Sl.cut (Sl.of_own h rfl) hml cS.le)
  go_enter Try.func74, Try.ntmps74
  go_wp2_with (fail)
  obtain ⟨I, fw, hI, g0, h6, gc, ge⟩ := class_grown w
  have x2 := fun q => kept_cell (h6 q) (P.cell (i := 2) rfl)
  have x5 := fun q => kept_cell (h6 q) (P.cell (i := 5) rfl)
  have GE := Lib.hid ge
  clear h6 gc ge
  refine wp_region_kept fw (by kernel_rfl) (by kernel_rfl) g0 ?_
  repeat (first
    | go_big_quiet_skip
    | (go_big_quiet_want; go_big_quiet_op; go_big_quiet_on))
  refine wpQuiet_nil ?_
  intro w1 h6
  have hb1 := GE.out _ h6
  clear x2 x5 g0 h6 GE
  have hif : (if (H.length : Int) - n < 0 then 0 else (H.length : Int) - n) = (m : Int) := by
    have := HMX.out
    split <;> omega
  try rw [hif]
  clear hmx hif
  replace P := P.below hb1 P.lt
  replace oS : w1.ownsRow lo 9 1 (.slice A H.length a) H.length (H.map Value.string) := row_below oS hb1 (Nat.le_refl _)
  replace oG : w1.ownsRow lo 53 2 (.slice B G.length b) G.length (gflat G) := row_below oG hb1 (Nat.le_refl _)
  replace kq := Lib.hid (fun g cs (hg : g ≠ p) (h : Blk w g 36 cs) => (kq.out g cs hg h).below hb1 h.lt)
  replace hb := hb.trans (hb1.mono hlow)
  have hm1 : (m : Int) ≤ (H.length : Int) := by omega
  clear hb1
  have p2 := P.cell (i := 2) rfl
  have q2 := P.froz 2
  go_upto_region 3 with (fail)
  clear p2 q2
  generalize (if a = m then A else Option.map (fun x => x.add m) A) = A3 at HC3 HS3 ⊢
  generalize a - m = c3 at HC3 ⊢
  replace P := P.put 2 (.slice A3 (H.length - m) c3)
  replace oS := row_off oS (p := ⟨p, 2, none⟩) nS (.slice A3 (H.length - m) c3)
  replace oG := row_off oG (p := ⟨p, 2, none⟩) nG (.slice A3 (H.length - m) c3)
  replace kq := Lib.hid (fun g cs (hg : g ≠ p) (h : Blk w g 36 cs) => (kq.out g cs hg h).far (p := ⟨p, 2, none⟩) hg (.slice A3 (H.length - m) c3))
  replace hb := hb.setCell (p := ⟨p, 2, none⟩) hl (.slice A3 (H.length - m) c3)
  simp only [List.set_cons_succ, List.set_cons_zero] at P
  generalize w1.setCell ⟨p, 2, none⟩ (.slice A3 (H.length - m) c3) = w2 at P oS oG kq hb ⊢
  have p1 := P.cell (i := 1) rfl
  have q1 := P.froz 1
  go_upto_region 4 with (fail)
  clear p1 q1
  replace P := P.put 1 (.int .i64 (bs + m))
  replace oS := row_off oS (p := ⟨p, 1, none⟩) nS (.int .i64 (bs + m))
  replace oG := row_off oG (p := ⟨p, 1, none⟩) nG (.int .i64 (bs + m))
  replace kq := Lib.hid (fun g cs (hg : g ≠ p) (h : Blk w g 36 cs) => (kq.out g cs hg h).far (p := ⟨p, 1, none⟩) hg (.int .i64 (bs + m)))
  replace hb := hb.setCell (p := ⟨p, 1, none⟩) hl (.int .i64 (bs + m))
  simp only [List.set_cons_succ, List.set_cons_zero] at P
  generalize w2.setCell ⟨p, 1, none⟩ (.int .i64 (bs + m)) = w3 at P oS oG kq hb ⊢
  have HF := Lib.hid (fun i (h : i < G.length) => (hf G[i] (List.getElem_mem h)).2)
  obtain ⟨b', HBm⟩ : ∃ b' : Int, Hid (bs + (m : Int) = b') := ⟨_, Lib.hid rfl⟩
  have hbb : 0 ≤ b' ∧ b' ≤ 2000000000 := by have := HBm.out; omega
  have HP : Hid (∀ w e w', OpPost lo p s n ⟨⟨nm, b', H.drop m, G.map (upG b')⟩, [], m, 0⟩ w e w' → OpPost lo p s n (retA ⟨nm, bs, H, G⟩ m) w e w') := Lib.hid fun w e w' h => by rw [← HBm.out] at h; exact h
  rw [HBm.out] at P ⊢
  have p3 := P.cell (i := 3) rfl
  go_wp2_with (fail)
  clear p3
  go_loopw [4, 5, 45] (fun _ _ i wr => ∃ k : Nat, k ≤ G.length ∧ i = .int .i64 k ∧ Blk wr p 61 [.string nm, .int .i64 b', .slice A3 (H.length - m) c3, .slice B G.length b, .string s, .int .i64 n, .slice none 0 0, .int .i64 0] ∧ wr.ownsRow lo 9 1 (.slice A H.length a) H.length (H.map Value.string) ∧ wr.ownsRow lo 53 2 (.slice B G.length b) G.length (gflat (partG b' G k)) ∧ Hid (∀ g cs, g ≠ p → Blk w g 36 cs → Blk wr g 36 cs) ∧ Below lo w wr) (fun _ _ i _ => G.length - (intOf i).toNat)
  case atStart => exact ⟨0, by omega, rfl, P, oS, by rw [partG_zero]; exact oG, kq, hb⟩
  case round =>
    clear P oS oG kq hb
    obtain ⟨k, hk, rfl, P, oS, oG, kq, hb⟩ := hrel
    have p3 := P.cell (i := 3) rfl
    have p7 := P.cell (i := 7) rfl
    have q7 := P.froz 7
    by_cases hlt : k < G.length
    rotate_left
    · obtain rfl : k = G.length := by omega
      rw [partG_all] at oG
      go_wp2
      go_ret
      refine HP.out _ _ _ ⟨hb.setCell (p := ⟨p, 7, none⟩) hl _, fun g cs hg h => (kq.out g cs hg h).far (p := ⟨p, 7, none⟩) hg _, rfl, .inr ⟨rfl, A3, c3, B, b, none, 0, ?_, ?_, ?_, .inl rfl, (fun _ _ _ h => by cases h), HC3.out, ?_⟩⟩
      · have := P.put 7 (.int .i64 m)
        simpa using this
      · exact HS3.out _ (row_off oS (p := ⟨p, 7, none⟩) nS _)
      · exact Sl.of_own (row_off oG (p := ⟨p, 7, none⟩) nG _) rfl
      · simp only [List.length_map]; exact Cap.own oG
    have hlt' : (k : Int) < (G.length : Int) := by omega
    obtain ⟨g, rfl⟩ : ∃ g, B = some ⟨g, 0, none⟩ := by
      rcases oG.2 with ⟨he, h0⟩ | ⟨g, cap, cur, he, _⟩
      · omega
      · cases he; exact ⟨g, rfl⟩
    have hpl := partG_len b' G k hk
    have hkp : k < (partG b' G k).length := by rw [hpl]; exact hlt
    have he : (partG b' G k)[k] = G[k] := by
      have := partG_at b' G hlt
      rw [List.getElem?_eq_getElem hkp] at this
      exact Option.some.inj this
    have HE := Lib.hid he
    clear he hpl
    obtain ⟨_, d1, _, _⟩ := row_grp oG (k := k) hkp
    rw [HE.out] at d1
    clear p7 q7
    go_wp2_with (fail)
    obtain ⟨I, fw, hI, g5', h6, g6', g7'⟩ := class_grown wr
    have x1 := fun q => kept_cell (h6 q) (P.cell (i := 1) rfl)
    have y1 := fun q => kept_cell (h6 q) d1
    have G7 := Lib.hid g7'
    clear h6 g7' g6' p3 d1
    refine wp_region_class_tail (C := fun w' => ∃ q, w' = fw q) 11 (by kernel_rfl) (by kernel_rfl) g5' ?_
    simp only [List.take_succ_cons, List.take_zero, List.drop_succ_cons, List.drop_zero]
    repeat (first
      | go_big_quiet_skip
      | (go_big_quiet_want; go_big_quiet_op; go_big_quiet_on))
    refine wpQuiet_nil ?_
    intro w6 h6
    have hb6 := G7.out _ h6
    clear x1 y1 g5' h6
    have hmxk : (if G[k].acked < b' then b' else G[k].acked) = max b' G[k].acked := by
      split <;> omega
    try rw [hmxk]
    clear hmxk
    replace P := P.below hb6 P.lt
    replace oS := row_below oS hb6 (Nat.le_refl _)
    replace oG := row_below oG hb6 (Nat.le_refl _)
    replace kq := Lib.hid (fun g cs (hg : g ≠ p) (h : Blk w g 36 cs) => (kq.out g cs hg h).below hb6 (kq.out g cs hg h).lt)
    have hlr : lo ≤ wr.heap.size := Nat.le_trans hlow hb.size
    replace hb := hb.trans (hb6.mono hlr)
    obtain ⟨_, d1, _, f1⟩ := row_grp oG (k := k) hkp
    rw [HE.out] at d1
    go_wp2
    have hgl := (oG.lt g rfl).1
    have nP := own_not oG P (by decide)
    have nS2 : (Value.slice A H.length a).ownBlock ≠ some g := by
      rcases own_apart oS oG (by decide) with h | h
      · rw [h]; simp
      · exact h
    have o9 := (oG.stored (k * 2 + 1) (.int .i64 (max b' G[k].acked))).1
    rw [partG_step b' G hlt] at o9
    exact ⟨⟨k + 1, by omega, by go_num, P.far (fun e => nP (by rw [e]; rfl)) _, row_off oS nS2 _, o9, Lib.hid (fun g' cs hg' h => (kq.out g' cs hg' h).far (fun e => own_not oG (kq.out g' cs hg' h) (by decide) (by rw [e]; rfl)) _), hb.setCell (by simp; omega) _⟩, by simp [intOf]; omega⟩
end Go.Proofs.Ytodnmbppgjbpmaa

namespace Go.Proofs.Ytodnmbppgjbpmaa
open Go.RowKit Go.Deep
set_option linter.unusedVariables false
set_option maxRecDepth 1000000
theorem gflat_set1 (G : List Grp) {k : Nat} (h : k < G.length) (n : Int) : (gflat G).set (k * 2 + 1) (.int .i64 n) = gflat (G.set k ⟨G[k].name, n⟩) := by
  rw [← gflat_set ⟨G[k].name, n⟩ G k]
  have e : (gflat G)[k * 2]? = some (.string G[k].name) := by have := gflat_get G k h 0 (by omega); rw [Nat.add_zero] at this; rw [this]; rfl
  have hl : k * 2 < (gflat G).length := by rw [gflat_len]; omega
  have e2 : (gflat G).set (k * 2) (.string G[k].name) = gflat G := by
    rw [List.getElem?_eq_getElem hl] at e
    injection e with e
    rw [← e]; exact List.set_getElem_self hl
  simp only [e2]
/-- What a group's place is set to. -/
def setA (t : Tpc) (k : Nat) (n : Int) : Ans := ⟨⟨t.name, t.base, t.held, t.groups.set k ⟨(t.groups.getD k zeroGrp).name, n⟩⟩, [], 0, 0⟩
def moveA (t : Tpc) (k : Nat) (n : Int) (r : Bool) : Ans := if r = true then setA t k n else ill 8
theorem move_yes (p bg k x y : Nat) (n a0 b0 : Int) (c0 c1 c2 c3 c4 c6 c7 v : Value) (w : World) (P : Blk w p 61 [c0, c1, c2, c3, c4, .int .i64 n, c6, c7]) (hx : w.cell? ⟨x, 0, none⟩ = some (.int .i64 a0)) (hy : w.cell? ⟨y, 0, none⟩ = some (.int .i64 b0)) (hv : w.cell? ⟨bg, k * 2 + 1, none⟩ = some v) (hz : w.frozen? ⟨bg, k * 2 + 1, none⟩ = false) (hr : inB n a0 b0 = true) :
    Calls Try.prog 86 #[.pointer (some ⟨p, 0, none⟩), .pointer (some ⟨bg, k * 2, none⟩), btwV x y] w fun e w' => e = .returned (.int .i64 0) ∧ w' = w.setCell ⟨bg, k * 2 + 1, none⟩ (.int .i64 n) := by
  have BT := Lib.hid (between_any hr x y w hx hy)
  have q5 := P.cell (i := 5) rfl
  clear hx hy hr
  go_enter Try.func86, Try.ntmps86
  go_wp2_with (fail)
  refine BT.out.mono ?_
  rintro e w' ⟨rfl, rfl⟩
  go_wp2
  go_ret
  exact ⟨rfl, rfl⟩
theorem move_no (p bg k x y : Nat) (n a0 b0 : Int) (c0 c1 c2 c3 c4 c6 c7 : Value) (w : World) (P : Blk w p 61 [c0, c1, c2, c3, c4, .int .i64 n, c6, c7]) (hx : w.cell? ⟨x, 0, none⟩ = some (.int .i64 a0)) (hy : w.cell? ⟨y, 0, none⟩ = some (.int .i64 b0)) (hr : inB n a0 b0 = false) :
    Calls Try.prog 86 #[.pointer (some ⟨p, 0, none⟩), .pointer (some ⟨bg, k * 2, none⟩), btwV x y] w fun e w' => e = .returned (.int .i64 8) ∧ w' = w := by
  have BT := Lib.hid (between_any hr x y w hx hy)
  have q5 := P.cell (i := 5) rfl
  clear hx hy hr
  go_enter Try.func86, Try.ntmps86
  go_wp2_with (fail)
  refine BT.out.mono ?_
  rintro e w' ⟨rfl, rfl⟩
  go_wp2
  go_ret
  exact ⟨rfl, rfl⟩
/-- What a change of a group's place leaves. -/
theorem set_post {w W : World} {lo p bg k : Nat} {t : Tpc} {s : ByteArray} {n : Int} {A : Option Addr} {a b : Nat} (h : Wk w lo p t s n A a (some ⟨bg, 0, none⟩) b) (hb : Below w.heap.size w W) (hlow : lo ≤ w.heap.size) (hk : k < t.groups.length) :
    OpPost lo p s n (setA t k n) w (.returned (.int .i64 0)) (W.setCell ⟨bg, k * 2 + 1, none⟩ (.int .i64 n)) := by
  obtain ⟨P, oS, oG⟩ := h
  have P1 := P.below hb P.lt
  have S1 : OwnS W lo (.slice A t.held.length a) t.held := row_below oS hb (Nat.le_refl _)
  have G1 : OwnG W lo (.slice (some ⟨bg, 0, none⟩) t.groups.length b) t.groups := row_below oG hb (Nat.le_refl _)
  have cS := Cap.own oS
  have cG := Cap.own oG
  have nP : p ≠ bg := fun e => own_not oG P (by decide) (by rw [e]; rfl)
  have hbl := (oG.lt bg rfl).1
  have S2 : OwnS (W.setCell ⟨bg, k * 2 + 1, none⟩ (.int .i64 n)) lo (.slice A t.held.length a) t.held := row_off S1 (p := ⟨bg, k * 2 + 1, none⟩) (by
    rcases own_apart S1 G1 (by decide) with h | h
    · rw [h]; exact fun e => by cases e
    · exact h) _
  have G2 := (World.ownsRow.stored G1 (k * 2 + 1) (.int .i64 n)).1
  rw [gflat_set1 t.groups hk n] at G2
  have hl2 : (t.groups.set k ⟨t.groups[k].name, n⟩).length = t.groups.length := List.length_set ..
  have eD : t.groups.getD k zeroGrp = t.groups[k] := by rw [List.getD_eq_getElem?_getD, List.getElem?_eq_getElem hk]; rfl
  have hb2 : Below lo w (W.setCell ⟨bg, k * 2 + 1, none⟩ (.int .i64 n)) := (hb.mono hlow).setCell (p := ⟨bg, k * 2 + 1, none⟩) hbl _
  refine ⟨hb2, fun g cs hg h => (h.below hb h.lt).far (p := ⟨bg, k * 2 + 1, none⟩) (fun e => own_not oG h (by decide) (by rw [e]; rfl)) _, rfl, .inr ⟨rfl, A, a, some ⟨bg, 0, none⟩, b, none, 0, ?_, ?_, ?_, .inl rfl, (fun x y _ e => by cases e), cS, ?_⟩⟩
  · have := P1.far (p := ⟨bg, k * 2 + 1, none⟩) nP (.int .i64 n)
    unfold setA
    simp only [List.length_set]
    exact this
  · exact Sl.of_own S2 rfl
  · unfold setA
    simp only [eD]
    have h3 := Sl.of_own G2 rfl
    exact h3
  · unfold setA
    simp only [List.length_set]
    exact cG
set_option maxHeartbeats 8000000 in
theorem ack_any (t : Tpc) (s : ByteArray) (n : Int) (lo p bg k : Nat) (A : Option Addr) (a b : Nat) (w : World) (h : Wk w lo p t s n A a (some ⟨bg, 0, none⟩) b) (hl : lo ≤ p) (hH : t.held.length ≤ 20) (h0 : 0 ≤ t.base) (h1 : t.base + t.held.length ≤ 1000000000) (hk : k < t.groups.length) :
    Calls Try.prog 70 #[.pointer (some ⟨p, 0, none⟩), .pointer (some ⟨bg, k * 2, none⟩)] w (OpPost lo p s n (moveA t k n (inB n (t.groups.getD k zeroGrp).acked (t.base + t.held.length))) w) := by
  have hlow : lo ≤ w.heap.size := Nat.le_trans hl (Nat.le_of_lt h.blk.lt)
  have SP := Lib.hid (fun W (hb : Below w.heap.size w W) => set_post (n := n) h hb hlow hk)
  have NP := Lib.hid (fun W (hb : Below w.heap.size w W) => (show OpPost lo p s n (ill 8) w (.returned (.int .i64 8)) W from ⟨hb.mono hlow, fun g cs _ q => q.below hb q.lt, rfl, .inl ⟨by simp [ill], rfl⟩⟩))
  obtain ⟨P, oS, oG⟩ := h
  have EN := Lib.hid (endOf_any t.name t.base A t.held.length a (.slice (some ⟨bg, 0, none⟩) t.groups.length b) (by omega) h0 (by omega) rfl)
  obtain ⟨ak0, ak1, af0, af1⟩ := row_grp oG hk
  obtain ⟨ak, HAK⟩ : ∃ x, Hid (t.groups[k].acked = x) := ⟨_, Lib.hid rfl⟩
  rw [HAK.out] at ak1
  have eD : Hid ((t.groups.getD k zeroGrp).acked = ak) := Lib.hid (by rw [List.getD_eq_getElem?_getD, List.getElem?_eq_getElem hk]; exact HAK.out)
  rw [eD.out]
  have nP : p ≠ bg := fun e => own_not oG P (by decide) (by rw [e]; rfl)
  obtain ⟨E, HE⟩ : ∃ x, Hid (t.base + (t.held.length : Int) = x) := ⟨_, Lib.hid rfl⟩
  rw [HE.out] at EN ⊢
  have FZ := Lib.hid (fun W (hb : Below w.heap.size w W) => (show W.frozen? ⟨bg, k * 2 + 1, none⟩ = false from by rw [← af1]; exact hb.frozen (p := ⟨bg, k * 2 + 1, none⟩) (oG.lt bg rfl).2))
  obtain ⟨r, HR⟩ : ∃ r, Hid (inB n ak E = r) := ⟨_, Lib.hid rfl⟩
  rw [HR.out]
  have y0 : w.drew.cell? ⟨p, 0, none⟩ = _ := P.drew.cell (i := 0) rfl
  have y1 : w.drew.cell? ⟨p, 1, none⟩ = _ := P.drew.cell (i := 1) rfl
  have y2 : w.drew.cell? ⟨p, 2, none⟩ = _ := P.drew.cell (i := 2) rfl
  have y3 : w.drew.cell? ⟨p, 3, none⟩ = _ := P.drew.cell (i := 3) rfl
  have yk : w.drew.cell? ⟨bg, k * 2 + 1, none⟩ = some (.int .i64 ak) := ak1
  have DR := Lib.hid (fun W (h : Below w.drew.heap.size w.drew W) => (show Below w.heap.size w W from (below_drew (Below.refl _ w)).trans h))
  have PL := Lib.hid P
  clear P oS oG ak0 ak1 af0 af1 eD HE HAK h0 h1
  cases r with
  | true =>
    have MV := Lib.hid (fun W x y hP hx hy hv hz => move_yes (p := p) (bg := bg) (k := k) (x := x) (y := y) (n := n) (a0 := ak) (b0 := E) (w := W) (P := hP) (hx := hx) (hy := hy) (hv := hv) (hz := hz) (hr := HR.out) (c0 := .string t.name) (c1 := .int .i64 t.base) (c2 := .slice A t.held.length a) (c3 := .slice (some ⟨bg, 0, none⟩) t.groups.length b) (c4 := .string s) (c6 := .slice none 0 0) (c7 := .int .i64 0) (v := .int .i64 ak))
    unfold moveA
    rw [if_pos rfl]
    go_enter Try.func70, Try.ntmps70
    go_wp2_with (fail)
    go_region_law
      (first
        | (go_simp; go_at_call 56; (with_reducible refine (EN.out _).mono ?_); rintro e w4 ⟨rfl, hb4⟩; have z0 := kept_cell hb4 y0; have z1 := kept_cell hb4 y1; have z2 := kept_cell hb4 y2; have z3 := kept_cell hb4 y3; have zk := kept_cell hb4 yk)
        | (go_simp; go_at_call 61; (with_reducible refine (numbersBetween_b _ _ w4).mono ?_); rintro e w5 ⟨rfl, hx, hy, hb5⟩; have hb6 := hb4.trans (hb5.mono hb4.size); have vk := kept_cell hb6 yk)
        | (go_simp; go_at_call 86; (with_reducible refine (MV.out w5 w4.heap.size (w4.heap.size + 1) (PL.out.below (DR.out _ hb6) PL.out.lt) hx hy vk (FZ.out _ (DR.out _ hb6))).mono ?_); rintro e w6 ⟨rfl, rfl⟩))
    all_goals
      have hb7 := SP.out w5 (DR.out _ hb6)
      go_wp2
      go_ret
      exact hb7
  | false =>
    have MV := Lib.hid (fun W x y hP hx hy => move_no (p := p) (bg := bg) (k := k) (x := x) (y := y) (n := n) (a0 := ak) (b0 := E) (w := W) (P := hP) (hx := hx) (hy := hy) (hr := HR.out) (c0 := .string t.name) (c1 := .int .i64 t.base) (c2 := .slice A t.held.length a) (c3 := .slice (some ⟨bg, 0, none⟩) t.groups.length b) (c4 := .string s) (c6 := .slice none 0 0) (c7 := .int .i64 0))
    unfold moveA
    rw [if_neg (by simp)]
    go_enter Try.func70, Try.ntmps70
    go_wp2_with (fail)
    go_region_law
      (first
        | (go_simp; go_at_call 56; (with_reducible refine (EN.out _).mono ?_); rintro e w4 ⟨rfl, hb4⟩; have z0 := kept_cell hb4 y0; have z1 := kept_cell hb4 y1; have z2 := kept_cell hb4 y2; have z3 := kept_cell hb4 y3; have zk := kept_cell hb4 yk)
        | (go_simp; go_at_call 61; (with_reducible refine (numbersBetween_b _ _ w4).mono ?_); rintro e w5 ⟨rfl, hx, hy, hb5⟩; have hb6 := hb4.trans (hb5.mono hb4.size))
        | (go_simp; go_at_call 86; (with_reducible refine (MV.out w5 w4.heap.size (w4.heap.size + 1) (PL.out.below (DR.out _ hb6) PL.out.lt) hx hy).mono ?_); rintro e w6 ⟨rfl, rfl⟩))
    all_goals
      have hb7 := NP.out _ (DR.out _ hb6)
      go_wp2
      go_ret
      exact hb7
set_option maxHeartbeats 8000000 in
theorem seek_any (t : Tpc) (s : ByteArray) (n : Int) (lo p bg k : Nat) (A : Option Addr) (a b : Nat) (w : World) (h : Wk w lo p t s n A a (some ⟨bg, 0, none⟩) b) (hl : lo ≤ p) (hH : t.held.length ≤ 20) (h0 : 0 ≤ t.base) (h1 : t.base + t.held.length ≤ 1000000000) (hk : k < t.groups.length) :
    Calls Try.prog 73 #[.pointer (some ⟨p, 0, none⟩), .pointer (some ⟨bg, k * 2, none⟩)] w (OpPost lo p s n (moveA t k n (inB n t.base (t.base + t.held.length))) w) := by
  have hlow : lo ≤ w.heap.size := Nat.le_trans hl (Nat.le_of_lt h.blk.lt)
  have SP := Lib.hid (fun W (hb : Below w.heap.size w W) => set_post (n := n) h hb hlow hk)
  have NP := Lib.hid (fun W (hb : Below w.heap.size w W) => (show OpPost lo p s n (ill 8) w (.returned (.int .i64 8)) W from ⟨hb.mono hlow, fun g cs _ q => q.below hb q.lt, rfl, .inl ⟨by simp [ill], rfl⟩⟩))
  obtain ⟨P, oS, oG⟩ := h
  have EN := Lib.hid (endOf_any t.name t.base A t.held.length a (.slice (some ⟨bg, 0, none⟩) t.groups.length b) (by omega) h0 (by omega) rfl)
  obtain ⟨ak0, ak1, af0, af1⟩ := row_grp oG hk
  obtain ⟨ak, HAK⟩ : ∃ x, Hid (t.groups[k].acked = x) := ⟨_, Lib.hid rfl⟩
  rw [HAK.out] at ak1
  have eD : Hid (t.base = t.base) := Lib.hid (by rfl)
  rw [eD.out]
  have nP : p ≠ bg := fun e => own_not oG P (by decide) (by rw [e]; rfl)
  obtain ⟨E, HE⟩ : ∃ x, Hid (t.base + (t.held.length : Int) = x) := ⟨_, Lib.hid rfl⟩
  rw [HE.out] at EN ⊢
  have FZ := Lib.hid (fun W (hb : Below w.heap.size w W) => (show W.frozen? ⟨bg, k * 2 + 1, none⟩ = false from by rw [← af1]; exact hb.frozen (p := ⟨bg, k * 2 + 1, none⟩) (oG.lt bg rfl).2))
  obtain ⟨r, HR⟩ : ∃ r, Hid (inB n t.base E = r) := ⟨_, Lib.hid rfl⟩
  rw [HR.out]
  have y0 : w.drew.cell? ⟨p, 0, none⟩ = _ := P.drew.cell (i := 0) rfl
  have y1 : w.drew.cell? ⟨p, 1, none⟩ = _ := P.drew.cell (i := 1) rfl
  have y2 : w.drew.cell? ⟨p, 2, none⟩ = _ := P.drew.cell (i := 2) rfl
  have y3 : w.drew.cell? ⟨p, 3, none⟩ = _ := P.drew.cell (i := 3) rfl
  have yk : w.drew.cell? ⟨bg, k * 2 + 1, none⟩ = some (.int .i64 ak) := ak1
  have DR := Lib.hid (fun W (h : Below w.drew.heap.size w.drew W) => (show Below w.heap.size w W from (below_drew (Below.refl _ w)).trans h))
  have PL := Lib.hid P
  clear P oS oG ak0 ak1 af0 af1 eD HE HAK h0 h1
  cases r with
  | true =>
    have MV := Lib.hid (fun W x y hP hx hy hv hz => move_yes (p := p) (bg := bg) (k := k) (x := x) (y := y) (n := n) (a0 := t.base) (b0 := E) (w := W) (P := hP) (hx := hx) (hy := hy) (hv := hv) (hz := hz) (hr := HR.out) (c0 := .string t.name) (c1 := .int .i64 t.base) (c2 := .slice A t.held.length a) (c3 := .slice (some ⟨bg, 0, none⟩) t.groups.length b) (c4 := .string s) (c6 := .slice none 0 0) (c7 := .int .i64 0) (v := .int .i64 ak))
    unfold moveA
    rw [if_pos rfl]
    go_enter Try.func73, Try.ntmps73
    go_wp2_with (fail)
    go_region_law
      (first
        | (go_simp; go_at_call 56; (with_reducible refine (EN.out _).mono ?_); rintro e w4 ⟨rfl, hb4⟩; have z0 := kept_cell hb4 y0; have z1 := kept_cell hb4 y1; have z2 := kept_cell hb4 y2; have z3 := kept_cell hb4 y3; have zk := kept_cell hb4 yk)
        | (go_simp; go_at_call 61; (with_reducible refine (numbersBetween_b _ _ w4).mono ?_); rintro e w5 ⟨rfl, hx, hy, hb5⟩; have hb6 := hb4.trans (hb5.mono hb4.size); have vk := kept_cell hb6 yk)
        | (go_simp; go_at_call 86; (with_reducible refine (MV.out w5 w4.heap.size (w4.heap.size + 1) (PL.out.below (DR.out _ hb6) PL.out.lt) hx hy vk (FZ.out _ (DR.out _ hb6))).mono ?_); rintro e w6 ⟨rfl, rfl⟩))
    all_goals
      have hb7 := SP.out w5 (DR.out _ hb6)
      go_wp2
      go_ret
      exact hb7
  | false =>
    have MV := Lib.hid (fun W x y hP hx hy => move_no (p := p) (bg := bg) (k := k) (x := x) (y := y) (n := n) (a0 := t.base) (b0 := E) (w := W) (P := hP) (hx := hx) (hy := hy) (hr := HR.out) (c0 := .string t.name) (c1 := .int .i64 t.base) (c2 := .slice A t.held.length a) (c3 := .slice (some ⟨bg, 0, none⟩) t.groups.length b) (c4 := .string s) (c6 := .slice none 0 0) (c7 := .int .i64 0))
    unfold moveA
    rw [if_neg (by simp)]
    go_enter Try.func73, Try.ntmps73
    go_wp2_with (fail)
    go_region_law
      (first
        | (go_simp; go_at_call 56; (with_reducible refine (EN.out _).mono ?_); rintro e w4 ⟨rfl, hb4⟩; have z0 := kept_cell hb4 y0; have z1 := kept_cell hb4 y1; have z2 := kept_cell hb4 y2; have z3 := kept_cell hb4 y3; have zk := kept_cell hb4 yk)
        | (go_simp; go_at_call 61; (with_reducible refine (numbersBetween_b _ _ w4).mono ?_); rintro e w5 ⟨rfl, hx, hy, hb5⟩; have hb6 := hb4.trans (hb5.mono hb4.size))
        | (go_simp; go_at_call 86; (with_reducible refine (MV.out w5 w4.heap.size (w4.heap.size + 1) (PL.out.below (DR.out _ hb6) PL.out.lt) hx hy).mono ?_); rintro e w6 ⟨rfl, rfl⟩))
    all_goals
      have hb7 := NP.out _ (DR.out _ hb6)
      go_wp2
      go_ret
      exact hb7
end Go.Proofs.Ytodnmbppgjbpmaa
