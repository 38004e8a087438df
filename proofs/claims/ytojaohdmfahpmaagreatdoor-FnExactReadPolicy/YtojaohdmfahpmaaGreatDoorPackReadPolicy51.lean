/- The laws' own marks in rules and policies: markRuleS, heldRuleS, markPolicy, heldPolicy. -/
import Derived.Test.YtojaohdmfahpmaaGreatDoorPackReadPolicy50
import Derived.Test.YtojaohdmfahpmaaGreatDoorPackReadPolicy49
/- Spec's ReadPolicy: the policy that a text tells. -/
namespace Go.Proofs.YtojaohdmfahpmaaGreatDoor
open Go.RowKit
set_option linter.unusedVariables false

theorem sAct_mono {G : List Sg} {s : Option Nat} {j : Nat} (h : (sAct G s).2 = some j) : ∃ i, s = some i ∧ i ≤ j := by
  have name_mono : ∀ {k : Nat}, (sName G s).2 = some k → ∃ i, s = some i ∧ i ≤ k := by
    intro k hk
    cases s with
    | none => simp [sName] at hk
    | some i =>
      refine ⟨i, rfl, ?_⟩
      unfold sName at hk
      simp only at hk
      split at hk
      · simp at hk; omega
      · simp at hk
  unfold sAct at h
  split at h
  · simp at h
  · split at h
    · obtain ⟨i1, h1, l1⟩ := sNum_mono h
      obtain ⟨i2, h2, l2⟩ := name_mono h1
      exact ⟨i2, h2, by omega⟩
    · exact name_mono h

theorem sAndF_mono {G : List Sg} : ∀ (f : Nat) (acc : List CN) (t : Option Nat) {j : Nat}, (sAndF f G acc t).2 = some j → ∃ i, t = some i ∧ i ≤ j
  | 0, acc, t, j, h => ⟨j, h, Nat.le_refl _⟩
  | f + 1, acc, none, j, h => by simp [sAndF] at h
  | f + 1, acc, some i, j, h => by
    refine ⟨i, rfl, ?_⟩
    rw [sAndF] at h
    split at h
    · obtain ⟨i1, h1, l1⟩ := sAndF_mono f _ _ h
      obtain ⟨i2, h2, l2⟩ := nx_mono h1
      have := sCond_mono G i i2 h2
      omega
    · exact sCond_mono G i j h

theorem sNumsF_mono {G : List Sg} : ∀ (f : Nat) (acc : List Int) (t : Option Nat) {j : Nat}, (sNumsF f G acc t).2 = some j → ∃ i, t = some i ∧ i ≤ j
  | 0, acc, t, j, h => ⟨j, h, Nat.le_refl _⟩
  | f + 1, acc, none, j, h => by simp [sNumsF] at h
  | f + 1, acc, some i, j, h => by
    refine ⟨i, rfl, ?_⟩
    have got : ∀ {k : Nat}, sGot G acc (some i) = some k → i ≤ k := fun {k} hk => by
      unfold sGot at hk
      split at hk
      · cases hk
      · exact Nat.le_of_lt (sCall_next hk)
    rw [sNumsF] at h
    split at h
    · obtain ⟨i1, h1, l1⟩ := sNumsF_mono f _ _ h
      obtain ⟨i2, h2, l2⟩ := nx_mono h1
      have := got h2
      omega
    · exact got h

theorem sRule_next {G : List Sg} {i j : Nat} (h : (sRule G (some i)).2 = some j) : i < j := by
  unfold sRule at h
  simp only at h
  obtain ⟨i1, h1, l1⟩ := sWt_mono h
  obtain ⟨i2, h2, l2⟩ := sAct_mono h1
  obtain ⟨i3, h3, l3⟩ := sWt_mono h2
  have hc : ∃ i4, (sNums G (sWt G (some i) 1 tOn)).2 = some i4 ∧ i4 ≤ i3 := by
    unfold sConds at h3
    split at h3
    · obtain ⟨k, hk, lk⟩ := sAndF_mono _ _ _ h3
      obtain ⟨k2, hk2, lk2⟩ := nx_mono hk
      exact ⟨k2, hk2, by omega⟩
    · exact ⟨i3, h3, Nat.le_refl _⟩
  obtain ⟨i4, h4, l4⟩ := hc
  have hn : ∃ i5, sWt G (some i) 1 tOn = some i5 ∧ i5 ≤ i4 := by
    unfold sNums at h4
    split at h4
    · obtain ⟨k, hk, lk⟩ := nx_mono h4
      exact ⟨k, hk, lk⟩
    · exact sNumsF_mono _ _ _ h4
  obtain ⟨i5, h5, l5⟩ := hn
  unfold sWt at h5
  split at h5
  · simp [nx] at h5; omega
  · cases h5

/-- What spec's ReadPolicy leaves. -/
def GotS (o : Option PN) (e : Ending) (w' : World) : Prop :=
  match o with
  | some pol => ∃ u, e = .returned (.tuple #[u, .bool true]) ∧ RepPol pol u w'
  | none => e = .returned (.tuple #[.agg #[.int .i64 0, .int .i64 0, .int .i64 0, .slice none 0 0], .bool false])

theorem gotS_some {o : Option PN} {e : Ending} {w' : World} {pol : PN} {u : Value} (h : o = some pol) (he : e = .returned (.tuple #[u, .bool true])) (hx : RepPol pol u w') : GotS o e w' := by
  subst h; exact ⟨u, he, hx⟩
theorem gotS_none {o : Option PN} {e : Ending} {w' : World} (h : o = none) (he : e = .returned (.tuple #[.agg #[.int .i64 0, .int .i64 0, .int .i64 0, .slice none 0 0], .bool false])) : GotS o e w' := by
  subst h; exact he

set_option maxRecDepth 100000 in
set_option maxHeartbeats 3200000 in
theorem sRead_any (s : ByteArray) (w : World) :
    Calls Tryz.prog 10 #[.string s] w fun e w' => GotS (readT s) e w' ∧ Ext w w' := by
  obtain ⟨j0, ji, jz0, jz1, jz2⟩ := info_parts Tryz.infoRl
  have K0 : Hid (Kn (w.alloc (.cells #[.int .i64 0, .int .i64 0, .int .i64 0, .slice none 0 0] 26)) w.heap.size [.int .i64 0, .int .i64 0, .int .i64 0, .slice none 0 0] 26 ∧ Ext w (w.alloc (.cells #[.int .i64 0, .int .i64 0, .int .i64 0, .slice none 0 0] 26))) := ⟨Kn.new w _ _, Ext.one _ _⟩
  have HS : Hid (Calls Tryz.prog 31 #[.string s] (w.alloc (.cells #[.int .i64 0, .int .i64 0, .int .i64 0, .slice none 0 0] 26)) fun e w' => ∃ v, e = .returned (.tuple #[v, .bool (signsR s.data.toList).isSome]) ∧ Own3 w' (w.alloc (.cells #[.int .i64 0, .int .i64 0, .int .i64 0, .slice none 0 0] 26)).heap.size v ((signsR s.data.toList).getD []) ∧ Ext (w.alloc (.cells #[.int .i64 0, .int .i64 0, .int .i64 0, .slice none 0 0] 26)) w') := sSigns_any s _
  have HG : Hid (readT s = match signsR s.data.toList with
    | none => none
    | some G => readG G) := rfl
  have HL : Hid (((signsR s.data.toList).getD []).length ≤ 1200) := signsR_length _
  cases e0 : signsR s.data.toList with
  | none =>
    rw [e0] at HS HG
    have HN : Hid (readT s = none) := HG.out
    clear HG HL e0
    simp only [Option.isSome_none, Option.getD_none] at HS
    go_enter Tryz.func10, Tryz.ntmps10
    go_wp2_with fail
    generalize w.alloc (.cells #[.int .i64 0, .int .i64 0, .int .i64 0, .slice none 0 0] 26) = W0 at *
    refine (show Calls Tryz.prog 31 _ _ _ from HS.out).mono ?_
    rintro e w1 ⟨v, rfl, o1, x1⟩
    obtain ⟨a1, e1, rfl⟩ := own_slice (show w1.ownsRow _ 98 3 v _ _ from o1)
    have kr := K0.out.1.ext x1
    have XE : Hid (Ext w w1) := K0.out.2.trans x1
    have f1 := kr.free
    obtain ⟨c0, c1, c2, c3⟩ := (⟨kr.cell 0 _ rfl, kr.cell 1 _ rfl, kr.cell 2 _ rfl, kr.cell 3 _ rfl⟩ : _ ∧ _ ∧ _ ∧ _)
    have XF : Hid (Ext w ((((w1.setCell ⟨w.heap.size, 0, none⟩ (.int .i64 0)).setCell ⟨w.heap.size, 1, none⟩ (.int .i64 0)).setCell ⟨w.heap.size, 2, none⟩ (.int .i64 0)).setCell ⟨w.heap.size, 3, none⟩ (.slice none 0 0)) ∧ Kn ((((w1.setCell ⟨w.heap.size, 0, none⟩ (.int .i64 0)).setCell ⟨w.heap.size, 1, none⟩ (.int .i64 0)).setCell ⟨w.heap.size, 2, none⟩ (.int .i64 0)).setCell ⟨w.heap.size, 3, none⟩ (.slice none 0 0)) w.heap.size [.int .i64 0, .int .i64 0, .int .i64 0, .slice none 0 0] 26) := ⟨(((XE.out.set (Nat.le_refl _) _ _).set (Nat.le_refl _) _ _).set (Nat.le_refl _) _ _).set (Nat.le_refl _) _ _, (((kr.set 0 _).set 1 _).set 2 _).set 3 _⟩
    clear kr HS o1 x1 K0
    go_wp2
    generalize ((((w1.setCell ⟨w.heap.size, 0, none⟩ (.int .i64 0)).setCell ⟨w.heap.size, 1, none⟩ (.int .i64 0)).setCell ⟨w.heap.size, 2, none⟩ (.int .i64 0)).setCell ⟨w.heap.size, 3, none⟩ (.slice none 0 0)) = WF at *
    clear f1 c0 c1 c2 c3
    obtain ⟨c0, c1, c2, c3⟩ := (⟨XF.out.2.cell 0 _ rfl, XF.out.2.cell 1 _ rfl, XF.out.2.cell 2 _ rfl, XF.out.2.cell 3 _ rfl⟩ : _ ∧ _ ∧ _ ∧ _)
    refine bodyPost_ret (v := .tuple #[.agg #[.int .i64 0, .int .i64 0, .int .i64 0, .slice none 0 0], .bool false]) (by simp [results, Tryz.results10, go_sem, *]) rfl ?_
    exact ⟨gotS_none HN.out rfl, XF.out.1⟩
  | some G =>
    have hG : Good G := signsR_good e0
    rw [e0] at HS HG HL
    have HG2 : Hid (readT s = match (sPolicy G).2 with
      | none => none
      | some _ => if policyB (sPolicy G).1 then some (sPolicy G).1 else none) := HG.out.trans (sPolicy_read hG)
    have HGL : Hid (G.length ≤ 1200 ∧ Good G) := ⟨HL.out, hG⟩
    clear HG HL e0 hG
    simp only [Option.isSome_some, Option.getD_some] at HS
    go_enter Tryz.func10, Tryz.ntmps10
    go_wp2_with fail
    generalize w.alloc (.cells #[.int .i64 0, .int .i64 0, .int .i64 0, .slice none 0 0] 26) = W0 at *
    refine (show Calls Tryz.prog 31 _ _ _ from HS.out).mono ?_
    rintro e w1 ⟨v, rfl, o1, x1⟩
    obtain ⟨a1, e1, hv, hsg, hgg⟩ := Own3.signs o1
    have hb1 := own3_lt o1 hv
    obtain ⟨gl, hgl⟩ : ∃ gl, gl = G.length := ⟨_, rfl⟩
    rw [← hgl] at hv
    subst hv
    have hR : w.heap.size < w1.heap.size := (K0.out.1.ext x1).lt
    have X2 : Hid (RdS (w1.alloc (.cells #[.slice a1 gl e1, .int .i64 0, .bool false] 66)) w1.heap.size a1 e1 G (some 0) ∧ GB w1.heap.size (w1.alloc (.cells #[.slice a1 gl e1, .int .i64 0, .bool false] 66)) (w1.alloc (.cells #[.slice a1 gl e1, .int .i64 0, .bool false] 66)) ∧ Kn (w1.alloc (.cells #[.slice a1 gl e1, .int .i64 0, .bool false] 66)) w.heap.size [.int .i64 0, .int .i64 0, .int .i64 0, .slice none 0 0] 26) :=
      ⟨⟨0, false, by rw [hgl]; exact Kn.new w1 _ _, rfl, by omega, HGL.out.1, hsg.ext (Ext.one _ _), fun b o s e => by have := (hb1 b o s e).2; omega⟩, gb_refl _ _, (K0.out.1.ext x1).alloc _⟩
    have HP : Hid (w.heap.size < w1.heap.size ∧ (w1.alloc (.cells #[.slice a1 gl e1, .int .i64 0, .bool false] 66)).heap.size = w1.heap.size + 1 ∧ w.heap.size ≠ w1.heap.size ∧ Ext w (w1.alloc (.cells #[.slice a1 gl e1, .int .i64 0, .bool false] 66))) := ⟨hR, by simp, by omega, (K0.out.2.trans x1).trans (Ext.one _ _)⟩
    clear o1 x1 hsg hgg hb1 hR K0 HS hgl
    go_wp2_with fail
    generalize w1.alloc (.cells #[.slice a1 gl e1, .int .i64 0, .bool false] 66) = W2 at *
    generalize w1.heap.size = p at *
    have H0 : Hid (RdS W2 p a1 e1 G (some 0)) := X2.out.1
    have H3 : Hid (Calls Tryz.prog 32 #[.pointer (some ⟨p, 0, none⟩), .int .i64 1, .string ⟨#[97, 114, 99, 104]⟩] W2 fun e w' => e = .returned (.tuple #[]) ∧ RdS w' p a1 e1 G (sWt G (some 0) 1 tArch) ∧ GB p W2 w') := wants_any 1 tArch X2.out.1
    obtain ⟨s1, hs1⟩ : ∃ s, s = sWt G (some 0) 1 tArch := ⟨_, rfl⟩
    rw [← hs1] at H3
    have Es1 : Hid (s1 = sWt G (some 0) 1 tArch) := hs1
    clear hs1
    refine (show Calls Tryz.prog 32 _ _ _ from H3.out).mono ?_
    rintro e w3 ⟨rfl, r3, g3⟩
    have X3 : Hid (RdS w3 p a1 e1 G s1 ∧ GB p W2 w3 ∧ Kn w3 w.heap.size [.int .i64 0, .int .i64 0, .int .i64 0, .slice none 0 0] 26) := ⟨r3, gb_trans X2.out.2.1 g3, X2.out.2.2.gb HP.out.2.2.1 g3⟩
    clear r3 g3 X2 H3
    go_wp2_with fail
    have H4 : Hid (Calls Tryz.prog 33 #[.pointer (some ⟨p, 0, none⟩)] w3 fun e w' => e = .returned (.int .i64 (sNum G s1).1) ∧ RdS w' p a1 e1 G (sNum G s1).2 ∧ GB p w3 w') := xNum_any X3.out.1
    obtain ⟨on, hon⟩ : ∃ on, on = sNum G s1 := ⟨_, rfl⟩
    rw [← hon] at H4
    obtain ⟨ar, s2⟩ := on
    have Es2 : Hid (sNum G s1 = (ar, s2)) := hon.symm
    clear hon
    simp only at H4
    refine (show Calls Tryz.prog 33 _ _ _ from H4.out).mono ?_
    rintro e w4 ⟨rfl, r4, g4⟩
    have X5 : Hid (RdS (w4.alloc (.cells #[.int .i64 ar, .int .i64 0, .int .i64 0, .slice none 0 0] 26)) p a1 e1 G s2 ∧ GB p W2 (w4.alloc (.cells #[.int .i64 ar, .int .i64 0, .int .i64 0, .slice none 0 0] 26)) ∧ Kn (w4.alloc (.cells #[.int .i64 ar, .int .i64 0, .int .i64 0, .slice none 0 0] 26)) w.heap.size [.int .i64 0, .int .i64 0, .int .i64 0, .slice none 0 0] 26 ∧ Kn (w4.alloc (.cells #[.int .i64 ar, .int .i64 0, .int .i64 0, .slice none 0 0] 26)) w4.heap.size [.int .i64 ar, .int .i64 0, .int .i64 0, .slice none 0 0] 26) := ⟨r4.step (Ext.one _ _), gb_alloc (gb_trans X3.out.2.1 g4) _, (X3.out.2.2.gb HP.out.2.2.1 g4).alloc _, Kn.new w4 _ _⟩
    have HQ : Hid (W2.heap.size ≤ w4.heap.size) := (gb_trans X3.out.2.1 g4).size
    clear r4 g4 X3 H4
    go_wp2_with fail
    generalize w4.alloc (.cells #[.int .i64 ar, .int .i64 0, .int .i64 0, .slice none 0 0] 26) = w5 at *
    generalize w4.heap.size = q at *
    have hqp : Hid (q ≠ p ∧ w.heap.size ≠ q ∧ W2.heap.size ≤ q ∧ p < q) := ⟨by have := HP.out.2.1; have := HQ.out; omega, by have := HP.out.2.1; have := HP.out.1; have := HQ.out; omega, HQ.out, by have := HP.out.2.1; have := HQ.out; omega⟩
    clear HQ
    have H6 : Hid (Calls Tryz.prog 32 #[.pointer (some ⟨p, 0, none⟩), .int .i64 3, .string ⟨#[59]⟩] w5 fun e w' => e = .returned (.tuple #[]) ∧ RdS w' p a1 e1 G (sWt G s2 3 tSemi) ∧ GB p w5 w') := wants_any 3 tSemi X5.out.1
    obtain ⟨s3, hs3⟩ : ∃ s, s = sWt G s2 3 tSemi := ⟨_, rfl⟩
    rw [← hs3] at H6
    have Es3 : Hid (s3 = sWt G s2 3 tSemi) := hs3
    clear hs3
    refine (show Calls Tryz.prog 32 _ _ _ from H6.out).mono ?_
    rintro e w6 ⟨rfl, r6, g6⟩
    have X6 : Hid (RdS w6 p a1 e1 G s3 ∧ GB p W2 w6 ∧ Kn w6 w.heap.size [.int .i64 0, .int .i64 0, .int .i64 0, .slice none 0 0] 26 ∧ Kn w6 q [.int .i64 ar, .int .i64 0, .int .i64 0, .slice none 0 0] 26) := ⟨r6, gb_trans X5.out.2.1 g6, X5.out.2.2.1.gb HP.out.2.2.1 g6, X5.out.2.2.2.gb hqp.out.1 g6⟩
    clear r6 g6 X5 H6
    go_wp2_with fail
    have H7 : Hid (Calls Tryz.prog 32 #[.pointer (some ⟨p, 0, none⟩), .int .i64 1, .string ⟨#[100, 101, 102, 97, 117, 108, 116]⟩] w6 fun e w' => e = .returned (.tuple #[]) ∧ RdS w' p a1 e1 G (sWt G s3 1 tDefault) ∧ GB p w6 w') := wants_any 1 tDefault X6.out.1
    obtain ⟨s4, hs4⟩ : ∃ s, s = sWt G s3 1 tDefault := ⟨_, rfl⟩
    rw [← hs4] at H7
    have Es4 : Hid (s4 = sWt G s3 1 tDefault) := hs4
    clear hs4
    refine (show Calls Tryz.prog 32 _ _ _ from H7.out).mono ?_
    rintro e w7 ⟨rfl, r7, g7⟩
    have X7 : Hid (RdS w7 p a1 e1 G s4 ∧ GB p W2 w7 ∧ Kn w7 w.heap.size [.int .i64 0, .int .i64 0, .int .i64 0, .slice none 0 0] 26 ∧ Kn w7 q [.int .i64 ar, .int .i64 0, .int .i64 0, .slice none 0 0] 26) := ⟨r7, gb_trans X6.out.2.1 g7, X6.out.2.2.1.gb HP.out.2.2.1 g7, X6.out.2.2.2.gb hqp.out.1 g7⟩
    clear r7 g7 X6 H7
    go_wp2_with fail
    have H8 : Hid (Calls Tryz.prog 34 #[.pointer (some ⟨p, 0, none⟩)] w7 fun e w' => e = .returned (pairV (sAct G s4).1) ∧ RdS w' p a1 e1 G (sAct G s4).2 ∧ GB p w7 w') := xAction_any X7.out.1
    obtain ⟨oa, hoa⟩ : ∃ oa, oa = sAct G s4 := ⟨_, rfl⟩
    rw [← hoa] at H8
    obtain ⟨⟨ac, da⟩, s5⟩ := oa
    have Es5 : Hid (sAct G s4 = ((ac, da), s5)) := hoa.symm
    clear hoa
    unfold pairV at H8
    simp only at H8
    refine (show Calls Tryz.prog 34 _ _ _ from H8.out).mono ?_
    rintro e w8 ⟨rfl, r8, g8⟩
    have kq := X7.out.2.2.2.gb hqp.out.1 g8
    have X9 : Hid (RdS ((w8.setCell ⟨q, 1, none⟩ (.int .i64 ac)).setCell ⟨q, 2, none⟩ (.int .i64 da)) p a1 e1 G s5 ∧ GB p W2 ((w8.setCell ⟨q, 1, none⟩ (.int .i64 ac)).setCell ⟨q, 2, none⟩ (.int .i64 da)) ∧ Kn ((w8.setCell ⟨q, 1, none⟩ (.int .i64 ac)).setCell ⟨q, 2, none⟩ (.int .i64 da)) w.heap.size [.int .i64 0, .int .i64 0, .int .i64 0, .slice none 0 0] 26 ∧ Kn ((w8.setCell ⟨q, 1, none⟩ (.int .i64 ac)).setCell ⟨q, 2, none⟩ (.int .i64 da)) q [.int .i64 ar, .int .i64 ac, .int .i64 da, .slice none 0 0] 26) :=
      ⟨H0.out.fresh (H0.out.fresh r8 hqp.out.2.2.1) hqp.out.2.2.1, gb_fresh (gb_fresh (gb_trans X7.out.2.1 g8) hqp.out.2.2.1) hqp.out.2.2.1, ((X7.out.2.2.1.gb HP.out.2.2.1 g8).other hqp.out.2.1 _ _).other hqp.out.2.1 _ _, (kq.set 1 _).set 2 _⟩
    have f1 := kq.free
    obtain ⟨c0, c1, c2, c3⟩ := (⟨kq.cell 0 _ rfl, kq.cell 1 _ rfl, kq.cell 2 _ rfl, kq.cell 3 _ rfl⟩ : _ ∧ _ ∧ _ ∧ _)
    clear r8 g8 X7 H8 kq
    go_wp2_with fail
    generalize ((w8.setCell ⟨q, 1, none⟩ (.int .i64 ac)).setCell ⟨q, 2, none⟩ (.int .i64 da)) = w9 at *
    clear f1 c0 c1 c2 c3
    have H10 : Hid (Calls Tryz.prog 32 #[.pointer (some ⟨p, 0, none⟩), .int .i64 3, .string ⟨#[59]⟩] w9 fun e w' => e = .returned (.tuple #[]) ∧ RdS w' p a1 e1 G (sWt G s5 3 tSemi) ∧ GB p w9 w') := wants_any 3 tSemi X9.out.1
    obtain ⟨s6, hs6⟩ : ∃ s, s = sWt G s5 3 tSemi := ⟨_, rfl⟩
    rw [← hs6] at H10
    have Es6 : Hid (s6 = sWt G s5 3 tSemi) := hs6
    clear hs6
    refine (show Calls Tryz.prog 32 _ _ _ from H10.out).mono ?_
    rintro e w10 ⟨rfl, r10, g10⟩
    have X10 : Hid (RdS w10 p a1 e1 G s6 ∧ GB p W2 w10 ∧ Kn w10 w.heap.size [.int .i64 0, .int .i64 0, .int .i64 0, .slice none 0 0] 26 ∧ Kn w10 q [.int .i64 ar, .int .i64 ac, .int .i64 da, .slice none 0 0] 26) := ⟨r10, gb_trans X9.out.2.1 g10, X9.out.2.2.1.gb HP.out.2.2.1 g10, X9.out.2.2.2.gb hqp.out.1 g10⟩
    clear r10 g10 X9 H10
    go_wp2_with fail
    have HPL : Hid (sPolicy G = (⟨ar, ac, da, (sRulesF (G.length + 1) G [] s6).1⟩, (sRulesF (G.length + 1) G [] s6).2)) := by
      unfold Hid sPolicy sHead
      simp only
      rw [← Es1.out, Es2.out]
      simp only
      rw [← Es3.out, ← Es4.out, Es5.out]
      simp only
      rw [← Es6.out]
    clear Es1 Es2 Es3 Es4 Es5 Es6
    go_loopw [] (fun wr => ∃ (ps : List (RN × List Value)) (t : Option Nat) (f : Nat) (v : Value), Hid (sRulesF (G.length + 1) G [] s6 = sRulesF f G (ps.map (·.1)) t ∧ (∀ i, t = some i → G.length + 1 ≤ i + f ∧ ps.length ≤ i) ∧ RdS wr p a1 e1 G t ∧ GB p W2 wr ∧ Kn wr w.heap.size [.int .i64 0, .int .i64 0, .int .i64 0, .slice none 0 0] 26 ∧ Kn wr q [.int .i64 ar, .int .i64 ac, .int .i64 da, v] 26 ∧ RulesX (q + 1) wr v ps ∧ ∀ r ∈ ps.map (·.1), Small r)) (fun W => sLeft W p)
    case atStart => exact ⟨[], s6, G.length + 1, .slice none 0 0, rfl, fun i _ => ⟨by omega, by simp⟩, X10.out.1, X10.out.2.1, X10.out.2.2.1, X10.out.2.2.2, ⟨World.ownsRow_nil _ _ _ _, RowsX.nil X10.out.2.2.2.lt⟩, by simp⟩
    case round =>
      obtain ⟨ps, t, f, v, HI⟩ := hrel
      clear X10
      cases t with
      | none =>
        obtain ⟨i7, hK, _⟩ := HI.out.2.2.1.lost
        have q0 := hK.cell 0 _ rfl
        have q1 := hK.cell 1 _ rfl
        have q2 := hK.cell 2 _ rfl
        have HN : Hid (readT s = none) := by
          unfold Hid
          rw [HG2.out, HPL.out, HI.out.1, sRulesF_none]
        obtain ⟨gl2, hgl2⟩ : ∃ gl2, gl2 = G.length := ⟨_, rfl⟩
        rw [← hgl2] at q0
        clear hK hgl2
        go_wp2_with fail
        go_quiet (fail)
        have kr : Kn (wr.drewN nq) w.heap.size [.int .i64 0, .int .i64 0, .int .i64 0, .slice none 0 0] 26 := HI.out.2.2.2.2.1
        have XE : Hid (Ext w (wr.drewN nq)) := (ext_row HP.out.2.2.2 HI.out.2.2.2.1 (fun x hx => by injection hx with hx; have := HP.out.1; omega)).trans ⟨rfl, rfl, rfl, Nat.le_refl _, fun _ _ => rfl⟩
        have q2' : (wr.drewN nq).cell? ⟨p, 2, none⟩ = some (.bool true) := q2
        clear q0 q1 q2
        generalize wr.drewN nq = wz at *
        have f1 := kr.free
        obtain ⟨c0, c1, c2, c3⟩ := (⟨kr.cell 0 _ rfl, kr.cell 1 _ rfl, kr.cell 2 _ rfl, kr.cell 3 _ rfl⟩ : _ ∧ _ ∧ _ ∧ _)
        have XF : Hid (Ext w ((((wz.setCell ⟨w.heap.size, 0, none⟩ (.int .i64 0)).setCell ⟨w.heap.size, 1, none⟩ (.int .i64 0)).setCell ⟨w.heap.size, 2, none⟩ (.int .i64 0)).setCell ⟨w.heap.size, 3, none⟩ (.slice none 0 0)) ∧ Kn ((((wz.setCell ⟨w.heap.size, 0, none⟩ (.int .i64 0)).setCell ⟨w.heap.size, 1, none⟩ (.int .i64 0)).setCell ⟨w.heap.size, 2, none⟩ (.int .i64 0)).setCell ⟨w.heap.size, 3, none⟩ (.slice none 0 0)) w.heap.size [.int .i64 0, .int .i64 0, .int .i64 0, .slice none 0 0] 26) := ⟨(((XE.out.set (Nat.le_refl _) _ _).set (Nat.le_refl _) _ _).set (Nat.le_refl _) _ _).set (Nat.le_refl _) _ _, (((kr.set 0 _).set 1 _).set 2 _).set 3 _⟩
        clear kr HI
        go_wp2
        generalize ((((wz.setCell ⟨w.heap.size, 0, none⟩ (.int .i64 0)).setCell ⟨w.heap.size, 1, none⟩ (.int .i64 0)).setCell ⟨w.heap.size, 2, none⟩ (.int .i64 0)).setCell ⟨w.heap.size, 3, none⟩ (.slice none 0 0)) = WF at *
        clear f1 c0 c1 c2 c3
        obtain ⟨c0, c1, c2, c3⟩ := (⟨XF.out.2.cell 0 _ rfl, XF.out.2.cell 1 _ rfl, XF.out.2.cell 2 _ rfl, XF.out.2.cell 3 _ rfl⟩ : _ ∧ _ ∧ _ ∧ _)
        refine bodyPost_ret (v := .tuple #[.agg #[.int .i64 0, .int .i64 0, .int .i64 0, .slice none 0 0], .bool false]) (by simp [results, Tryz.results10, go_sem, *]) rfl ?_
        exact ⟨gotS_none HN.out rfl, XF.out.1⟩
      | some i =>
        have hK := HI.out.2.2.1.at.1
        have q0 := hK.cell 0 _ rfl
        have q1 := hK.cell 1 _ rfl
        have q2 := hK.cell 2 _ rfl
        have HF : Hid (1 ≤ f ∧ sRulesF f G (ps.map (·.1)) (some i) = if i < G.length then sRulesF (f - 1) G (ps.map (·.1) ++ [(sRule G (some i)).1]) (sRule G (some i)).2 else (ps.map (·.1), some i)) := by
          have h1 := HI.out.2.1 i rfl
          have h2 := HI.out.2.2.1.at.2
          refine ⟨by omega, ?_⟩
          obtain ⟨g, rfl⟩ : ∃ g, f = g + 1 := ⟨f - 1, by omega⟩
          rfl
        clear hK
        obtain ⟨gl2, hgl2⟩ : ∃ gl2, gl2 = G.length := ⟨_, rfl⟩
        have HGL2 : Hid (gl2 = G.length) := hgl2
        rw [← hgl2] at q0
        by_cases hlt : i < G.length
        · have bi : (i : Int) < (gl2 : Int) := by omega
          clear hgl2
          have HF2 : Hid (sRulesF f G (ps.map (·.1)) (some i) = sRulesF (f - 1) G (ps.map (·.1) ++ [(sRule G (some i)).1]) (sRule G (some i)).2) := by unfold Hid; rw [HF.out.2, if_pos hlt]
          have HC : Hid (∀ W, RdS W p a1 e1 G (some i) → Calls Tryz.prog 35 #[.pointer (some ⟨p, 0, none⟩)] W fun e w' => ∃ l, e = .returned (.agg l.toArray) ∧ RuleX W.heap.size w' (sRule G (some i)).1 l ∧ RdS w' p a1 e1 G (sRule G (some i)).2 ∧ GB p W w') := fun W hW => xRule_any hW
          have HSM : Hid (Small (sRule G (some i)).1) := sRule_small HGL.out.1 _
          have HNX : Hid (∀ j, (sRule G (some i)).2 = some j → i < j) := fun j hj => sRule_next hj
          obtain ⟨qr, hqr⟩ : ∃ qr, qr = sRule G (some i) := ⟨_, rfl⟩
          rw [← hqr] at HF2 HC HSM HNX
          obtain ⟨r, t4⟩ := qr
          clear hqr
          simp only at HF2 HC HSM HNX
          go_wp2_with fail
          go_quiet (fail)
          have X7 : Hid (RdS (wr.drewN nq) p a1 e1 G (some i) ∧ GB p W2 (wr.drewN nq) ∧ Kn (wr.drewN nq) w.heap.size [.int .i64 0, .int .i64 0, .int .i64 0, .slice none 0 0] 26 ∧ Kn (wr.drewN nq) q [.int .i64 ar, .int .i64 ac, .int .i64 da, v] 26 ∧ RulesX (q + 1) (wr.drewN nq) v ps ∧ ps.length ≤ 1200 ∧ p < q + 1 ∧ q + 1 ≤ (wr.drewN nq).heap.size ∧ (∀ x, v.ownBlock = some x → q + 1 ≤ x ∧ x < (wr.drewN nq).heap.size) ∧ p < (wr.drewN nq).heap.size) := by
            have h4 := HI.out.2.2.2.2.2.1
            have hx : Ext wr (wr.drewN nq) := ⟨rfl, rfl, rfl, Nat.le_refl _, fun _ _ => rfl⟩
            refine ⟨HI.out.2.2.1.step hx, gb_trans HI.out.2.2.2.1 (gb_ext hx), HI.out.2.2.2.2.1.ext hx, h4.ext hx, HI.out.2.2.2.2.2.2.1.ext hx, ?_, by have := hqp.out.2.2.2; omega, h4.lt, fun x hx => own_lt9 HI.out.2.2.2.2.2.2.1.1 hx, HI.out.2.2.1.lt⟩
            have := (HI.out.2.1 i rfl).2
            have := HI.out.2.2.1.at.2
            omega
          have HLF : Hid (sLeft wr p = 1301 - i) := HI.out.2.2.1.left
          clear q0 q1 q2
          generalize wr.drewN nq = w7 at *
          go_wp2_with fail
          refine' wp_region_loosea_tail 7 (.inl _ :: .inl _ :: .inl _ :: .inr (fun vv W => ∃ (u1 : Option Addr) (m1 d1 : Nat) (u2 : Option Addr) (m2 d2 : Nat), vv = .agg #[.slice u1 m1 d1, .slice u2 m2 d2, .int .i64 r.act, .int .i64 r.data] ∧ RuleX w7.heap.size W r [.slice u1 m1 d1, .slice u2 m2 d2, .int .i64 r.act, .int .i64 r.data]) :: .inr (fun vv W => ∃ (h : Nat) (u1 : Option Addr) (m1 d1 : Nat) (u2 : Option Addr) (m2 d2 : Nat), vv = .slice (some ⟨h, 0, none⟩) 1 1 ∧ w7.heap.size ≤ h ∧ Kn W h [.slice u1 m1 d1, .slice u2 m2 d2, .int .i64 r.act, .int .i64 r.data] 53 ∧ RuleX w7.heap.size W r [.slice u1 m1 d1, .slice u2 m2 d2, .int .i64 r.act, .int .i64 r.data]) :: .inr (fun vv W => ∃ (g cap' Y : Nat) (l : List Value), vv = .slice (some ⟨g, 0, none⟩) (ps.length + 1) cap' ∧ W.ownsRow (q + 1) 53 4 (.slice (some ⟨g, 0, none⟩) (ps.length + 1) cap') (ps.length + 1) (ps.flatMap (·.2) ++ l) ∧ RowsX (q + 1) Y W (some g) (ps ++ [(r, l)]) ∧ Y ≤ W.heap.size) :: .inl _ :: []) (CA (fun b1 b2 W => (RdS W p a1 e1 G (plcS b1 t4 (some i)) ∧ GB p W2 W ∧ Kn W w.heap.size [.int .i64 0, .int .i64 0, .int .i64 0, .slice none 0 0] 26 ∧ Kn W q [.int .i64 ar, .int .i64 ac, .int .i64 da, v] 26 ∧ RowsX (q + 1) w7.heap.size W v.ownBlock ps ∧ w7.heap.size ≤ W.heap.size) ∧ (b2 = false → W.ownsRow (q + 1) 53 4 v ps.length (ps.flatMap fun (y : RN × List Value) => y.2))) 3 5) (fun ch W => False) (fun x => True) (fun i W W' => (i = 5 → W.grownBy W' v.ownBlock) ∧ (i ≠ 5 → GB p W W')) (by kernel_rfl) (by kernel_rfl) (⟨⟨X7.out.1.step ⟨rfl, rfl, rfl, Nat.le_refl _, fun _ _ => rfl⟩, gb_drew X7.out.2.1, X7.out.2.2.1, X7.out.2.2.2.1, X7.out.2.2.2.2.1.2, Nat.le_refl _⟩, fun _ => X7.out.2.2.2.2.1.1⟩) ?hIA ?hGA ?hBA (fun i ls w hi h => CA_ne (by intro e; subst e; cases hi) (by intro e; subst e; cases hi) h) ?hAA ?hlA ?hMA
          case' hMA => skip
          simp only [List.take_succ_cons, List.take_zero, List.drop_succ_cons, List.drop_zero]
          apply wpLooseA_val rfl rfl (by decide) (by decide)
          case hs =>
            intro b1 b2 w1 hC hd Q1 hQ1 hP1
            dsimp only [bare]
            have q1 := hC.1.2.2.2.1.cell 3 _ rfl
            clear hd hP1
            have HCC : Hid _ := hC
            clear hC
            go_wp2
            exact ⟨HCC.out, ⟨fun h => by omega, fun _ => gb_refl _ _⟩⟩
          case ha => rfl
          apply wpLooseA_val rfl rfl (by decide) (by decide)
          case hs =>
            intro b1 b2 w1 hC hd Q1 hQ1 hP1
            dsimp only [bare]
            have q1 := hC.1.2.2.2.1.cell 3 _ rfl
            clear hd hP1
            have HCC : Hid _ := hC
            clear hC
            go_wp2
            exact ⟨HCC.out, ⟨fun h => by omega, fun _ => gb_refl _ _⟩⟩
          case ha => rfl
          apply wpLooseA_val rfl rfl (by decide) (by decide)
          case hs =>
            intro b1 b2 w1 hC hd Q1 hQ1 hP1
            dsimp only [bare]
            have q1 := hC.1.2.2.2.1.cell 3 _ rfl
            clear hd hP1
            have HCC : Hid _ := hC
            clear hC
            go_wp2
            exact ⟨HCC.out, ⟨fun h => by omega, fun _ => gb_refl _ _⟩⟩
          case ha => rfl
          refine wpLooseA_s1 rfl rfl (by decide) (by decide) ?_ (fun vA_3 => ?_)
          · intro b2 w1 hC hd Q1 hQ1 hP1
            dsimp only [bare]
            clear hd
            have HCC : Hid _ := hC
            have HQ : Hid _ := hQ1
            clear hC hQ1 hP1
            go_wp2_with fail
            refine (show Calls Tryz.prog 35 _ _ _ from HC.out _ HCC.out.1.1).mono ?_
            rintro e w8 ⟨l, rfl, hl, hr, g8⟩
            obtain ⟨u1, m1, d1, u2, m2, d2, rfl⟩ := hl.shape
            have HL : Hid (RuleX w1.heap.size w8 r [.slice u1 m1 d1, .slice u2 m2 d2, .int .i64 r.act, .int .i64 r.data] ∧ RdS w8 p a1 e1 G t4 ∧ GB p w1 w8) := ⟨hl, hr, g8⟩
            clear hl hr g8
            go_wp2_with fail
            obtain ⟨⟨h1, h2, h3, h4, h5, h6⟩, h7⟩ := HCC.out
            exact HQ.out _ _ ⟨⟨⟨HL.out.2.1, gb_trans h2 HL.out.2.2, h3.gb HP.out.2.2.1 HL.out.2.2, h4.gb hqp.out.1 HL.out.2.2, h5.kept HL.out.2.2 (fun x hx _ => by injection hx with hx; have := X7.out.2.2.2.2.2.2.1; omega), Nat.le_trans h6 HL.out.2.2.size⟩, fun hb => own_gb (h7 hb) X7.out.2.2.2.2.2.2.1 HL.out.2.2⟩, ⟨fun h => by omega, fun _ => HL.out.2.2⟩, u1, m1, d1, u2, m2, d2, rfl, HL.out.1.mono h6⟩
          refine wpLooseA_rel rfl rfl (by decide) (by decide) ?_ (fun vA_4 => ?_)
          · intro b1 b2 w1 hC hd Q1 hQ1 hP1
            dsimp only [bare]
            have h3 : ∃ (u1 : Option Addr) (m1 d1 : Nat) (u2 : Option Addr) (m2 d2 : Nat), vA_3 = .agg #[.slice u1 m1 d1, .slice u2 m2 d2, .int .i64 r.act, .int .i64 r.data] ∧ RuleX w7.heap.size w1 r [.slice u1 m1 d1, .slice u2 m2 d2, .int .i64 r.act, .int .i64 r.data] := hd ⟨3, .data⟩ (by simp) rfl _ rfl (by simp [Act.put])
            clear hd hP1
            obtain ⟨u1, m1, d1, u2, m2, d2, rfl, e3⟩ := h3
            have HCC : Hid _ := hC
            have HQ : Hid _ := hQ1
            have RX : Hid (RuleX w7.heap.size w1 r [.slice u1 m1 d1, .slice u2 m2 d2, .int .i64 r.act, .int .i64 r.data]) := e3
            clear hC hQ1 e3
            go_wp2_with fail
            obtain ⟨⟨h1, h2, h3, h4, h5, h6⟩, h7⟩ := HCC.out
            exact HQ.out _ _ ⟨⟨⟨h1.step (Ext.one _ _), gb_alloc h2 _, h3.alloc _, h4.alloc _, h5.kept (gb_ext (p := p) (Ext.one _ _)) (fun x hx _ => by injection hx with hx; have := X7.out.2.2.2.2.2.2.1; omega), by simp; omega⟩, fun hb => own_ext (h7 hb) (Ext.one _ _)⟩, ⟨fun h => by omega, fun _ => gb_ext (Ext.one _ _)⟩, w1.heap.size, u1, m1, d1, u2, m2, d2, rfl, h6, Kn.new _ _ _, RX.out.kept (gb_ext (p := p) (Ext.one _ _)) (fun x hx e => by have := (RX.out.blocks x hx).1; have := X7.out.2.2.2.2.2.2.2.2.2; injection e with e; omega)⟩
          refine wpLooseA_s2 rfl rfl (by decide) (by decide) ?_ (fun vA_5 => ?_)
          · intro b1 w1 hC hd Q1 hQ1 hP1
            dsimp only [bare]
            have h4 : ∃ (h : Nat) (u1 : Option Addr) (m1 d1 : Nat) (u2 : Option Addr) (m2 d2 : Nat), vA_4 = .slice (some ⟨h, 0, none⟩) 1 1 ∧ w7.heap.size ≤ h ∧ Kn w1 h [.slice u1 m1 d1, .slice u2 m2 d2, .int .i64 r.act, .int .i64 r.data] 53 ∧ RuleX w7.heap.size w1 r [.slice u1 m1 d1, .slice u2 m2 d2, .int .i64 r.act, .int .i64 r.data] := hd ⟨4, .data⟩ (by simp) rfl _ rfl (by simp [Act.put])
            clear hd hP1
            obtain ⟨h, u1, m1, d1, u2, m2, d2, rfl, e3, e4, e5⟩ := h4
            have HCC : Hid _ := hC
            have HQ : Hid _ := hQ1
            have RX : Hid (RuleX w7.heap.size w1 r [.slice u1 m1 d1, .slice u2 m2 d2, .int .i64 r.act, .int .i64 r.data]) := e5
            have HBK : Hid (Kn w1 h [.slice u1 m1 d1, .slice u2 m2 d2, .int .i64 r.act, .int .i64 r.data] 53 ∧ q + 1 ≤ w1.heap.size) := ⟨e4, Nat.le_trans X7.out.2.2.2.2.2.2.2.1 hC.1.2.2.2.2.2⟩
            have hlen : ps.length ≤ 1200 := X7.out.2.2.2.2.2.1
            clear hC hQ1 e3 e4 e5
            go_wp2_with (at_builtin; refine wpList_append_lies _ rfl _ _ 24 rfl (q + 1) 53 j0 (.agg #[.slice none 0 0, .slice none 0 0, .int .i64 0, .int .i64 0]) 4 64 Tryz.underlying24 ji jz0 jz1 jz2 rfl (by decide) _ _ _ rfl (HCC.out.2 rfl) ⟨h, 0, none⟩ 1 1 [.slice u1 m1 d1, .slice u2 m2 d2, .int .i64 r.act, .int .i64 r.data] rfl rfl ?c1 ?c2 (by omega) ?c3 ?c4 ?c5 w1.heap.size rfl ?_)
            case c1 => exact fun j u hu => HBK.out.1.cell j u hu
            case c2 => simp [Value.oneCell']
            case c3 => unfold maxLen; omega
            case c4 => omega
            case c5 => exact HBK.out.2
            intro g cap' w5 hown5 hgrow5 hat5 hlt5
            obtain ⟨⟨h1, h2, h3, h4, h5, h6⟩, h7⟩ := HCC.out
            have hv1 := X7.out.2.2.2.2.2.2.2.2.1
            have hrow : ∀ x, v.ownBlock = some x → W2.heap.size ≤ x := fun x hx => by have := (hv1 x hx).1; have := hqp.out.2.2.1; omega
            have POST : Hid ((RdS w5 p a1 e1 G (plcS b1 t4 (some i)) ∧ GB p W2 w5 ∧ Kn w5 w.heap.size [.int .i64 0, .int .i64 0, .int .i64 0, .slice none 0 0] 26 ∧ Kn w5 q [.int .i64 ar, .int .i64 ac, .int .i64 da, v] 26 ∧ RowsX (q + 1) w7.heap.size w5 v.ownBlock ps ∧ w7.heap.size ≤ w5.heap.size) ∧ w1.grownBy w5 v.ownBlock ∧ w5.ownsRow (q + 1) 53 4 (.slice (some ⟨g, 0, none⟩) (ps.length + 1) cap') (ps.length + 1) (ps.flatMap (·.2) ++ [.slice u1 m1 d1, .slice u2 m2 d2, .int .i64 r.act, .int .i64 r.data]) ∧ RowsX (q + 1) w1.heap.size w5 (some g) (ps ++ [(r, [.slice u1 m1 d1, .slice u2 m2 d2, .int .i64 r.act, .int .i64 r.data])]) ∧ w1.heap.size ≤ w5.heap.size) := ⟨⟨H0.out.row h1 hgrow5 hrow, gb_row h2 hgrow5 hrow, h3.row hgrow5 (fun e => by have := (hv1 _ e).1; have := hqp.out.2.2.2; have := HP.out.1; omega), h4.row hgrow5 (fun e => by have := (hv1 _ e).1; omega), h5.kept hgrow5 (fun x hx hne => absurd hx hne), Nat.le_trans h6 hgrow5.size⟩, hgrow5, hown5, (h5.kept hgrow5 (fun x hx hne => absurd hx hne)).push (RX.out.kept hgrow5 (fun x hx e => by have := (RX.out.blocks x hx).1; have := (hv1 x e).2; omega)) (fun x hx => (RX.out.blocks x hx).2) h6 (fun x hx => (hv1 x hx).2) (fun x hx => by injection hx with hx; subst hx; rcases hat5 with h | h; exact .inl h; exact .inr (by omega)), hgrow5.size⟩
            clear h1 h2 h3 h4 h5 h6 h7 hown5 hgrow5 hat5 hlt5 hv1 hrow
            go_wp2_with fail
            exact HQ.out _ _ ⟨⟨POST.out.1, fun hb => by cases hb⟩, ⟨fun _ => POST.out.2.1, fun h => by omega⟩, g, cap', w1.heap.size, _, rfl, POST.out.2.2⟩
          apply wpLooseA_val rfl rfl (by decide) (by decide)
          case hs =>
            intro b1 b2 w1 hC hd Q1 hQ1 hP1
            dsimp only [bare]
            have q1 := hC.1.2.2.2.1.cell 3 _ rfl
            clear hd hP1
            have HCC : Hid _ := hC
            clear hC
            go_wp2
            exact ⟨HCC.out, ⟨fun h => by omega, fun _ => gb_refl _ _⟩⟩
          case ha => rfl
          refine wpLooseA_nil ?_
          intro hJA lsA wA hlsA hCA hFA
          simp only [CA, show lsA.getD 3 false = true from hlsA _ (by decide), show lsA.getD 5 false = true from hlsA _ (by decide)] at hCA
          · obtain ⟨⟨h1, h2, h3, h4, h5, h6⟩, _⟩ := hCA
            obtain ⟨g, cap', Y, l, rfl, hown, hrows, hY⟩ := (hFA 5 _ rfl (by decide) (by simp) : ∃ (g cap' Y : Nat) (l : List Value), vA_5 = .slice (some ⟨g, 0, none⟩) (ps.length + 1) cap' ∧ wA.ownsRow (q + 1) 53 4 (.slice (some ⟨g, 0, none⟩) (ps.length + 1) cap') (ps.length + 1) (ps.flatMap (·.2) ++ l) ∧ RowsX (q + 1) Y wA (some g) (ps ++ [(r, l)]) ∧ Y ≤ wA.heap.size)
            have hg := (own_lt9 (x := g) hown rfl).1
            rw [show plcS true t4 (some i) = t4 from rfl] at h1
            have HK : Hid (sRulesF (G.length + 1) G [] s6 = sRulesF (f - 1) G ((ps ++ [(r, l)]).map (·.1)) t4 ∧ (∀ i, t4 = some i → G.length + 1 ≤ i + (f - 1) ∧ (ps ++ [(r, l)]).length ≤ i) ∧ RdS (wA.setCell ⟨q, 3, none⟩ (.slice (some ⟨g, 0, none⟩) (ps.length + 1) cap')) p a1 e1 G t4 ∧ GB p W2 (wA.setCell ⟨q, 3, none⟩ (.slice (some ⟨g, 0, none⟩) (ps.length + 1) cap')) ∧ Kn (wA.setCell ⟨q, 3, none⟩ (.slice (some ⟨g, 0, none⟩) (ps.length + 1) cap')) w.heap.size [.int .i64 0, .int .i64 0, .int .i64 0, .slice none 0 0] 26 ∧ Kn (wA.setCell ⟨q, 3, none⟩ (.slice (some ⟨g, 0, none⟩) (ps.length + 1) cap')) q [.int .i64 ar, .int .i64 ac, .int .i64 da, .slice (some ⟨g, 0, none⟩) (ps.length + 1) cap'] 26 ∧ RulesX (q + 1) (wA.setCell ⟨q, 3, none⟩ (.slice (some ⟨g, 0, none⟩) (ps.length + 1) cap')) (.slice (some ⟨g, 0, none⟩) (ps.length + 1) cap') (ps ++ [(r, l)]) ∧ ∀ r' ∈ (ps ++ [(r, l)]).map (·.1), Small r') := by
              refine ⟨?_, fun j hj => ?_, H0.out.fresh h1 hqp.out.2.2.1, gb_fresh h2 hqp.out.2.2.1, h3.other hqp.out.2.1 _ _, h4.set 3 _, ⟨?_, ?_⟩, ?_⟩
              · rw [HI.out.1, HF2.out]; simp
              · have h8 := HI.out.2.1 i rfl
                have h9 := HNX.out j hj
                have := HF.out.1
                simp
                omega
              · have := own_set (q := q) (k := 3) (u := .slice (some ⟨g, 0, none⟩) (ps.length + 1) cap') hown (fun x hx => by simp [Value.ownBlock] at hx; omega)
                simpa using this
              · exact (hrows.kept (gb_set q 3 wA _) (fun x hx _ => by injection hx with hx; omega)).up (by rw [World.size_setCell]; exact hY)
              · intro r' hr'
                simp only [List.map_append, List.mem_append, List.map_cons, List.map_nil, List.mem_singleton] at hr'
                rcases hr' with h | h
                · exact HI.out.2.2.2.2.2.2.2 r' h
                · rw [h]; exact HSM.out
            have q1 := h4.cell 3 _ rfl
            have f3 := h4.free
            have HLT : Hid (i < G.length ∧ G.length ≤ 1200) := ⟨hlt, HGL.out.1⟩
            clear h1 h2 h3 h4 h5 h6 hown hrows hFA hY HI X7
            go_wp2
            go_roundw
            case rel => exact ⟨_, t4, f - 1, _, HK.out⟩
            case measure =>
              have h1 := HK.out.2.2.1.left
              have h2 := HLF.out
              have h3 := HLT.out
              rw [h1, h2]
              cases t4 with
              | none => simp only [stLeft]; omega
              | some j =>
                have := HNX.out j rfl
                simp only [stLeft]
                omega
          case hIA => trivial
          case hGA => intros; trivial
          case hBA => intro b ch w10 _ hD; exact hD.elim
          case hAA => kernel_rfl
          case hlA => exact ⟨trivial, trivial, trivial, fun i hi vv W W' ⟨u1, m1, d1, u2, m2, d2, e2, e3⟩ hT => ⟨u1, m1, d1, u2, m2, d2, e2, by by_cases h5 : i = 5; exact e3.kept (hT.1 h5) (fun x hx e => by have := (e3.blocks x hx).1; have := (X7.out.2.2.2.2.2.2.2.2.1 x e).2; omega); exact e3.kept (hT.2 h5) (fun x hx e => by have := (e3.blocks x hx).1; have := X7.out.2.2.2.2.2.2.2.2.2; injection e with e; omega)⟩, fun i hi vv W W' ⟨h, u1, m1, d1, u2, m2, d2, e2, e4, e5, e3⟩ hT => ⟨h, u1, m1, d1, u2, m2, d2, e2, e4, by by_cases h5 : i = 5; exact e5.row (hT.1 h5) (fun e => by have := (X7.out.2.2.2.2.2.2.2.2.1 _ e).2; omega); exact e5.row (hT.2 h5) (fun e => by have := X7.out.2.2.2.2.2.2.2.2.2; injection e with e; omega), by by_cases h5 : i = 5; exact e3.kept (hT.1 h5) (fun x hx e => by have := (e3.blocks x hx).1; have := (X7.out.2.2.2.2.2.2.2.2.1 x e).2; omega); exact e3.kept (hT.2 h5) (fun x hx e => by have := (e3.blocks x hx).1; have := X7.out.2.2.2.2.2.2.2.2.2; injection e with e; omega)⟩, fun i hi vv W W' ⟨g, cap', Y, l, e2, e3, e4, e5⟩ hT => ⟨g, cap', Y, l, e2, own_gb e3 X7.out.2.2.2.2.2.2.1 (hT.2 hi), e4.kept (hT.2 hi) (fun x hx _ => by injection hx with hx; have := X7.out.2.2.2.2.2.2.1; omega), Nat.le_trans e5 (hT.2 hi).size⟩, trivial, trivial⟩
        · have bi : ¬ ((i : Int) < (gl2 : Int)) := by omega
          have bd : decide (i < gl2) = false := decide_eq_false (by omega)
          clear hgl2
          have HO : Hid (sPolicy G = (⟨ar, ac, da, ps.map (·.1)⟩, some i)) := by
            unfold Hid
            rw [HPL.out, HI.out.1, HF.out.2, if_neg hlt]
          have HN : Hid (readT s = if policyB ⟨ar, ac, da, ps.map (·.1)⟩ then some ⟨ar, ac, da, ps.map (·.1)⟩ else none) := by
            unfold Hid
            rw [HG2.out, HO.out]
          have HSM : Hid (SmallR (ps.map (·.1))) := smallR_of (by have := (HI.out.2.1 i rfl).2; have := HI.out.2.2.1.at.2; simp; omega) HI.out.2.2.2.2.2.2.2
          obtain ⟨sa, sc, hv⟩ := own_slice HI.out.2.2.2.2.2.2.1.1
          obtain ⟨sn, hsn⟩ : ∃ sn, sn = ps.length := ⟨_, rfl⟩
          rw [← hsn] at hv
          clear hsn HO HPL HG2 HF
          go_wp2_with fail
          go_quiet (fail)
          have hx : Ext wr (wr.drewN nq) := ⟨rfl, rfl, rfl, Nat.le_refl _, fun _ _ => rfl⟩
          have X4 : Hid (Ext w (wr.drewN nq) ∧ Kn (wr.drewN nq) w.heap.size [.int .i64 0, .int .i64 0, .int .i64 0, .slice none 0 0] 26 ∧ RulesX (q + 1) (wr.drewN nq) v ps ∧ Kn (wr.drewN nq) q [.int .i64 ar, .int .i64 ac, .int .i64 da, v] 26 ∧ (wr.drewN nq).cell? ⟨p, 2, none⟩ = some (.bool false)) :=
            ⟨(ext_row HP.out.2.2.2 HI.out.2.2.2.1 (fun x hx => by injection hx with hx; have := HP.out.1; omega)).trans hx, HI.out.2.2.2.2.1.ext hx, HI.out.2.2.2.2.2.2.1.ext hx, HI.out.2.2.2.2.2.1.ext hx, q2⟩
          clear q0 q1 q2 HI hx
          generalize wr.drewN nq = wz at *
          subst hv
          have HOK : Hid (Calls Tryz.prog 36 #[.agg #[.int .i64 ar, .int .i64 ac, .int .i64 da, .slice sa sn sc]] wz fun e w' => e = .returned (.bool (policyB ⟨ar, ac, da, ps.map (·.1)⟩)) ∧ Ext wz w') := sPolicyOk_rep HSM.out (X4.out.2.2.1.rep ar ac da)
          have kq := X4.out.2.2.2.1
          have q2 := X4.out.2.2.2.2
          obtain ⟨d0, d1, d2, d3⟩ := (⟨kq.cell 0 _ rfl, kq.cell 1 _ rfl, kq.cell 2 _ rfl, kq.cell 3 _ rfl⟩ : _ ∧ _ ∧ _ ∧ _)
          clear kq
          cases ez : policyB ⟨ar, ac, da, ps.map (·.1)⟩
          · rw [ez] at HOK HN
            have HN2 : Hid (readT s = none) := HN.out
            clear HN ez
            go_wp2_with fail
            refine (show Calls Tryz.prog 36 _ _ _ from HOK.out).mono ?_
            rintro e w5 ⟨rfl, x5⟩
            have kr := X4.out.2.1.ext x5
            have XE : Hid (Ext w w5) := X4.out.1.trans x5
            clear d0 d1 d2 d3 q2
            have f1 := kr.free
            obtain ⟨c0, c1, c2, c3⟩ := (⟨kr.cell 0 _ rfl, kr.cell 1 _ rfl, kr.cell 2 _ rfl, kr.cell 3 _ rfl⟩ : _ ∧ _ ∧ _ ∧ _)
            have XF : Hid (Ext w ((((w5.setCell ⟨w.heap.size, 0, none⟩ (.int .i64 0)).setCell ⟨w.heap.size, 1, none⟩ (.int .i64 0)).setCell ⟨w.heap.size, 2, none⟩ (.int .i64 0)).setCell ⟨w.heap.size, 3, none⟩ (.slice none 0 0)) ∧ Kn ((((w5.setCell ⟨w.heap.size, 0, none⟩ (.int .i64 0)).setCell ⟨w.heap.size, 1, none⟩ (.int .i64 0)).setCell ⟨w.heap.size, 2, none⟩ (.int .i64 0)).setCell ⟨w.heap.size, 3, none⟩ (.slice none 0 0)) w.heap.size [.int .i64 0, .int .i64 0, .int .i64 0, .slice none 0 0] 26) := ⟨(((XE.out.set (Nat.le_refl _) _ _).set (Nat.le_refl _) _ _).set (Nat.le_refl _) _ _).set (Nat.le_refl _) _ _, (((kr.set 0 _).set 1 _).set 2 _).set 3 _⟩
            clear kr HOK x5 X4 HSM
            go_wp2
            generalize ((((w5.setCell ⟨w.heap.size, 0, none⟩ (.int .i64 0)).setCell ⟨w.heap.size, 1, none⟩ (.int .i64 0)).setCell ⟨w.heap.size, 2, none⟩ (.int .i64 0)).setCell ⟨w.heap.size, 3, none⟩ (.slice none 0 0)) = WF at *
            clear f1 c0 c1 c2 c3
            obtain ⟨c0, c1, c2, c3⟩ := (⟨XF.out.2.cell 0 _ rfl, XF.out.2.cell 1 _ rfl, XF.out.2.cell 2 _ rfl, XF.out.2.cell 3 _ rfl⟩ : _ ∧ _ ∧ _ ∧ _)
            refine bodyPost_ret (v := .tuple #[.agg #[.int .i64 0, .int .i64 0, .int .i64 0, .slice none 0 0], .bool false]) (by simp [results, Tryz.results10, go_sem, *]) rfl ?_
            exact ⟨gotS_none HN2.out rfl, XF.out.1⟩
          · rw [ez] at HOK HN
            have HN2 : Hid (readT s = some ⟨ar, ac, da, ps.map (·.1)⟩) := HN.out
            clear HN ez
            go_wp2_with fail
            refine (show Calls Tryz.prog 36 _ _ _ from HOK.out).mono ?_
            rintro e w5 ⟨rfl, x5⟩
            have kr := X4.out.2.1.ext x5
            have kq := X4.out.2.2.2.1.ext x5
            have XE : Hid (Ext w w5) := X4.out.1.trans x5
            have hne := hqp.out.2.1
            have hne2 : ¬ q = w.heap.size := fun e => hne e.symm
            clear d0 d1 d2 d3 q2
            obtain ⟨d0, d1, d2, d3⟩ := (⟨kq.cell 0 _ rfl, kq.cell 1 _ rfl, kq.cell 2 _ rfl, kq.cell 3 _ rfl⟩ : _ ∧ _ ∧ _ ∧ _)
            have f2 := kq.free
            have XR : Hid (RulesX (q + 1) ((((w5.setCell ⟨w.heap.size, 0, none⟩ (.int .i64 ar)).setCell ⟨w.heap.size, 1, none⟩ (.int .i64 ac)).setCell ⟨w.heap.size, 2, none⟩ (.int .i64 da)).setCell ⟨w.heap.size, 3, none⟩ (.slice sa sn sc)) (.slice sa sn sc) ps) := by
              have hlr : w.heap.size < q + 1 := by have := HP.out.1; have := hqp.out.2.2.2; omega
              exact (((((X4.out.2.2.1.ext x5).gb hlr (gb_set _ _ _ _)).gb hlr (gb_set _ _ _ _)).gb hlr (gb_set _ _ _ _)).gb hlr (gb_set _ _ _ _))
            have f1 := kr.free
            obtain ⟨c0, c1, c2, c3⟩ := (⟨kr.cell 0 _ rfl, kr.cell 1 _ rfl, kr.cell 2 _ rfl, kr.cell 3 _ rfl⟩ : _ ∧ _ ∧ _ ∧ _)
            have XF : Hid (Ext w ((((w5.setCell ⟨w.heap.size, 0, none⟩ (.int .i64 ar)).setCell ⟨w.heap.size, 1, none⟩ (.int .i64 ac)).setCell ⟨w.heap.size, 2, none⟩ (.int .i64 da)).setCell ⟨w.heap.size, 3, none⟩ (.slice sa sn sc)) ∧ Kn ((((w5.setCell ⟨w.heap.size, 0, none⟩ (.int .i64 ar)).setCell ⟨w.heap.size, 1, none⟩ (.int .i64 ac)).setCell ⟨w.heap.size, 2, none⟩ (.int .i64 da)).setCell ⟨w.heap.size, 3, none⟩ (.slice sa sn sc)) w.heap.size [.int .i64 ar, .int .i64 ac, .int .i64 da, .slice sa sn sc] 26) := ⟨(((XE.out.set (Nat.le_refl _) _ _).set (Nat.le_refl _) _ _).set (Nat.le_refl _) _ _).set (Nat.le_refl _) _ _, (((kr.set 0 _).set 1 _).set 2 _).set 3 _⟩
            clear kr HOK x5 X4 HSM kq
            go_wp2
            generalize ((((w5.setCell ⟨w.heap.size, 0, none⟩ (.int .i64 ar)).setCell ⟨w.heap.size, 1, none⟩ (.int .i64 ac)).setCell ⟨w.heap.size, 2, none⟩ (.int .i64 da)).setCell ⟨w.heap.size, 3, none⟩ (.slice sa sn sc)) = WF at *
            clear f1 c0 c1 c2 c3
            obtain ⟨c0, c1, c2, c3⟩ := (⟨XF.out.2.cell 0 _ rfl, XF.out.2.cell 1 _ rfl, XF.out.2.cell 2 _ rfl, XF.out.2.cell 3 _ rfl⟩ : _ ∧ _ ∧ _ ∧ _)
            refine bodyPost_ret (v := .tuple #[.agg #[.int .i64 ar, .int .i64 ac, .int .i64 da, .slice sa sn sc], .bool true]) (by simp [results, Tryz.results10, go_sem, *]) rfl ?_
            exact ⟨gotS_some HN2.out rfl (XR.out.rep ar ac da), XF.out.1⟩

end Go.Proofs.YtojaohdmfahpmaaGreatDoor

/- What the laws' own marks do to rows of numbers, of conditions, and what is held against them. -/
namespace Go.Proofs.YtojaohdmfahpmaaGreatDoor
open Go.RowKit
set_option linter.unusedVariables false

/-- k, k + 1, .. -/
def mkZ (k : Int) (n : Nat) : List Int := (List.range n).map fun (j : Nat) => k + ((j : Nat) : Int)
theorem mkZ_length (k : Int) (n : Nat) : (mkZ k n).length = n := by simp [mkZ]
theorem mkZ_at (k : Int) (n j : Nat) (h : j < n) : (mkZ k n).getD j 0 = k + (j : Int) := by simp [mkZ, h]

def mkC1 (k : Int) : CN := ⟨k, k + 1, k + 1 + 1, k + 1 + 1 + 1, k + 1 + 1 + 1 + 1, k + 1 + 1 + 1 + 1 + 1⟩
def mkC (k : Int) (n : Nat) : List CN := (List.range n).map fun (j : Nat) => mkC1 (k + 6 * ((j : Nat) : Int))
theorem mkC_length (k : Int) (n : Nat) : (mkC k n).length = n := by simp [mkC]
theorem mkC_at (k : Int) (n j : Nat) (h : j < n) : (mkC k n).getD j c0 = mkC1 (k + 6 * (j : Int)) := by simp [mkC, List.getD_eq_getElem?_getD, h]

/-- Cells of a row of the call's own: there, and free. -/
theorem own_free {w : World} {B e size n : Nat} {v : Value} {xs : List Value} (h : w.ownsRow B e size v n xs) : ∃ a cap, v = .slice a n cap ∧ (0 < n → ∃ g, a = some ⟨g, 0, none⟩ ∧ B ≤ g ∧ FreeN w g (n * size)) := by
  rcases h.2 with ⟨rfl, h0⟩ | ⟨g, cap, cur, rfl, hg, hh, hnc, hcp, hcs, htake⟩
  · exact ⟨none, 0, by rw [h0], fun hp => by omega⟩
  · have hlt := (Array.getElem?_eq_some_iff.1 hh).1
    refine ⟨_, cap, rfl, fun hp => ⟨g, rfl, hg, hlt, fun j hj => ⟨?_, frozen_of_row w g j cur e hh⟩⟩⟩
    have hjc : j < cur.size := by
      rw [hcs]
      exact Nat.lt_of_lt_of_le hj (Nat.mul_le_mul_right size hnc)
    rw [cell_of_row w g j cur e _ hh]
    exact ⟨cur[j], by simp [hjc]⟩

/-- Block g alone is turned. -/
structure Only (w w' : World) (g : Nat) : Prop where
  os : w'.os = w.os
  tape : w'.tape = w.tape
  output : w'.output = w.output
  size : w'.heap.size = w.heap.size
  block : ∀ b, b ≠ g → w'.heap[b]? = w.heap[b]?
  free : ∀ N, FreeN w g N → FreeN w' g N

theorem Only.refl (w : World) (g : Nat) : Only w w g := ⟨rfl, rfl, rfl, rfl, fun _ _ => rfl, fun _ h => h⟩
theorem Only.set {w W : World} {g : Nat} (h : Only w W g) (o : Nat) (v : Value) : Only w (W.setCell ⟨g, o, none⟩ v) g :=
  ⟨h.os, h.tape, h.output, by rw [World.size_setCell]; exact h.size, fun b hb => (Below.heap_setCell W ⟨g, o, none⟩ v b hb).trans (h.block b hb), fun N hN => (h.free N hN).put g o [v]⟩
theorem Only.trans {a b c : World} {g : Nat} (h : Only a b g) (k : Only b c g) : Only a c g :=
  ⟨k.os.trans h.os, k.tape.trans h.tape, k.output.trans h.output, k.size.trans h.size, fun x hx => (k.block x hx).trans (h.block x hx), fun N hN => k.free N (h.free N hN)⟩

set_option maxRecDepth 100000 in
set_option maxHeartbeats 1000000 in
theorem markZ_any (a : Option Addr) (n cap : Nat) (k : Int) (w : World) (hn : n ≤ 1048576) (hk : 0 ≤ k) (hk2 : k ≤ 1000000000) (h : 0 < n → ∃ g, a = some ⟨g, 0, none⟩ ∧ FreeN w g n) :
    Calls Tryz.prog 87 #[.slice a n cap, .int .i64 k] w fun e w' => e = .returned (.int .i64 (k + (n : Int))) ∧ Nums w' a (mkZ k n) ∧ (n = 0 → w' = w) ∧ ∀ g, a = some ⟨g, 0, none⟩ → Only w w' g := by
  have HB : Hid (0 ≤ k ∧ k ≤ 1000000000) := ⟨hk, hk2⟩
  by_cases h0 : n = 0
  · subst h0
    clear h
    go_enter Tryz.func87, Tryz.ntmps87
    go_wp2
    go_loopw [1, 5] (fun kv i wr => kv = .int .i64 k ∧ i = .int .i64 0 ∧ wr = w) (fun _ i _ => 0)
    case atStart => exact ⟨rfl, rfl, rfl⟩
    case round =>
      obtain ⟨rfl, rfl, rfl⟩ := hrel
      go_wp2
      go_ret
      exact ⟨ret_int (by simp), fun hp => by simp [mkZ] at hp, fun _ => rfl, fun g _ => Only.refl _ _⟩
  · obtain ⟨g, rfl, hf⟩ := h (by omega)
    have HF : Hid (FreeN w g n ∧ 0 < n) := ⟨hf, by omega⟩
    clear h hf h0
    go_enter Tryz.func87, Tryz.ntmps87
    go_wp2
    go_loopw [1, 5] (fun kv i wr => ∃ (j : Nat) (K : Int), kv = .int .i64 K ∧ i = .int .i64 j ∧ j ≤ n ∧ 0 ≤ K ∧ K ≤ 1002000000 ∧ Hid (K = k + (j : Int) ∧ Only w wr g ∧ ∀ x, x < j → wr.cell? ⟨g, x, none⟩ = some (.int .i64 (k + (x : Int))))) (fun _ i _ => n - (intOf i).toNat)
    case atStart => exact ⟨0, k, rfl, rfl, by omega, hk, by omega, by simp, Only.refl _ _, fun x hx => by omega⟩
    case round =>
      obtain ⟨j, K, rfl, rfl, hj, hK0, hK, HR⟩ := hrel
      by_cases hlt : j < n
      · have bk : (j : Int) < (n : Int) := by omega
        obtain ⟨⟨u, cu⟩, fu⟩ := (HR.out.2.1.free n HF.out.1).2 j hlt
        clear hk hk2
        go_wp2
        go_roundw
        case rel =>
          obtain ⟨hKe, ho, hcell⟩ := HR.out
          have hkb := HB.out
          refine ⟨j + 1, K + 1, rfl, by go_num, by omega, by omega, by omega, by omega, ho.set j _, fun x hx => ?_⟩
          by_cases hxj : x = j
          · subst hxj
            rw [World.cell?_setCell_same _ _ _ cu, hKe]
          · rw [World.cell?_setCell_other _ _ _ _ (off_neq (fun e => hxj e.symm))]
            exact hcell x (by omega)
        case measure => simp [intOf]; omega
      · have bk : ¬ ((j : Int) < (n : Int)) := by omega
        have hjn : j = n := by omega
        subst hjn
        go_wp2
        go_ret
        obtain ⟨hKe, ho, hcell⟩ := HR.out
        refine ⟨ret_int hKe, fun hp => ⟨g, 0, rfl, by rw [ho.size]; exact HF.out.1.1, fun x hx => ?_⟩, fun h => absurd HF.out.2 (by omega), ho⟩
        rw [mkZ_length] at hx
        rw [mkZ_at _ _ _ hx, Nat.zero_add]
        exact hcell x hx

set_option maxRecDepth 100000 in
set_option maxHeartbeats 1000000 in
theorem heldZ_any (a : Option Addr) (n cap : Nat) (k : Int) (w : World) (hn : n ≤ 1048576) (hk : 0 ≤ k) (hk2 : k ≤ 1000000000) (h : Nums w a (mkZ k n)) :
    Calls Tryz.prog 89 #[.slice a n cap, .int .i64 k] w fun e w' => e = .returned (.int .i64 (k + (n : Int))) ∧ w = w' := by
  have HB : Hid (0 ≤ k ∧ k ≤ 1000000000) := ⟨hk, hk2⟩
  have HA : Hid (Nums w a (mkZ k n)) := h
  clear h
  go_enter Tryz.func89, Tryz.ntmps89
  go_wp2
  go_loopw [1, 5] (fun kv i wr => ∃ (j : Nat) (K : Int), kv = .int .i64 K ∧ i = .int .i64 j ∧ j ≤ n ∧ 0 ≤ K ∧ K ≤ 1002000000 ∧ Hid (K = k + (j : Int)) ∧ w = wr) (fun _ i _ => n - (intOf i).toNat)
  case atStart => exact ⟨0, k, rfl, rfl, by omega, hk, by omega, by simp [Hid], rfl⟩
  case round =>
    obtain ⟨j, K, rfl, rfl, hj, hK0, hK, HK, rfl⟩ := hrel
    by_cases hlt : j < n
    · have bk : (j : Int) < (n : Int) := by omega
      obtain ⟨b, off, rfl, hb, hc⟩ := HA.out.at (k := j) (by rw [mkZ_length]; exact hlt)
      rw [mkZ_at _ _ _ hlt, ← HK.out] at hc
      clear hk hk2
      go_wp2
      go_roundw
      case rel => exact ⟨j + 1, K + 1, rfl, by go_num, by omega, by omega, by have := HK.out; have := HB.out; omega, by have := HK.out; unfold Hid; omega, by first | rfl | trivial⟩
      case measure => simp [intOf]; omega
    · have bk : ¬ ((j : Int) < (n : Int)) := by omega
      have hjn : j = n := by omega
      subst hjn
      go_wp2
      go_ret
      exact ⟨ret_int HK.out, rfl⟩

set_option maxRecDepth 100000 in
set_option maxHeartbeats 2000000 in
theorem markC_any (a : Option Addr) (n cap : Nat) (k : Int) (w : World) (hn : n ≤ 1048576) (hk : 0 ≤ k) (hk2 : k ≤ 1000000000) (h : 0 < n → ∃ g, a = some ⟨g, 0, none⟩ ∧ FreeN w g (n * 6)) :
    Calls Tryz.prog 88 #[.slice a n cap, .int .i64 k] w fun e w' => e = .returned (.int .i64 (k + 6 * (n : Int))) ∧ Conds w' a (mkC k n) ∧ (n = 0 → w' = w) ∧ ∀ g, a = some ⟨g, 0, none⟩ → Only w w' g := by
  have HB : Hid (0 ≤ k ∧ k ≤ 1000000000) := ⟨hk, hk2⟩
  by_cases h0 : n = 0
  · subst h0
    clear h
    go_enter Tryz.func88, Tryz.ntmps88
    go_wp2
    go_loopw [1, 5] (fun kv i wr => kv = .int .i64 k ∧ i = .int .i64 0 ∧ wr = w) (fun _ i _ => 0)
    case atStart => exact ⟨rfl, rfl, rfl⟩
    case round =>
      obtain ⟨rfl, rfl, rfl⟩ := hrel
      go_wp2
      go_ret
      exact ⟨ret_int (by simp), fun hp => by simp [mkC] at hp, fun _ => rfl, fun g _ => Only.refl _ _⟩
  · obtain ⟨g, rfl, hf⟩ := h (by omega)
    have HF : Hid (FreeN w g (n * 6) ∧ 0 < n) := ⟨hf, by omega⟩
    clear h hf h0
    go_enter Tryz.func88, Tryz.ntmps88
    go_wp2
    go_loopw [1, 5] (fun kv i wr => ∃ (j : Nat) (K : Int), kv = .int .i64 K ∧ i = .int .i64 j ∧ j ≤ n ∧ 0 ≤ K ∧ K ≤ 1010000000 ∧ Hid (K = k + 6 * (j : Int) ∧ Only w wr g ∧ ∀ x, x < j → Seg wr g (x * 6) (mkC1 (k + 6 * (x : Int))).l)) (fun _ i _ => n - (intOf i).toNat)
    case atStart => exact ⟨0, k, rfl, rfl, by omega, hk, by omega, by simp, Only.refl _ _, fun x hx => by omega⟩
    case round =>
      obtain ⟨j, K, rfl, rfl, hj, hK0, hK, HR⟩ := hrel
      by_cases hlt : j < n
      · have bk : (j : Int) < (n : Int) := by omega
        have HN : Hid (FreeN wr g (n * 6)) := HR.out.2.1.free _ HF.out.1
        obtain ⟨⟨u0, q0⟩, f0⟩ := HN.out.2 (j * 6) (by omega)
        obtain ⟨⟨u1, q1⟩, f1⟩ := HN.out.2 (j * 6 + 1) (by omega)
        obtain ⟨⟨u2, q2⟩, f2⟩ := HN.out.2 (j * 6 + 2) (by omega)
        obtain ⟨⟨u3, q3⟩, f3⟩ := HN.out.2 (j * 6 + 3) (by omega)
        obtain ⟨⟨u4, q4⟩, f4⟩ := HN.out.2 (j * 6 + 4) (by omega)
        obtain ⟨⟨u5, q5⟩, f5⟩ := HN.out.2 (j * 6 + 5) (by omega)
        clear hk hk2
        go_wp2
        go_roundw
        case rel =>
          obtain ⟨hKe, ho, hcell⟩ := HR.out
          have hkb := HB.out
          refine ⟨j + 1, K + 1 + 1 + 1 + 1 + 1 + 1, rfl, by go_num, by omega, by omega, by omega, by omega, (((((ho.set (j * 6) _).set (j * 6 + 1) _).set (j * 6 + 2) _).set (j * 6 + 3) _).set (j * 6 + 4) _).set (j * 6 + 5) _, fun x hx => ?_⟩
          show Seg (putL wr g (j * 6) (mkC1 K).l) g (x * 6) _
          by_cases hxj : x = j
          · subst hxj
            rw [← hKe]
            exact HN.out.seg (by simp [CN.l]; omega)
          · exact (hcell x (by omega)).putFar (.inr (.inl (by simp [CN.l]; omega)))
        case measure => simp [intOf]; omega
      · have bk : ¬ ((j : Int) < (n : Int)) := by omega
        have hjn : j = n := by omega
        subst hjn
        go_wp2
        go_ret
        obtain ⟨hKe, ho, hcell⟩ := HR.out
        refine ⟨ret_int hKe, fun hp => ⟨g, 0, rfl, by rw [ho.size]; exact HF.out.1.1, fun x hx => ?_⟩, fun h => absurd HF.out.2 (by omega), ho⟩
        rw [mkC_length] at hx
        rw [mkC_at _ _ _ hx, Nat.zero_add]
        exact hcell x hx

set_option maxRecDepth 100000 in
set_option maxHeartbeats 2000000 in
theorem heldC_any (a : Option Addr) (n cap : Nat) (k : Int) (w : World) (hn : n ≤ 1048576) (hk : 0 ≤ k) (hk2 : k ≤ 1000000000) (h : Conds w a (mkC k n)) :
    Calls Tryz.prog 90 #[.slice a n cap, .int .i64 k] w fun e w' => e = .returned (.int .i64 (k + 6 * (n : Int))) ∧ w = w' := by
  have HB : Hid (0 ≤ k ∧ k ≤ 1000000000) := ⟨hk, hk2⟩
  have HA : Hid (Conds w a (mkC k n)) := h
  clear h
  go_enter Tryz.func90, Tryz.ntmps90
  go_wp2
  go_loopw [1, 5] (fun kv i wr => ∃ (j : Nat) (K : Int), kv = .int .i64 K ∧ i = .int .i64 j ∧ j ≤ n ∧ 0 ≤ K ∧ K ≤ 1010000000 ∧ Hid (K = k + 6 * (j : Int)) ∧ w = wr) (fun _ i _ => n - (intOf i).toNat)
  case atStart => exact ⟨0, k, rfl, rfl, by omega, hk, by omega, by simp [Hid], rfl⟩
  case round =>
    obtain ⟨j, K, rfl, rfl, hj, hK0, hK, HK, rfl⟩ := hrel
    by_cases hlt : j < n
    · have bk : (j : Int) < (n : Int) := by omega
      obtain ⟨b, off, rfl, hb, hc⟩ := HA.out.at (k := j) (by rw [mkC_length]; exact hlt) (mkC_at k n j hlt).symm
      rw [← HK.out] at hc
      obtain ⟨q0, q1, q2, q3, q4, q5⟩ := Seg.six (show Seg w b (off + j * 6) [.int .i64 K, .int .i64 (K + 1), .int .i64 (K + 1 + 1), .int .i64 (K + 1 + 1 + 1), .int .i64 (K + 1 + 1 + 1 + 1), .int .i64 (K + 1 + 1 + 1 + 1 + 1)] from hc)
      clear hk hk2 hc
      go_wp2
      go_roundw
      case rel => exact ⟨j + 1, K + 1 + 1 + 1 + 1 + 1 + 1, rfl, by go_num, by omega, by omega, by have := HK.out; have := HB.out; omega, by have := HK.out; unfold Hid; omega, by first | rfl | trivial⟩
      case measure => simp [intOf]; omega
    · have bk : ¬ ((j : Int) < (n : Int)) := by omega
      have hjn : j = n := by omega
      subst hjn
      go_wp2
      go_ret
      exact ⟨ret_int HK.out, rfl⟩

end Go.Proofs.YtojaohdmfahpmaaGreatDoor

namespace Go.Proofs.YtojaohdmfahpmaaGreatDoor
open Go.RowKit
set_option linter.unusedVariables false

theorem RowsX.stay {B Z : Nat} {w w' : World} {o : Option Nat} {ps : List (RN × List Value)} (h : RowsX B Z w o ps) (hE : Ext w w') : RowsX B Z w' o ps :=
  h.kept (row := none) ⟨hE.os, hE.tape, hE.output, hE.size, fun i hi _ => hE.block i hi⟩ (fun x hx => by cases hx)

/-- How many marks a rule takes. -/
def wR (r : RN) : Nat := r.nums.length + 6 * r.conds.length + 2
def sumR (rs : List RN) : Nat := (rs.map wR).sum

theorem sumR_take (rs : List RN) (j : Nat) (h : j < rs.length) : sumR (rs.take (j + 1)) = sumR (rs.take j) + wR (rs.getD j r0) := by
  unfold sumR
  rw [List.take_succ_eq_append_getElem h, List.getD_eq_getElem?_getD, List.getElem?_eq_getElem h]
  simp only [List.map_append, List.sum_append, List.map_cons, List.map_nil, List.sum_cons, List.sum_nil, Nat.add_zero, Option.getD_some]

theorem sumR_le (rs : List RN) (hs : ∀ r ∈ rs, Small r) : sumR rs ≤ 8000000 * rs.length := by
  induction rs with
  | nil => simp [sumR]
  | cons r rs ih =>
    have h1 := ih (fun x hx => hs x (by simp [hx]))
    have h2 : wR r ≤ 8000000 := by
      have := hs r (by simp)
      unfold Small at this
      unfold wR
      omega
    unfold sumR at *
    simp only [List.map_cons, List.sum_cons, List.length_cons]
    omega

theorem putL_block (g : Nat) {b : Nat} (hb : b ≠ g) : ∀ (vs : List Value) (W : World) (o : Nat), (putL W g o vs).heap[b]? = W.heap[b]?
  | [], _, _ => rfl
  | v :: vs, W, o => by
    rw [putL, putL_block g hb vs]
    exact Below.heap_setCell W ⟨g, o, none⟩ v b hb

/-- A rule that was marked from k on. -/
def mkR (k : Nat) (r : RN) : RN := ⟨mkZ (k : Int) r.nums.length, mkC ((k : Int) + (r.nums.length : Int)) r.conds.length, (k : Int) + (r.nums.length : Int) + 6 * (r.conds.length : Int), (k : Int) + (r.nums.length : Int) + 6 * (r.conds.length : Int) + 1⟩

def mkRs (rs : List RN) : List RN := (List.range rs.length).map fun x => mkR (1 + sumR (rs.take x)) (rs.getD x r0)

theorem mkRs_length (rs : List RN) : (mkRs rs).length = rs.length := by simp [mkRs]
theorem mkRs_at (rs : List RN) (x : Nat) (h : x < rs.length) : (mkRs rs).getD x r0 = mkR (1 + sumR (rs.take x)) (rs.getD x r0) := by simp [mkRs, List.getD_eq_getElem?_getD, h]

theorem nums_keep {W W' : World} {a : Option Addr} {zs : List Int} (h : Nums W a zs) (hb : ∀ b o s, a = some ⟨b, o, s⟩ → W'.heap[b]? = W.heap[b]?) (hs : W.heap.size ≤ W'.heap.size) : Nums W' a zs := fun hp => by
  obtain ⟨b, off, ha, hlt, hc⟩ := h hp
  exact ⟨b, off, ha, Nat.lt_of_lt_of_le hlt hs, fun j hj => (World.cell?_of_block (w := W) (a := ⟨b, off + j, none⟩) (hb b off none ha)).trans (hc j hj)⟩

theorem seg_keep {W W' : World} {b o : Nat} {l : List Value} (h : Seg W b o l) (hb : W'.heap[b]? = W.heap[b]?) : Seg W' b o l := fun i v hv => (World.cell?_of_block (w := W) (a := ⟨b, o + i, none⟩) hb).trans (h i v hv)

theorem conds_keep {W W' : World} {a : Option Addr} {cs : List CN} (h : Conds W a cs) (hb : ∀ b o s, a = some ⟨b, o, s⟩ → W'.heap[b]? = W.heap[b]?) (hs : W.heap.size ≤ W'.heap.size) : Conds W' a cs := fun hp => by
  obtain ⟨b, off, ha, hlt, hc⟩ := h hp
  exact ⟨b, off, ha, Nat.lt_of_lt_of_le hlt hs, fun j hj => seg_keep (hc j hj) (hb b off none ha)⟩

theorem free_keep {W W' : World} {g N : Nat} (h : FreeN W g N) (hb : W'.heap[g]? = W.heap[g]?) (hs : W.heap.size ≤ W'.heap.size) : FreeN W' g N :=
  ⟨Nat.lt_of_lt_of_le h.1 hs, fun j hj => ⟨by rw [World.cell?_of_block (w := W) (a := ⟨g, j, none⟩) hb]; exact (h.2 j hj).1, (World.frozen?_of_block (w := W) (a := ⟨g, j, none⟩) hb).trans (h.2 j hj).2⟩⟩

/-- One block, or none, is turned. -/
structure Chg (W W' : World) (o : Option Nat) : Prop where
  os : W'.os = W.os
  tape : W'.tape = W.tape
  output : W'.output = W.output
  size : W'.heap.size = W.heap.size
  block : ∀ b, o ≠ some b → W'.heap[b]? = W.heap[b]?

theorem Chg.refl (W : World) (o : Option Nat) : Chg W W o := ⟨rfl, rfl, rfl, rfl, fun _ _ => rfl⟩

theorem markZ_own {W V : World} {B n : Nat} {v : Value} {xs : List Value} (k : Int) (hn : n ≤ 1048576) (hk : 0 ≤ k) (hk2 : k ≤ 1000000000) (h : V.ownsRow B 3 1 v n xs) (hb : ∀ b, v.ownBlock = some b → W.heap[b]? = V.heap[b]?) (hs : V.heap.size ≤ W.heap.size) :
    Calls Tryz.prog 87 #[v, .int .i64 k] W fun e w' => e = .returned (.int .i64 (k + (n : Int))) ∧ (∃ a cap, v = .slice a n cap ∧ Nums w' a (mkZ k n)) ∧ Chg W w' v.ownBlock := by
  obtain ⟨a, cap, rfl, hf⟩ := own_free h
  refine (markZ_any a n cap k W hn hk hk2 (fun hp => ?_)).mono ?_
  · obtain ⟨g, rfl, _, hfr⟩ := hf hp
    exact ⟨g, rfl, free_keep (by simpa using hfr) (hb g rfl) hs⟩
  · rintro e w' ⟨rfl, h1, h2, h3⟩
    refine ⟨rfl, ⟨a, cap, rfl, h1⟩, ?_⟩
    by_cases h0 : n = 0
    · rw [h2 h0]; exact Chg.refl _ _
    · obtain ⟨g, rfl, _, _⟩ := hf (by omega)
      have h := h3 g rfl
      exact ⟨h.os, h.tape, h.output, h.size, fun b hb => h.block b (fun e => hb (by rw [e]; rfl))⟩

theorem markC_own {W V : World} {B n : Nat} {v : Value} {xs : List Value} (k : Int) (hn : n ≤ 1048576) (hk : 0 ≤ k) (hk2 : k ≤ 1000000000) (h : V.ownsRow B 78 6 v n xs) (hb : ∀ b, v.ownBlock = some b → W.heap[b]? = V.heap[b]?) (hs : V.heap.size ≤ W.heap.size) :
    Calls Tryz.prog 88 #[v, .int .i64 k] W fun e w' => e = .returned (.int .i64 (k + 6 * (n : Int))) ∧ (∃ a cap, v = .slice a n cap ∧ Conds w' a (mkC k n)) ∧ Chg W w' v.ownBlock := by
  obtain ⟨a, cap, rfl, hf⟩ := own_free h
  refine (markC_any a n cap k W hn hk hk2 (fun hp => ?_)).mono ?_
  · obtain ⟨g, rfl, _, hfr⟩ := hf hp
    exact ⟨g, rfl, free_keep hfr (hb g rfl) hs⟩
  · rintro e w' ⟨rfl, h1, h2, h3⟩
    refine ⟨rfl, ⟨a, cap, rfl, h1⟩, ?_⟩
    by_cases h0 : n = 0
    · rw [h2 h0]; exact Chg.refl _ _
    · obtain ⟨g, rfl, _, _⟩ := hf (by omega)
      have h := h3 g rfl
      exact ⟨h.os, h.tape, h.output, h.size, fun b hb => h.block b (fun e => hb (by rw [e]; rfl))⟩

/-- A rule whose rows lie in such blocks. -/
def RuleB (φ : Nat → Prop) (W : World) (r : RN) (l : List Value) : Prop :=
  ∃ a1 n1 c1 a2 n2 c2, l = [.slice a1 n1 c1, .slice a2 n2 c2, .int .i64 r.act, .int .i64 r.data] ∧ n1 = r.nums.length ∧ n2 = r.conds.length ∧ Nums W a1 r.nums ∧ Conds W a2 r.conds ∧ (∀ b o s, a1 = some ⟨b, o, s⟩ → φ b) ∧ ∀ b o s, a2 = some ⟨b, o, s⟩ → φ b

theorem RuleB.keep {φ : Nat → Prop} {W W' : World} {r : RN} {l : List Value} (h : RuleB φ W r l) (hb : ∀ b, φ b → W'.heap[b]? = W.heap[b]?) (hs : W.heap.size ≤ W'.heap.size) : RuleB φ W' r l := by
  obtain ⟨a1, n1, c1, a2, n2, c2, e, e1, e2, h1, h2, p1, p2⟩ := h
  exact ⟨a1, n1, c1, a2, n2, c2, e, e1, e2, nums_keep h1 (fun b o s e => hb b (p1 b o s e)) hs, conds_keep h2 (fun b o s e => hb b (p2 b o s e)) hs, p1, p2⟩

theorem RuleB.rule {φ : Nat → Prop} {W : World} {r : RN} {l : List Value} (h : RuleB φ W r l) : RuleL W r l := by
  obtain ⟨a1, n1, c1, a2, n2, c2, e, e1, e2, h1, h2, _, _⟩ := h
  exact ⟨a1, n1, c1, a2, n2, c2, e, e1, e2, h1, h2⟩

/-- A rule's two rows, named. -/
theorem RuleX.parts {B : Nat} {w : World} {r : RN} {l : List Value} (h : RuleX B w r l) : ∃ a1 n1 c1 a2 n2 c2, l = [.slice a1 n1 c1, .slice a2 n2 c2, .int .i64 r.act, .int .i64 r.data] ∧ n1 = r.nums.length ∧ n2 = r.conds.length ∧ w.ownsRow B 3 1 (.slice a1 n1 c1) n1 (r.nums.map (Value.int .i64)) ∧ w.ownsRow B 78 6 (.slice a2 n2 c2) n2 (flatC r.conds) ∧ ∀ x, (Value.slice a1 n1 c1).ownBlock = some x → (Value.slice a2 n2 c2).ownBlock ≠ some x := by
  obtain ⟨v1, v2, B2, rfl, h1, h2, h3, h4⟩ := h
  obtain ⟨a1, c1, rfl⟩ := own_slice h1
  obtain ⟨a2, c2, rfl⟩ := own_slice h2
  exact ⟨a1, _, c1, a2, _, c2, rfl, rfl, rfl, h1, own_mono h2 h3, fun x hx e => by have := h4 x hx; have := (own_lt9 h2 e).1; omega⟩

set_option maxRecDepth 100000 in
set_option maxHeartbeats 2000000 in
theorem markRules_any {B Z : Nat} {w : World} {v : Value} {ps : List (RN × List Value)} (ho : w.ownsRow B 53 4 v ps.length (ps.flatMap (·.2))) (hr : RowsX B Z w v.ownBlock ps) (hZ : ∀ x, v.ownBlock = some x → x < Z) (hl : ps.length ≤ 10) (hs : ∀ q ∈ ps, Small q.1) :
    Calls Tryz.prog 47 #[v, .int .i64 1] w fun e w' => e = .returned (.int .i64 ((1 + sumR (ps.map (·.1)) : Nat) : Int)) ∧ (∃ a cap, v = .slice a ps.length cap ∧ Rules w' a (mkRs (ps.map (·.1)))) ∧ Below B w w' ∧ ∀ b, Z ≤ b → w'.heap[b]? = w.heap[b]? := by
  obtain ⟨n, hn⟩ : ∃ n, n = ps.length := ⟨_, rfl⟩
  have HN : Hid (n = ps.length) := hn
  rw [← hn] at ho hl ⊢
  rcases ho.2 with ⟨rfl, h0⟩ | ⟨g, cap, cur, rfl, hg, hh, hnc, hcp, hcs, htake⟩
  · have hps : ps = [] := List.length_eq_zero_iff.1 (by omega)
    subst hps h0
    clear ho hr hn hs HN
    go_enter Tryz.func47, Tryz.ntmps47
    go_wp2
    go_loopw [1, 5] (fun kv i wr => kv = .int .i64 1 ∧ i = .int .i64 0 ∧ wr = w) (fun _ i _ => 0)
    case atStart => exact ⟨rfl, rfl, rfl⟩
    case round =>
      obtain ⟨rfl, rfl, rfl⟩ := hrel
      go_wp2
      go_ret
      exact ⟨rfl, ⟨none, 0, rfl, fun hp => by simp [mkRs] at hp⟩, Below.refl _ _, fun _ _ => rfl⟩
  · have hlt := (Array.getElem?_eq_some_iff.1 hh).1
    have hfree : FreeN w g (n * 4) := by
      obtain ⟨a', cap', e, hf⟩ := own_free ho
      by_cases h0 : 0 < n
      · obtain ⟨g', e2, _, hfr⟩ := hf h0
        injection e with e e3 e4
        rw [← e] at e2
        injection e2 with e2
        injection e2 with e2
        rw [e2]; exact hfr
      · exact ⟨hlt, fun j hj => by omega⟩
    have hsegs : ∀ x q, ps[x]? = some q → Seg w g (x * 4) q.2 := fun x q hq i u hu => by
      have hi : i < 4 := by have := (List.getElem?_eq_some_iff.1 hu).1; rw [(hr.rule hq).2] at this; exact this
      have hx := (List.getElem?_eq_some_iff.1 hq).1
      have e1 := flat4_at ps x i q u hr.four hq hu
      rw [← htake, List.getElem?_take, if_pos (by omega)] at e1
      rw [cell_of_row w g _ cur 53 _ hh]
      simpa using e1
    have hgZ := hZ g rfl
    obtain ⟨m, m1, m2, m3, m4⟩ := hr
    have HZ : Hid (g < Z ∧ m n ≤ Z) := ⟨hgZ, by rw [hn]; exact m3⟩
    clear hgZ hZ
    have H0 : Hid (FreeN w g (n * 4) ∧ B ≤ g ∧ (∀ j, m j ≤ m (j + 1)) ∧ B ≤ m 0 ∧ (∀ j q, ps[j]? = some q → RuleX (m j) w q.1 q.2 ∧ ∀ x, Blo q.2 x → m j ≤ x ∧ x < m (j + 1) ∧ some g ≠ some x) ∧ ∀ q ∈ ps, Small q.1) := ⟨hfree, hg, m1, m2, m4, hs⟩
    have HSG : Hid (∀ x q, ps[x]? = some q → Seg w g (x * 4) q.2) := hsegs
    have HTK : Hid (sumR ((ps.map (·.1)).take 0) = 0) := by simp [Hid, sumR]
    clear hfree hg m1 m2 m3 m4 hs hsegs ho hh hnc hcp hcs htake hlt hn
    go_enter Tryz.func47, Tryz.ntmps47
    go_wp2
    go_loopw [1, 5] (fun kv i wr => ∃ (j : Nat) (K : Nat), kv = .int .i64 (K : Int) ∧ i = .int .i64 j ∧ j ≤ n ∧ K ≤ 100000000 ∧ Hid (K = 1 + sumR ((ps.map (·.1)).take j) ∧ K ≤ 1 + 8000000 * j ∧ Below B w wr ∧ wr.heap.size = w.heap.size ∧ FreeN wr g (n * 4) ∧ (∀ x q, x < j → ps[x]? = some q → ∃ l, Seg wr g (x * 4) l ∧ RuleB (fun b => m x ≤ b ∧ b < m (x + 1) ∧ b ≠ g) wr (mkR (1 + sumR ((ps.map (·.1)).take x)) q.1) l) ∧ (∀ x q, j ≤ x → ps[x]? = some q → Seg wr g (x * 4) q.2) ∧ (∀ x b, j ≤ x → m x ≤ b → b < m (x + 1) → b ≠ g → wr.heap[b]? = w.heap[b]?) ∧ ∀ b, Z ≤ b → wr.heap[b]? = w.heap[b]?)) (fun _ i _ => n - (intOf i).toNat)
    case atStart => exact ⟨0, 1, rfl, rfl, by omega, by omega, by rw [HTK.out], by omega, Below.refl _ _, rfl, H0.out.1, fun x q hx => by omega, fun x q _ hq => HSG.out x q hq, fun _ _ _ _ _ _ => rfl, fun _ _ => rfl⟩
    case round =>
      obtain ⟨j, K, rfl, rfl, hj, hK, HR⟩ := hrel
      by_cases hlt : j < n
      · have bk : (j : Int) < (n : Int) := by omega
        have hjp : j < ps.length := by have := HN.out; omega
        obtain ⟨q, hq⟩ : ∃ q, ps[j]? = some q := ⟨_, List.getElem?_eq_getElem hjp⟩
        obtain ⟨hrx, hbl⟩ := H0.out.2.2.2.2.1 j q hq
        have hsm := H0.out.2.2.2.2.2 q (List.mem_of_getElem? hq)
        obtain ⟨a1, n1, c1, a2, n2, c2, hl4, e1, e2, o1, o2, hne⟩ := hrx.parts
        have hseg := HR.out.2.2.2.2.2.2.1 j q (Nat.le_refl _) hq
        rw [hl4] at hseg hbl
        have HQ : Hid (ps[j]? = some q ∧ n1 = q.1.nums.length ∧ n2 = q.1.conds.length ∧ q.2 = [.slice a1 n1 c1, .slice a2 n2 c2, .int .i64 q.1.act, .int .i64 q.1.data]) := ⟨hq, e1, e2, hl4⟩
        have HB1 : Hid (∀ x, (Value.slice a1 n1 c1).ownBlock = some x → m j ≤ x ∧ x < m (j + 1) ∧ x ≠ g) := fun x hx => by
          obtain ⟨p1, p2, p3⟩ := hbl x (.inl hx)
          exact ⟨p1, p2, fun e => p3 (by rw [e])⟩
        have HB2 : Hid (∀ x, (Value.slice a2 n2 c2).ownBlock = some x → m j ≤ x ∧ x < m (j + 1) ∧ x ≠ g) := fun x hx => by
          obtain ⟨p1, p2, p3⟩ := hbl x (.inr hx)
          exact ⟨p1, p2, fun e => p3 (by rw [e])⟩
        have HNE : Hid (∀ x, (Value.slice a1 n1 c1).ownBlock = some x → (Value.slice a2 n2 c2).ownBlock ≠ some x) := hne
        have HSM : Hid (n1 ≤ 1048576 ∧ n2 ≤ 1048576) := ⟨by rw [e1]; exact hsm.1, by rw [e2]; exact hsm.2⟩
        have M1 : Hid (Calls Tryz.prog 87 #[.slice a1 n1 c1, .int .i64 (K : Int)] wr fun e w' => e = .returned (.int .i64 ((K : Int) + (n1 : Int))) ∧ (∃ a cap, Value.slice a1 n1 c1 = .slice a n1 cap ∧ Nums w' a (mkZ (K : Int) n1)) ∧ Chg wr w' (Value.slice a1 n1 c1).ownBlock) :=
          markZ_own _ HSM.out.1 (by omega) (by omega) o1 (fun b hb => HR.out.2.2.2.2.2.2.2.1 j b (Nat.le_refl _) (HB1.out b hb).1 (HB1.out b hb).2.1 (HB1.out b hb).2.2) (by have := HR.out.2.2.2.1; omega)
        have O2 : Hid (w.ownsRow (m j) 78 6 (.slice a2 n2 c2) n2 (flatC q.1.conds)) := o2
        obtain ⟨s0, s1, s2, s3⟩ := Seg.four hseg
        have HLT : Hid (j < n) := hlt
        clear hrx hbl hsm hl4 e1 e2 o1 o2 hne hseg hq hjp
        generalize hac : q.1.act = qa at *
        generalize hdc : q.1.data = qd at *
        go_wp2_with fail
        refine (show Calls Tryz.prog 87 _ _ _ from M1.out).mono ?_
        rintro e w2 ⟨rfl, hnu, hch⟩
        have X2 : Hid ((∃ a cap, Value.slice a1 n1 c1 = .slice a n1 cap ∧ Nums w2 a (mkZ (K : Int) n1)) ∧ Chg wr w2 (Value.slice a1 n1 c1).ownBlock) := ⟨hnu, hch⟩
        have hgb : w2.heap[g]? = wr.heap[g]? := hch.block g (fun e => (HB1.out g e).2.2 rfl)
        have t1 : w2.cell? ⟨g, j * 4 + 1, none⟩ = some (.slice a2 n2 c2) := (World.cell?_of_block (w := wr) (a := ⟨g, j * 4 + 1, none⟩) hgb).trans s1
        have M2 : Hid (Calls Tryz.prog 88 #[.slice a2 n2 c2, .int .i64 ((K : Int) + (n1 : Int))] w2 fun e w' => e = .returned (.int .i64 ((K : Int) + (n1 : Int) + 6 * (n2 : Int))) ∧ (∃ a cap, Value.slice a2 n2 c2 = .slice a n2 cap ∧ Conds w' a (mkC ((K : Int) + (n1 : Int)) n2)) ∧ Chg w2 w' (Value.slice a2 n2 c2).ownBlock) :=
          markC_own _ HSM.out.2 (by omega) (by have := HSM.out.1; omega) O2.out (fun b hb => (hch.block b (fun e => HNE.out b e hb)).trans (HR.out.2.2.2.2.2.2.2.1 j b (Nat.le_refl _) (HB2.out b hb).1 (HB2.out b hb).2.1 (HB2.out b hb).2.2)) (by have := HR.out.2.2.2.1; have := hch.size; omega)
        have bn1 : n1 ≤ 1048576 := HSM.out.1
        have bn2 : n2 ≤ 1048576 := HSM.out.2
        clear hnu hch M1 hgb s0 s1 s2 s3 O2
        go_wp2_with fail
        refine (show Calls Tryz.prog 88 _ _ _ from M2.out).mono ?_
        rintro e w3 ⟨rfl, hco, hch⟩
        have X3 : Hid ((∃ a cap, Value.slice a2 n2 c2 = .slice a n2 cap ∧ Conds w3 a (mkC ((K : Int) + (n1 : Int)) n2)) ∧ Chg w2 w3 (Value.slice a2 n2 c2).ownBlock) := ⟨hco, hch⟩
        have hgb : w3.heap[g]? = wr.heap[g]? := (hch.block g (fun e => (HB2.out g e).2.2 rfl)).trans (X2.out.2.block g (fun e => (HB1.out g e).2.2 rfl))
        have hfr : FreeN w3 g (n * 4) := free_keep HR.out.2.2.2.2.1 hgb (by have := hch.size; have := X2.out.2.size; omega)
        obtain ⟨⟨u2, q2⟩, f2⟩ := hfr.2 (j * 4 + 2) (by omega)
        obtain ⟨⟨u3, q3⟩, f3⟩ := hfr.2 (j * 4 + 3) (by omega)
        have HG3 : Hid (w3.heap[g]? = wr.heap[g]? ∧ FreeN w3 g (n * 4)) := ⟨hgb, hfr⟩
        clear hco hch M2 t1 hgb hfr
        go_wp2
        go_roundw
        case rel =>
          obtain ⟨hKe, hKb, hbel, hsz, hfre, hdone, hrest, hheap, hup⟩ := HR.out
          obtain ⟨⟨b1, d1, ev1, hnu⟩, hc2⟩ := X2.out
          obtain ⟨⟨b2, d2, ev2, hco⟩, hc3⟩ := X3.out
          obtain ⟨hq, e1, e2, hl4⟩ := HQ.out
          injection ev1 with ev1 _ _
          injection ev2 with ev2 _ _
          subst ev1 ev2
          -- the last world is w3 but block g's two cells
          have hW : ∀ b, b ≠ g → (putL w3 g (j * 4 + 2) [.int .i64 ((K : Int) + (n1 : Int) + 6 * (n2 : Int)), .int .i64 ((K : Int) + (n1 : Int) + 6 * (n2 : Int) + 1)]).heap[b]? = w3.heap[b]? := fun b hb => putL_block g hb _ _ _
          have hWs : (putL w3 g (j * 4 + 2) [.int .i64 ((K : Int) + (n1 : Int) + 6 * (n2 : Int)), .int .i64 ((K : Int) + (n1 : Int) + 6 * (n2 : Int) + 1)]).heap.size = w.heap.size := by rw [putL_size, hc3.size, hc2.size, hsz]
          have hall : ∀ b, b ≠ g → (Value.slice a1 n1 c1).ownBlock ≠ some b → (Value.slice a2 n2 c2).ownBlock ≠ some b → (putL w3 g (j * 4 + 2) [.int .i64 ((K : Int) + (n1 : Int) + 6 * (n2 : Int)), .int .i64 ((K : Int) + (n1 : Int) + 6 * (n2 : Int) + 1)]).heap[b]? = wr.heap[b]? := fun b hb h1 h2 => (hW b hb).trans ((hc3.block b h2).trans (hc2.block b h1))
          have hord : ∀ x, x < j → m (x + 1) ≤ m j := fun x hx => mono_lt H0.out.2.2.1 (by omega)
          have hord2 : ∀ x, j + 1 ≤ x → m (j + 1) ≤ m x := fun x hx => mono_lt H0.out.2.2.1 hx
          have hsegk : ∀ x l, x ≠ j → l.length ≤ 4 → Seg wr g (x * 4) l → Seg (putL w3 g (j * 4 + 2) [.int .i64 ((K : Int) + (n1 : Int) + 6 * (n2 : Int)), .int .i64 ((K : Int) + (n1 : Int) + 6 * (n2 : Int) + 1)]) g (x * 4) l := fun x l hx hl4 hs => (seg_keep hs HG3.out.1).putFar (.inr (by simp; omega))
          have hB : B ≤ m j := Nat.le_trans H0.out.2.2.2.1 (mono_lt H0.out.2.2.1 (Nat.zero_le j))
          have hget : (ps.map (·.1)).getD j r0 = q.1 := map_at hq
          have hlen : j < (ps.map (·.1)).length := by have := HN.out; have := HLT.out; simp; omega
          refine ⟨j + 1, K + n1 + 6 * n2 + 1 + 1, by simp, by go_num, by have := HLT.out; omega, by have := HSM.out; have := HLT.out; omega, ?_, by have := HSM.out; omega, ?_, hWs, ?_, ?_, ?_, ?_, ?_⟩
          · rw [sumR_take _ j hlen, hget, hKe]
            unfold wR
            omega
          · exact ⟨(hc3.os.trans hc2.os).trans hbel.os, (hc3.tape.trans hc2.tape).trans hbel.tape, (hc3.output.trans hc2.output).trans hbel.output, Nat.le_of_eq hWs.symm, fun b hb => by
              have hbg : b ≠ g := by have := H0.out.2.1; omega
              exact (hall b hbg (fun e => by have := (HB1.out b e).1; omega) (fun e => by have := (HB2.out b e).1; omega)).trans (hbel.block b hb)⟩
          · exact HG3.out.2.put g (j * 4 + 2) [.int .i64 ((K : Int) + (n1 : Int) + 6 * (n2 : Int)), .int .i64 ((K : Int) + (n1 : Int) + 6 * (n2 : Int) + 1)]
          · intro x qx hx hqx
            by_cases hxj : x = j
            · subst hxj
              rw [hq] at hqx
              injection hqx with hqx
              subst hqx
              refine ⟨[.slice a1 n1 c1, .slice a2 n2 c2, .int .i64 ((K : Int) + (n1 : Int) + 6 * (n2 : Int)), .int .i64 ((K : Int) + (n1 : Int) + 6 * (n2 : Int) + 1)], ?_, a1, n1, c1, a2, n2, c2, ?_, ?_, ?_, ?_, ?_, ?_, ?_⟩
              · have h1 := seg_keep (hrest x q (Nat.le_refl _) hq) HG3.out.1
                rw [hl4] at h1
                have h2 : Seg (putL w3 g (x * 4 + 2) [.int .i64 ((K : Int) + (n1 : Int) + 6 * (n2 : Int)), .int .i64 ((K : Int) + (n1 : Int) + 6 * (n2 : Int) + 1)]) g (x * 4 + 2) [.int .i64 ((K : Int) + (n1 : Int) + 6 * (n2 : Int)), .int .i64 ((K : Int) + (n1 : Int) + 6 * (n2 : Int) + 1)] := HG3.out.2.seg (by have := HLT.out; simp; omega)
                have h3 : Seg w3 g (x * 4) [.slice a1 n1 c1, .slice a2 n2 c2] := fun i u hu => h1 i u (by
                  match i, hu with
                  | 0, hu => exact hu
                  | 1, hu => exact hu
                  | i + 2, hu => simp at hu)
                have h4 := h3.putFar (g := g) (p := x * 4 + 2) (vs := [.int .i64 ((K : Int) + (n1 : Int) + 6 * (n2 : Int)), .int .i64 ((K : Int) + (n1 : Int) + 6 * (n2 : Int) + 1)]) (.inr (by simp))
                intro i u hu
                match i, hu with
                | 0, hu => exact h4 0 u hu
                | 1, hu => exact h4 1 u hu
                | 2, hu => exact h2 0 u hu
                | 3, hu => exact h2 1 u hu
                | i + 4, hu => simp at hu
              · unfold mkR
                simp only
                rw [← hKe, ← e1, ← e2]
              · simp [mkR, mkZ, e1]
              · simp [mkR, mkC, e2]
              · have h1 : Nums (putL w3 g (x * 4 + 2) [.int .i64 ((K : Int) + (n1 : Int) + 6 * (n2 : Int)), .int .i64 ((K : Int) + (n1 : Int) + 6 * (n2 : Int) + 1)]) a1 (mkZ (K : Int) n1) := nums_keep hnu (fun b o s e => by
                  have hb : (Value.slice a1 n1 c1).ownBlock = some b := by rw [e]; rfl
                  exact (hW b (HB1.out b hb).2.2).trans (hc3.block b (HNE.out b hb))) (by rw [putL_size, hc3.size]; exact Nat.le_refl _)
                unfold mkR
                simp only
                rw [← hKe, ← e1]
                exact h1
              · have h1 : Conds (putL w3 g (x * 4 + 2) [.int .i64 ((K : Int) + (n1 : Int) + 6 * (n2 : Int)), .int .i64 ((K : Int) + (n1 : Int) + 6 * (n2 : Int) + 1)]) a2 (mkC ((K : Int) + (n1 : Int)) n2) := conds_keep hco (fun b o s e => by
                  have hb : (Value.slice a2 n2 c2).ownBlock = some b := by rw [e]; rfl
                  exact hW b (HB2.out b hb).2.2) (by rw [putL_size]; exact Nat.le_refl _)
                unfold mkR
                simp only
                rw [← hKe, ← e1, ← e2]
                exact h1
              · exact fun b o s e => HB1.out b (by rw [e]; rfl)
              · exact fun b o s e => HB2.out b (by rw [e]; rfl)
            · obtain ⟨l, hsg, hrb⟩ := hdone x qx (by omega) hqx
              have h4 : l.length ≤ 4 := by obtain ⟨_, _, _, _, _, _, e, _⟩ := hrb; rw [e]; simp
              refine ⟨l, hsegk x l hxj h4 hsg, hrb.keep (fun b hb => ?_) (Nat.le_of_eq (hsz.trans hWs.symm))⟩
              have := hord x (by omega)
              exact hall b hb.2.2 (fun e => by have := (HB1.out b e).1; have := hb.2.1; omega) (fun e => by have := (HB2.out b e).1; have := hb.2.1; omega)
          · intro x qx hx hqx
            have h4 : qx.2.length ≤ 4 := by rw [((H0.out.2.2.2.2.1 x qx hqx).1.rule).2]; exact Nat.le_refl _
            exact hsegk x _ (by omega) h4 (hrest x qx (by omega) hqx)
          · intro x b hx h1 h2 h3
            have := hord2 x hx
            exact (hall b h3 (fun e => by have := (HB1.out b e).2.1; omega) (fun e => by have := (HB2.out b e).2.1; omega)).trans (hheap x b (by omega) h1 h2 h3)
          · intro b hb
            have hmz : m (j + 1) ≤ Z := Nat.le_trans (mono_lt H0.out.2.2.1 HLT.out) HZ.out.2
            exact (hall b (by have := HZ.out.1; omega) (fun e => by have := (HB1.out b e).2.1; omega) (fun e => by have := (HB2.out b e).2.1; omega)).trans (hup b hb)
        case measure => simp [intOf]; omega
      · have bk : ¬ ((j : Int) < (n : Int)) := by omega
        have hjn : j = n := by omega
        subst hjn
        go_wp2
        go_ret
        obtain ⟨hKe, hKb, hbel, hsz, hfre, hdone, hrest, hheap, hup⟩ := HR.out
        have htk : (ps.map (·.1)).take j = ps.map (·.1) := List.take_of_length_le (by rw [HN.out]; simp)
        refine ⟨ret_int (by rw [hKe, htk]; simp), ?_, hbel, hup⟩
        refine fun hp => ⟨g, 0, rfl, hfre.1, fun x hx => ?_⟩
        rw [mkRs_length] at hx
        have hxp : x < ps.length := by simpa using hx
        obtain ⟨l, hsg, hrb⟩ := hdone x ps[x] (by rw [HN.out]; exact hxp) (List.getElem?_eq_getElem hxp)
        rw [mkRs_at _ _ hx, Nat.zero_add, map_at (List.getElem?_eq_getElem hxp)]
        exact ⟨l, hsg, hrb.rule⟩

set_option maxRecDepth 100000 in
set_option maxHeartbeats 2000000 in
theorem heldRules_any (a : Option Addr) (cap n : Nat) (rs : List RN) (w : World) (hn : n = rs.length) (hl : rs.length ≤ 10) (hs : ∀ r ∈ rs, Small r) (h : Rules w a (mkRs rs)) :
    Calls Tryz.prog 48 #[.slice a n cap, .int .i64 1] w fun e w' => e = .returned (.int .i64 ((1 + sumR rs : Nat) : Int)) ∧ w = w' := by
  have HA : Hid (Rules w a (mkRs rs)) := h
  have HN : Hid (n = rs.length ∧ ∀ r ∈ rs, Small r) := ⟨hn, hs⟩
  have hl' : n ≤ 10 := by omega
  clear h hn hl hs
  have HTK : Hid (sumR (rs.take 0) = 0) := by simp [Hid, sumR]
  go_enter Tryz.func48, Tryz.ntmps48
  go_wp2
  go_loopw [1, 5] (fun kv i wr => ∃ (j : Nat) (K : Nat), kv = .int .i64 (K : Int) ∧ i = .int .i64 j ∧ j ≤ n ∧ K ≤ 100000000 ∧ Hid (K = 1 + sumR (rs.take j) ∧ K ≤ 1 + 8000000 * j) ∧ w = wr) (fun _ i _ => n - (intOf i).toNat)
  case atStart => exact ⟨0, 1, rfl, rfl, by omega, by omega, ⟨by rw [HTK.out], by omega⟩, rfl⟩
  case round =>
    obtain ⟨j, K, rfl, rfl, hj, hK, HK, rfl⟩ := hrel
    by_cases hlt : j < n
    · have bk : (j : Int) < (n : Int) := by omega
      have hjr : j < rs.length := by have := HN.out.1; omega
      obtain ⟨b, off, l, rfl, ⟨hb, hsg⟩, hrl⟩ := HA.out.at (k := j) (by rw [mkRs_length]; exact hjr)
      rw [mkRs_at _ _ hjr, ← HK.out.1] at hrl
      have hsm : Small (rs.getD j r0) := by
        rw [List.getD_eq_getElem?_getD, List.getElem?_eq_getElem hjr]
        exact HN.out.2 _ (List.getElem_mem hjr)
      have HS : Hid (sumR (rs.take (j + 1)) = sumR (rs.take j) + wR (rs.getD j r0)) := sumR_take rs j hjr
      generalize rs.getD j r0 = r at *
      obtain ⟨a1, n1, c1, a2, n2, c2, rfl, e1, e2, h1, h2⟩ := hrl
      simp only [mkR, mkZ_length, mkC_length] at e1 e2 h1 h2 hsg
      have M1 : Hid (Calls Tryz.prog 89 #[.slice a1 n1 c1, .int .i64 (K : Int)] w fun e w' => e = .returned (.int .i64 ((K : Int) + (n1 : Int))) ∧ w = w') := heldZ_any a1 n1 c1 _ w (by rw [e1]; exact hsm.1) (by omega) (by omega) (by rw [e1]; exact h1)
      have M2 : Hid (Calls Tryz.prog 90 #[.slice a2 n2 c2, .int .i64 ((K : Int) + (n1 : Int))] w fun e w' => e = .returned (.int .i64 ((K : Int) + (n1 : Int) + 6 * (n2 : Int))) ∧ w = w') := heldC_any a2 n2 c2 _ w (by rw [e2]; exact hsm.2) (by omega) (by have := hsm.1; omega) (by rw [e1, e2]; exact h2)
      rw [← e1, ← e2] at hsg
      obtain ⟨s0, s1, s2, s3⟩ := Seg.four hsg
      have bn1 : n1 ≤ 1048576 := by rw [e1]; exact hsm.1
      have bn2 : n2 ≤ 1048576 := by rw [e2]; exact hsm.2
      have g1 : ¬ ((K : Int) + (n1 : Int) < 0) := by omega
      have g2 : ¬ ((K : Int) + (n1 : Int) + 6 * (n2 : Int) < 0) := by omega
      have HE : Hid (wR r = n1 + 6 * n2 + 2 ∧ j < n ∧ n1 ≤ 1048576 ∧ n2 ≤ 1048576) := ⟨by unfold wR; rw [← e1, ← e2], hlt, bn1, bn2⟩
      clear hsg h1 h2 e1 e2 hsm hjr hb
      go_wp2_with fail
      refine (show Calls Tryz.prog 89 _ _ _ from M1.out).mono ?_
      rintro e w' ⟨rfl, rfl⟩
      clear M1
      go_wp2_with fail
      refine (show Calls Tryz.prog 90 _ _ _ from M2.out).mono ?_
      rintro e w' ⟨rfl, rfl⟩
      clear M2
      go_wp2
      go_roundw
      case rel =>
        have h1 := HK.out
        have h2 := HE.out
        have h3 := HS.out
        exact ⟨j + 1, K + n1 + 6 * n2 + 1 + 1, by simp, by go_num, by omega, by omega, ⟨by omega, by omega⟩, by first | rfl | trivial⟩
      case measure => simp [intOf]; omega
    · have bk : ¬ ((j : Int) < (n : Int)) := by omega
      have hjn : j = n := by omega
      subst hjn
      have HKE : Hid (K = 1 + sumR rs) := by
        have h1 := HK.out.1
        rw [List.take_of_length_le (by have := HN.out.1; omega)] at h1
        exact h1
      go_wp2
      go_ret
      exact ⟨ret_int (by rw [HKE.out]; simp), rfl⟩

set_option maxRecDepth 100000 in
theorem markPol_any {B Z : Nat} {w : World} {v : Value} {ps : List (RN × List Value)} (ar ac da : Int) (ho : w.ownsRow B 53 4 v ps.length (ps.flatMap (·.2))) (hr : RowsX B Z w v.ownBlock ps) (hZ : ∀ x, v.ownBlock = some x → x < Z) (hB : B ≤ w.heap.size) (hl : ps.length ≤ 10) (hs : ∀ q ∈ ps, Small q.1) :
    Calls Tryz.prog 17 #[.agg #[.int .i64 ar, .int .i64 ac, .int .i64 da, v], .int .i64 1] w fun e w' => e = .returned (.int .i64 ((1 + sumR (ps.map (·.1)) : Nat) : Int)) ∧ (∃ a cap, v = .slice a ps.length cap ∧ Rules w' a (mkRs (ps.map (·.1)))) ∧ Below B w w' ∧ ∀ b, Z ≤ b → b < w.heap.size → w'.heap[b]? = w.heap[b]? := by
  obtain ⟨a, cap, rfl⟩ := own_slice ho
  obtain ⟨K, hK⟩ : ∃ K, K = 1 + sumR (ps.map (·.1)) := ⟨_, rfl⟩
  obtain ⟨n, hn⟩ : ∃ n, n = ps.length := ⟨_, rfl⟩
  have H1 : Hid (Calls Tryz.prog 47 #[.slice a n cap, .int .i64 1] (w.alloc (.cells #[.int .i64 ar, .int .i64 ac, .int .i64 da, .slice a n cap] 26)) fun e w' => e = .returned (.int .i64 (K : Int)) ∧ (∃ a' cap', Value.slice a n cap = .slice a' n cap' ∧ Rules w' a' (mkRs (ps.map (·.1)))) ∧ Below B (w.alloc (.cells #[.int .i64 ar, .int .i64 ac, .int .i64 da, .slice a n cap] 26)) w' ∧ ∀ b, Z ≤ b → w'.heap[b]? = (w.alloc (.cells #[.int .i64 ar, .int .i64 ac, .int .i64 da, .slice a n cap] 26)).heap[b]?) := by
    rw [hK, hn]
    exact markRules_any (own_ext ho (Ext.one _ _)) (hr.stay (Ext.one _ _)) hZ hl hs
  have K0 : Hid (Kn (w.alloc (.cells #[.int .i64 ar, .int .i64 ac, .int .i64 da, .slice a n cap] 26)) w.heap.size [.int .i64 ar, .int .i64 ac, .int .i64 da, .slice a n cap] 26 ∧ Below B w (w.alloc (.cells #[.int .i64 ar, .int .i64 ac, .int .i64 da, .slice a n cap] 26)) ∧ ∀ b, b < w.heap.size → (w.alloc (.cells #[.int .i64 ar, .int .i64 ac, .int .i64 da, .slice a n cap] 26)).heap[b]? = w.heap[b]?) := ⟨Kn.new w _ _, (Below.refl _ _).alloc hB _, fun b hb => (Ext.one w _).block b hb⟩
  rw [← hK, ← hn]
  clear ho hr hZ hl hs hK hn
  go_enter Tryz.func17, Tryz.ntmps17
  have c3 := K0.out.1.cell 3 _ rfl
  go_wp2_with fail
  generalize w.alloc (.cells #[.int .i64 ar, .int .i64 ac, .int .i64 da, .slice a n cap] 26) = W0 at *
  refine (show Calls Tryz.prog 47 _ _ _ from H1.out).mono ?_
  rintro e w1 ⟨rfl, hr, hb, hup⟩
  have X1 : Hid ((∃ a' cap', Value.slice a n cap = .slice a' n cap' ∧ Rules w1 a' (mkRs (ps.map (·.1)))) ∧ Below B w w1 ∧ ∀ b, Z ≤ b → b < w.heap.size → w1.heap[b]? = w.heap[b]?) := ⟨hr, K0.out.2.1.trans hb, fun b h1 h2 => (hup b h1).trans (K0.out.2.2 b h2)⟩
  clear hr hb hup H1 c3
  go_wp2
  go_ret
  obtain ⟨⟨a', cap', e, hr⟩, hb, hup⟩ := X1.out
  injection e with e1 e2 e3
  subst e1
  exact ⟨rfl, ⟨_, _, rfl, hr⟩, hb, hup⟩

set_option maxRecDepth 100000 in
theorem heldPol_any (ar ac da : Int) (a : Option Addr) (cap n : Nat) (rs : List RN) (w : World) (hn : n = rs.length) (hl : rs.length ≤ 10) (hs : ∀ r ∈ rs, Small r) (h : Rules w a (mkRs rs)) :
    Calls Tryz.prog 18 #[.agg #[.int .i64 ar, .int .i64 ac, .int .i64 da, .slice a n cap], .int .i64 1] w fun e w' => e = .returned (.int .i64 ((1 + sumR rs : Nat) : Int)) ∧ Ext w w' := by
  obtain ⟨K, hK⟩ : ∃ K, K = 1 + sumR rs := ⟨_, rfl⟩
  have H1 : Hid (Calls Tryz.prog 48 #[.slice a n cap, .int .i64 1] (w.alloc (.cells #[.int .i64 ar, .int .i64 ac, .int .i64 da, .slice a n cap] 26)) fun e w' => e = .returned (.int .i64 (K : Int)) ∧ (w.alloc (.cells #[.int .i64 ar, .int .i64 ac, .int .i64 da, .slice a n cap] 26)) = w') := by
    rw [hK]
    exact heldRules_any a cap n rs _ hn hl hs (h.step (Ext.one _ _))
  have K0 : Hid (Kn (w.alloc (.cells #[.int .i64 ar, .int .i64 ac, .int .i64 da, .slice a n cap] 26)) w.heap.size [.int .i64 ar, .int .i64 ac, .int .i64 da, .slice a n cap] 26 ∧ Ext w (w.alloc (.cells #[.int .i64 ar, .int .i64 ac, .int .i64 da, .slice a n cap] 26))) := ⟨Kn.new w _ _, Ext.one _ _⟩
  have k0 : ¬ ((K : Int) < 0) := by omega
  rw [← hK]
  clear h hl hs hK hn
  go_enter Tryz.func18, Tryz.ntmps18
  have c3 := K0.out.1.cell 3 _ rfl
  go_wp2_with fail
  generalize w.alloc (.cells #[.int .i64 ar, .int .i64 ac, .int .i64 da, .slice a n cap] 26) = W0 at *
  refine (show Calls Tryz.prog 48 _ _ _ from H1.out).mono ?_
  rintro e w1 ⟨rfl, rfl⟩
  clear H1 c3
  go_wp2
  go_ret
  exact ⟨rfl, K0.out.2⟩

end Go.Proofs.YtojaohdmfahpmaaGreatDoor
