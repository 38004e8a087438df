/- Spec's reader of signs: an action, a wide number, a condition. -/
import Derived.Test.YtojaohdmfahpmaaGreatDoorPolPack22
namespace Go.Proofs.YtojaohdmfahpmaaGreatDoor
open Go.RowKit
set_option linter.unusedVariables false

theorem names_at {k : Nat} (h : k < 6) : namesV[k]? = some (.string (txt (actL.getD k []))) := by
  have : k = 0 ∨ k = 1 ∨ k = 2 ∨ k = 3 ∨ k = 4 ∨ k = 5 := by omega
  rcases this with rfl | rfl | rfl | rfl | rfl | rfl <;> rfl

theorem txt_eqB (x y : List UInt8) : ((txt x).toList == (txt y).toList) = (x == y) := by
  rw [Bool.eq_iff_iff]
  simp only [beq_iff_eq]
  exact ⟨fun e => txt_inj (ByteArray.ext (Array.toList_inj.1 (by simpa [ByteArray.toList_eq] using e))), fun e => by rw [e]⟩

set_option maxRecDepth 100000 in
set_option maxHeartbeats 1000000 in
theorem xAction_any {w : World} {p : Nat} {a : Option Addr} {cap : Nat} {G : List Sg} {s : Option Nat} (h : RdS w p a cap G s) :
    Calls Tryz.prog 34 #[.pointer (some ⟨p, 0, none⟩)] w fun e w' => e = .returned (pairV (sAct G s).1) ∧ RdS w' p a cap G (sAct G s).2 ∧ GB p w w' := by
  have HN : Hid _ := xName_any h
  have HM : Hid (sAct G s = (match findT actL (sName G s).1 with
    | none => ((0, 0), none)
    | some k => if sHas G (sName G s).2 then (((k : Int), (sNum G (sName G s).2).1), (sNum G (sName G s).2).2) else (((k : Int), 0), (sName G s).2))) := rfl
  have HA : Hid (actN (sName G s).1 6 = (match findT actL (sName G s).1 with
    | none => -1
    | some k => (k : Int))) := actN_find _
  clear h
  generalize (sName G s).1 = t at *
  generalize (sName G s).2 = s1 at *
  obtain ⟨st, hst⟩ : ∃ st, st = txt t := ⟨_, rfl⟩
  rw [← hst] at HN
  have HST : Hid (st = txt t) := hst
  clear hst
  cases ef : findT actL t with
  | none =>
    rw [ef] at HM HA
    have HM2 : Hid (sAct G s = ((0, 0), none)) := HM.out
    have HA : Hid (actN t 6 = -1) := HA.out
    rw [HM2.out]
    clear HM HM2 ef
    go_enter Tryz.func34, Tryz.ntmps34
    go_wp2_with fail
    refine (show Calls Tryz.prog 75 _ _ _ from HN.out).mono ?_
    rintro e w1 ⟨rfl, r1, g1⟩
    go_wp2_with fail
    refine (names_any _).mono ?_
    rintro e w2 ⟨rfl, hw2⟩
    have HCL : Hid (∀ k, k < 6 → w2.cell? ⟨w1.heap.size, k, none⟩ = some (.string (txt (actL.getD k [])))) := fun k hk => by
      rw [hw2, cell_of_row _ _ k namesV.toArray 9 (0, 0) (heap_alloc_new w1 _)]
      simpa using names_at hk
    have X2 : Hid (RdS w2 p a cap G s1 ∧ GB p w w2) := by rw [hw2]; exact ⟨r1.step (Ext.one _ _), gb_alloc g1 _⟩
    clear hw2 r1 g1 HN
    generalize w1.heap.size = b at *
    go_wp2_with fail
    go_loop [6, 7] (fun av iv => ∃ k : Nat, iv = .int .i64 k ∧ av = .int .i64 (actN t k) ∧ k ≤ 6) (fun _ iv => 6 - (intOf iv).toNat)
    case atStart => exact ⟨0, rfl, rfl, by omega⟩
    case round =>
      obtain ⟨k, rfl, rfl, hk⟩ := hrel
      by_cases hlt : k < 6
      · have bk : (k : Int) < 6 := by omega
        have ck := HCL.out k hlt
        have heq := txt_eqB (actL.getD k []) t
        rw [← HST.out] at heq
        have HS : Hid (actN t (k + 1) = if actL.getD k [] == t then (k : Int) else actN t k) := rfl
        generalize (actL.getD k [] == t) = z at *
        generalize txt (actL.getD k []) = nm at *
        generalize actN t k = A at *
        cases z
        · go_wp2
          go_round
          case rel => exact ⟨k + 1, by go_num, by rw [HS.out]; rfl, by omega⟩
          case measure => simp [intOf]; omega
        · go_wp2
          go_round
          case rel => exact ⟨k + 1, by go_num, by rw [HS.out]; rfl, by omega⟩
          case measure => simp [intOf]; omega
      · have bk : ¬ ((k : Int) < 6) := by omega
        obtain rfl : k = 6 := by omega
        rw [HA.out]
        clear HCL HA HST
        obtain ⟨i, bb, hK, _⟩ := X2.out.1
        have c2 := hK.cell 2 _ rfl
        have f1 := hK.free
        clear hK
        go_wp2
        go_ret2
        exact ⟨rfl, X2.out.1.bad, gb_trans X2.out.2 (gb_set _ _ _ _)⟩
  | some c =>
    have hc : c < 6 := by
      have := (List.findIdx?_eq_some_iff_getElem.1 ef).1
      simpa [actL] using this
    rw [ef] at HM HA
    have HA : Hid (actN t 6 = (c : Int)) := HA.out
    have HM2 : Hid (sAct G s = if sHas G s1 then (((c : Int), (sNum G s1).1), (sNum G s1).2) else (((c : Int), 0), s1)) := HM.out
    clear HM ef
    cases en : sHas G s1
    · rw [en] at HM2
      have HM3 : Hid (sAct G s = (((c : Int), 0), s1)) := HM2.out
      rw [HM3.out]
      clear HM2 HM3
      have EN : Hid (sHas G s1 = false) := en
      clear en
      go_enter Tryz.func34, Tryz.ntmps34
      go_wp2_with fail
      refine (show Calls Tryz.prog 75 _ _ _ from HN.out).mono ?_
      rintro e w1 ⟨rfl, r1, g1⟩
      go_wp2_with fail
      refine (names_any _).mono ?_
      rintro e w2 ⟨rfl, hw2⟩
      have HCL : Hid (∀ k, k < 6 → w2.cell? ⟨w1.heap.size, k, none⟩ = some (.string (txt (actL.getD k [])))) := fun k hk => by
        rw [hw2, cell_of_row _ _ k namesV.toArray 9 (0, 0) (heap_alloc_new w1 _)]
        simpa using names_at hk
      have X2 : Hid (RdS w2 p a cap G s1 ∧ GB p w w2) := by rw [hw2]; exact ⟨r1.step (Ext.one _ _), gb_alloc g1 _⟩
      clear hw2 r1 g1 HN
      generalize w1.heap.size = b at *
      go_wp2_with fail
      go_loop [6, 7] (fun av iv => ∃ k : Nat, iv = .int .i64 k ∧ av = .int .i64 (actN t k) ∧ k ≤ 6) (fun _ iv => 6 - (intOf iv).toNat)
      case atStart => exact ⟨0, rfl, rfl, by omega⟩
      case round =>
        obtain ⟨k, rfl, rfl, hk⟩ := hrel
        by_cases hlt : k < 6
        · have bk : (k : Int) < 6 := by omega
          have ck := HCL.out k hlt
          have heq := txt_eqB (actL.getD k []) t
          rw [← HST.out] at heq
          have HS : Hid (actN t (k + 1) = if actL.getD k [] == t then (k : Int) else actN t k) := rfl
          generalize (actL.getD k [] == t) = z at *
          generalize txt (actL.getD k []) = nm at *
          generalize actN t k = A at *
          cases z
          · go_wp2
            go_round
            case rel => exact ⟨k + 1, by go_num, by rw [HS.out]; rfl, by omega⟩
            case measure => simp [intOf]; omega
          · go_wp2
            go_round
            case rel => exact ⟨k + 1, by go_num, by rw [HS.out]; rfl, by omega⟩
            case measure => simp [intOf]; omega
        · have bk : ¬ ((k : Int) < 6) := by omega
          obtain rfl : k = 6 := by omega
          rw [HA.out]
          clear HCL HA HST
          have c0 : ¬ ((c : Int) < 0) := by omega
          have H3 : Hid (Calls Tryz.prog 74 #[.pointer (some ⟨p, 0, none⟩)] w2 fun e w' => e = .returned (.bool false) ∧ Ext w2 w') := by rw [← EN.out]; exact hasNum_any X2.out.1
          go_wp2_with fail
          refine (show Calls Tryz.prog 74 _ _ _ from H3.out).mono ?_
          rintro e w3 ⟨rfl, x3⟩
          have X3 : Hid (RdS w3 p a cap G s1 ∧ GB p w w3) := ⟨X2.out.1.step x3, gb_trans X2.out.2 (gb_ext x3)⟩
          clear x3 H3 X2
          go_wp2
          go_ret2
          exact ⟨rfl, X3.out⟩
    · rw [en] at HM2
      have HM3 : Hid (sAct G s = (((c : Int), (sNum G s1).1), (sNum G s1).2)) := HM2.out
      rw [HM3.out]
      clear HM2 HM3
      have EN : Hid (sHas G s1 = true) := en
      clear en
      have H4 : Hid (∀ {W}, RdS W p a cap G s1 → Calls Tryz.prog 33 #[.pointer (some ⟨p, 0, none⟩)] W fun e w' => e = .returned (.int .i64 (sNum G s1).1) ∧ RdS w' p a cap G (sNum G s1).2 ∧ GB p W w') := fun {W} hW => xNum_any hW
      generalize (sNum G s1).1 = d at *
      generalize (sNum G s1).2 = s2 at *
      go_enter Tryz.func34, Tryz.ntmps34
      go_wp2_with fail
      refine (show Calls Tryz.prog 75 _ _ _ from HN.out).mono ?_
      rintro e w1 ⟨rfl, r1, g1⟩
      go_wp2_with fail
      refine (names_any _).mono ?_
      rintro e w2 ⟨rfl, hw2⟩
      have HCL : Hid (∀ k, k < 6 → w2.cell? ⟨w1.heap.size, k, none⟩ = some (.string (txt (actL.getD k [])))) := fun k hk => by
        rw [hw2, cell_of_row _ _ k namesV.toArray 9 (0, 0) (heap_alloc_new w1 _)]
        simpa using names_at hk
      have X2 : Hid (RdS w2 p a cap G s1 ∧ GB p w w2) := by rw [hw2]; exact ⟨r1.step (Ext.one _ _), gb_alloc g1 _⟩
      clear hw2 r1 g1 HN
      generalize w1.heap.size = b at *
      go_wp2_with fail
      go_loop [6, 7] (fun av iv => ∃ k : Nat, iv = .int .i64 k ∧ av = .int .i64 (actN t k) ∧ k ≤ 6) (fun _ iv => 6 - (intOf iv).toNat)
      case atStart => exact ⟨0, rfl, rfl, by omega⟩
      case round =>
        obtain ⟨k, rfl, rfl, hk⟩ := hrel
        by_cases hlt : k < 6
        · have bk : (k : Int) < 6 := by omega
          have ck := HCL.out k hlt
          have heq := txt_eqB (actL.getD k []) t
          rw [← HST.out] at heq
          have HS : Hid (actN t (k + 1) = if actL.getD k [] == t then (k : Int) else actN t k) := rfl
          generalize (actL.getD k [] == t) = z at *
          generalize txt (actL.getD k []) = nm at *
          generalize actN t k = A at *
          cases z
          · go_wp2
            go_round
            case rel => exact ⟨k + 1, by go_num, by rw [HS.out]; rfl, by omega⟩
            case measure => simp [intOf]; omega
          · go_wp2
            go_round
            case rel => exact ⟨k + 1, by go_num, by rw [HS.out]; rfl, by omega⟩
            case measure => simp [intOf]; omega
        · have bk : ¬ ((k : Int) < 6) := by omega
          obtain rfl : k = 6 := by omega
          rw [HA.out]
          clear HCL HA HST
          have c0 : ¬ ((c : Int) < 0) := by omega
          have H3 : Hid (Calls Tryz.prog 74 #[.pointer (some ⟨p, 0, none⟩)] w2 fun e w' => e = .returned (.bool true) ∧ Ext w2 w') := by rw [← EN.out]; exact hasNum_any X2.out.1
          go_wp2_with fail
          refine (show Calls Tryz.prog 74 _ _ _ from H3.out).mono ?_
          rintro e w3 ⟨rfl, x3⟩
          have X3 : Hid (RdS w3 p a cap G s1 ∧ GB p w w3) := ⟨X2.out.1.step x3, gb_trans X2.out.2 (gb_ext x3)⟩
          clear x3 H3 X2
          go_wp2_with fail
          refine (show Calls Tryz.prog 33 _ _ _ from H4.out X3.out.1).mono ?_
          rintro e w4 ⟨rfl, r4, g4⟩
          have X4 : Hid (RdS w4 p a cap G s2 ∧ GB p w w4) := ⟨r4, gb_trans X3.out.2 g4⟩
          clear r4 g4 H4 X3
          go_wp2
          go_ret2
          exact ⟨rfl, X4.out⟩

set_option maxRecDepth 100000 in
set_option maxHeartbeats 1000000 in
theorem xWide_any {w : World} {p : Nat} {a : Option Addr} {cap : Nat} {G : List Sg} {s : Option Nat} (h : RdS w p a cap G s) :
    Calls Tryz.prog 116 #[.pointer (some ⟨p, 0, none⟩)] w fun e w' => e = .returned (wideV (sWide G s).1) ∧ RdS w' p a cap G (sWide G s).2 ∧ GB p w w' := by
  have hp := h.lt
  have X0 : Hid (RdS (w.alloc (.cells #[.int .i64 0, .int .i64 0] 76)) p a cap G s ∧ GB p w (w.alloc (.cells #[.int .i64 0, .int .i64 0] 76)) ∧ Kn (w.alloc (.cells #[.int .i64 0, .int .i64 0] 76)) w.heap.size [.int .i64 0, .int .i64 0] 76) := ⟨h.step (Ext.one _ _), gb_ext (Ext.one _ _), Kn.new w _ _⟩
  have H0 : Hid (RdS w p a cap G s ∧ p < w.heap.size) := ⟨h, hp⟩
  have H1 : Hid (Calls Tryz.prog 33 #[.pointer (some ⟨p, 0, none⟩)] (w.alloc (.cells #[.int .i64 0, .int .i64 0] 76)) fun e w' => e = .returned (.int .i64 (sNum G s).1) ∧ RdS w' p a cap G (sNum G s).2 ∧ GB p (w.alloc (.cells #[.int .i64 0, .int .i64 0] 76)) w') := xNum_any X0.out.1
  have HM : Hid (sWide G s = if sIs G (sNum G s).2 3 tColon then (((sNum G s).1, (sNum G (nx (sNum G s).2)).1), (sNum G (nx (sNum G s).2)).2) else ((0, (sNum G s).1), (sNum G s).2)) := rfl
  clear h hp
  generalize (sNum G s).1 = n at *
  generalize (sNum G s).2 = s1 at *
  have H2 : Hid (∀ {W}, RdS W p a cap G s1 → Calls Tryz.prog 73 #[.pointer (some ⟨p, 0, none⟩), .int .i64 3, .string ⟨#[58]⟩] W fun e w' => e = .returned (.bool (sIs G s1 3 tColon)) ∧ RdS w' p a cap G (sTk G s1 3 tColon) ∧ GB p W w') := fun {W} hW => takes_any 3 tColon hW
  rw [show sTk G s1 3 tColon = if sIs G s1 3 tColon then nx s1 else s1 from rfl] at H2
  generalize sIs G s1 3 tColon = z at *
  cases z
  · have HM2 : Hid (sWide G s = ((0, n), s1)) := HM.out
    rw [HM2.out]
    clear HM HM2
    go_enter Tryz.func116, Tryz.ntmps116
    go_wp2_with fail
    generalize w.alloc (.cells #[.int .i64 0, .int .i64 0] 76) = W0 at *
    refine (show Calls Tryz.prog 33 _ _ _ from H1.out).mono ?_
    rintro e w1 ⟨rfl, r1, g1⟩
    have X1 : Hid (RdS w1 p a cap G s1 ∧ GB p w w1 ∧ Kn w1 w.heap.size [.int .i64 0, .int .i64 0] 76) := ⟨r1, gb_trans X0.out.2.1 g1, X0.out.2.2.gb (by have := H0.out.2; omega) g1⟩
    clear r1 g1 H1 X0
    go_wp2_with fail
    refine (show Calls Tryz.prog 73 _ _ _ from H2.out X1.out.1).mono ?_
    rintro e w2 ⟨rfl, r2, g2⟩
    have X2 : Hid (RdS w2 p a cap G s1 ∧ GB p w w2 ∧ Kn w2 w.heap.size [.int .i64 0, .int .i64 0] 76) := ⟨r2, gb_trans X1.out.2.1 g2, X1.out.2.2.gb (by have := H0.out.2; omega) g2⟩
    clear r2 g2 H2 X1
    have K2 := X2.out.2.2
    have f1 := K2.free
    obtain ⟨c0, c1⟩ := (⟨K2.cell 0 _ rfl, K2.cell 1 _ rfl⟩ : _ ∧ _)
    have XB : Hid (RdS ((w2.setCell ⟨w.heap.size, 0, none⟩ (.int .i64 0)).setCell ⟨w.heap.size, 1, none⟩ (.int .i64 n)) p a cap G s1 ∧ GB p w ((w2.setCell ⟨w.heap.size, 0, none⟩ (.int .i64 0)).setCell ⟨w.heap.size, 1, none⟩ (.int .i64 n)) ∧ Kn ((w2.setCell ⟨w.heap.size, 0, none⟩ (.int .i64 0)).setCell ⟨w.heap.size, 1, none⟩ (.int .i64 n)) w.heap.size [.int .i64 0, .int .i64 n] 76) :=
      ⟨H0.out.1.fresh (H0.out.1.fresh X2.out.1 (Nat.le_refl _)) (Nat.le_refl _), gb_fresh (gb_fresh X2.out.2.1 (Nat.le_refl _)) (Nat.le_refl _), (K2.set 0 _).set 1 _⟩
    clear X2 K2
    go_wp2
    generalize ((w2.setCell ⟨w.heap.size, 0, none⟩ (.int .i64 0)).setCell ⟨w.heap.size, 1, none⟩ (.int .i64 n)) = WB at *
    clear c0 c1 f1
    obtain ⟨c0, c1⟩ := (⟨XB.out.2.2.cell 0 _ rfl, XB.out.2.2.cell 1 _ rfl⟩ : _ ∧ _)
    refine bodyPost_ret (v := .agg #[.int .i64 0, .int .i64 n]) (by simp [results, Tryz.results116, go_sem, *]) rfl ?_
    exact ⟨rfl, XB.out.1, XB.out.2.1⟩
  · have HM2 : Hid (sWide G s = ((n, (sNum G (nx s1)).1), (sNum G (nx s1)).2)) := HM.out
    rw [HM2.out]
    clear HM HM2
    have H3 : Hid (∀ {W}, RdS W p a cap G (nx s1) → Calls Tryz.prog 33 #[.pointer (some ⟨p, 0, none⟩)] W fun e w' => e = .returned (.int .i64 (sNum G (nx s1)).1) ∧ RdS w' p a cap G (sNum G (nx s1)).2 ∧ GB p W w') := fun {W} hW => xNum_any hW
    generalize (sNum G (nx s1)).1 = m at *
    generalize (sNum G (nx s1)).2 = s3 at *
    go_enter Tryz.func116, Tryz.ntmps116
    go_wp2_with fail
    generalize w.alloc (.cells #[.int .i64 0, .int .i64 0] 76) = W0 at *
    refine (show Calls Tryz.prog 33 _ _ _ from H1.out).mono ?_
    rintro e w1 ⟨rfl, r1, g1⟩
    have X1 : Hid (RdS w1 p a cap G s1 ∧ GB p w w1 ∧ Kn w1 w.heap.size [.int .i64 0, .int .i64 0] 76) := ⟨r1, gb_trans X0.out.2.1 g1, X0.out.2.2.gb (by have := H0.out.2; omega) g1⟩
    clear r1 g1 H1 X0
    go_wp2_with fail
    refine (show Calls Tryz.prog 73 _ _ _ from H2.out X1.out.1).mono ?_
    rintro e w2 ⟨rfl, r2, g2⟩
    have X2 : Hid (RdS w2 p a cap G (nx s1) ∧ GB p w w2 ∧ Kn w2 w.heap.size [.int .i64 0, .int .i64 0] 76) := ⟨r2, gb_trans X1.out.2.1 g2, X1.out.2.2.gb (by have := H0.out.2; omega) g2⟩
    clear r2 g2 H2 X1
    go_wp2_with fail
    refine (show Calls Tryz.prog 33 _ _ _ from H3.out X2.out.1).mono ?_
    rintro e w3 ⟨rfl, r3, g3⟩
    have X3 : Hid (RdS w3 p a cap G s3 ∧ GB p w w3 ∧ Kn w3 w.heap.size [.int .i64 0, .int .i64 0] 76) := ⟨r3, gb_trans X2.out.2.1 g3, X2.out.2.2.gb (by have := H0.out.2; omega) g3⟩
    clear r3 g3 H3 X2
    have K2 := X3.out.2.2
    have f1 := K2.free
    obtain ⟨c0, c1⟩ := (⟨K2.cell 0 _ rfl, K2.cell 1 _ rfl⟩ : _ ∧ _)
    have XB : Hid (RdS ((w3.setCell ⟨w.heap.size, 0, none⟩ (.int .i64 n)).setCell ⟨w.heap.size, 1, none⟩ (.int .i64 m)) p a cap G s3 ∧ GB p w ((w3.setCell ⟨w.heap.size, 0, none⟩ (.int .i64 n)).setCell ⟨w.heap.size, 1, none⟩ (.int .i64 m)) ∧ Kn ((w3.setCell ⟨w.heap.size, 0, none⟩ (.int .i64 n)).setCell ⟨w.heap.size, 1, none⟩ (.int .i64 m)) w.heap.size [.int .i64 n, .int .i64 m] 76) :=
      ⟨H0.out.1.fresh (H0.out.1.fresh X3.out.1 (Nat.le_refl _)) (Nat.le_refl _), gb_fresh (gb_fresh X3.out.2.1 (Nat.le_refl _)) (Nat.le_refl _), (K2.set 0 _).set 1 _⟩
    clear X3 K2
    go_wp2
    generalize ((w3.setCell ⟨w.heap.size, 0, none⟩ (.int .i64 n)).setCell ⟨w.heap.size, 1, none⟩ (.int .i64 m)) = WB at *
    clear c0 c1 f1
    obtain ⟨c0, c1⟩ := (⟨XB.out.2.2.cell 0 _ rfl, XB.out.2.2.cell 1 _ rfl⟩ : _ ∧ _)
    refine bodyPost_ret (v := .agg #[.int .i64 n, .int .i64 m]) (by simp [results, Tryz.results116, go_sem, *]) rfl ?_
    exact ⟨rfl, XB.out.1, XB.out.2.1⟩

def cmsV : List Value := [.string ⟨#[]⟩, .string ⟨#[61, 61]⟩, .string ⟨#[33, 61]⟩, .string ⟨#[60]⟩, .string ⟨#[60, 61]⟩, .string ⟨#[62]⟩, .string ⟨#[62, 61]⟩]

theorem xcms_any (w : World) : Calls Tryz.prog 83 #[] w fun e w' => e = .returned (.slice (some ⟨w.heap.size, 0, none⟩) 7 7) ∧ w' = w.alloc (.cells cmsV.toArray 9) := by
  go_enter Tryz.func83, Tryz.ntmps83
  go_wp2
  go_ret
  exact ⟨rfl, rfl⟩

theorem xcms_at {k : Nat} (h : k < 7) : cmsV[k]? = some (.string (txt (cmT k))) := by
  have : k = 0 ∨ k = 1 ∨ k = 2 ∨ k = 3 ∨ k = 4 ∨ k = 5 ∨ k = 6 := by omega
  rcases this with rfl | rfl | rfl | rfl | rfl | rfl | rfl <;> rfl

set_option maxRecDepth 100000 in
set_option maxHeartbeats 2000000 in
theorem xCond_any {w : World} {p : Nat} {a : Option Addr} {cap : Nat} {G : List Sg} {s : Option Nat} (h : RdS w p a cap G s) :
    Calls Tryz.prog 78 #[.pointer (some ⟨p, 0, none⟩)] w fun e w' => e = .returned (sCond G s).1.v ∧ RdS w' p a cap G (sCond G s).2 ∧ GB p w w' := by
  have hp := h.lt
  have X0 : Hid (RdS (w.alloc (.cells #[.int .i64 0, .int .i64 0, .int .i64 0, .int .i64 0, .int .i64 0, .int .i64 0] 78)) p a cap G s ∧ GB p w (w.alloc (.cells #[.int .i64 0, .int .i64 0, .int .i64 0, .int .i64 0, .int .i64 0, .int .i64 0] 78)) ∧ Kn (w.alloc (.cells #[.int .i64 0, .int .i64 0, .int .i64 0, .int .i64 0, .int .i64 0, .int .i64 0] 78)) w.heap.size [.int .i64 0, .int .i64 0, .int .i64 0, .int .i64 0, .int .i64 0, .int .i64 0] 78) := ⟨h.step (Ext.one _ _), gb_ext (Ext.one _ _), Kn.new w _ _⟩
  have H0 : Hid (RdS w p a cap G s ∧ p < w.heap.size) := ⟨h, hp⟩
  clear h hp
  obtain ⟨o, ho⟩ : ∃ o, o = sCond G s := ⟨_, rfl⟩
  rw [← ho]
  have HO : Hid (o = sCond G s) := ho
  clear ho
  have H1 : Hid (∀ {W}, RdS W p a cap G s → Calls Tryz.prog 32 #[.pointer (some ⟨p, 0, none⟩), .int .i64 1, .string ⟨#[97, 114, 103]⟩] W fun e w' => e = .returned (.tuple #[]) ∧ RdS w' p a cap G (sWt G s 1 tArg) ∧ GB p W w') := fun {W} hW => wants_any 1 tArg hW
  go_enter Tryz.func78, Tryz.ntmps78
  go_wp2_with fail
  generalize w.alloc (.cells #[.int .i64 0, .int .i64 0, .int .i64 0, .int .i64 0, .int .i64 0, .int .i64 0] 78) = W0 at *
  refine (show Calls Tryz.prog 32 _ _ _ from H1.out X0.out.1).mono ?_
  rintro e w1 ⟨rfl, r1, g1⟩
  have X1 : Hid (RdS w1 p a cap G (sWt G s 1 tArg) ∧ GB p w w1 ∧ Kn w1 w.heap.size [.int .i64 0, .int .i64 0, .int .i64 0, .int .i64 0, .int .i64 0, .int .i64 0] 78) := ⟨r1, gb_trans X0.out.2.1 g1, X0.out.2.2.gb (by have := H0.out.2; omega) g1⟩
  clear r1 g1 H1 X0
  obtain ⟨s1, hs1⟩ : ∃ s1, s1 = sWt G s 1 tArg := ⟨_, rfl⟩
  have HS1 : Hid (sWt G s 1 tArg = s1) := hs1.symm
  rw [← hs1] at X1
  clear hs1
  have H2 : Hid _ := xNum_any X1.out.1
  go_wp2_with fail
  refine (show Calls Tryz.prog 33 _ _ _ from H2.out).mono ?_
  rintro e w2 ⟨rfl, r2, g2⟩
  have hq : w.heap.size < w2.heap.size := (X1.out.2.2.gb (by have := H0.out.2; omega) g2).lt
  generalize hn : (sNum G s1).1 = n at *
  generalize hs2 : (sNum G s1).2 = s2 at *
  have X2 : Hid (RdS (w2.alloc (.cells #[.int .i64 n, .int .i64 4294967295, .int .i64 4294967295, .int .i64 0, .int .i64 0, .int .i64 0] 78)) p a cap G s2 ∧ GB p w (w2.alloc (.cells #[.int .i64 n, .int .i64 4294967295, .int .i64 4294967295, .int .i64 0, .int .i64 0, .int .i64 0] 78)) ∧ Kn (w2.alloc (.cells #[.int .i64 n, .int .i64 4294967295, .int .i64 4294967295, .int .i64 0, .int .i64 0, .int .i64 0] 78)) w.heap.size [.int .i64 0, .int .i64 0, .int .i64 0, .int .i64 0, .int .i64 0, .int .i64 0] 78 ∧ Kn (w2.alloc (.cells #[.int .i64 n, .int .i64 4294967295, .int .i64 4294967295, .int .i64 0, .int .i64 0, .int .i64 0] 78)) w2.heap.size [.int .i64 n, .int .i64 4294967295, .int .i64 4294967295, .int .i64 0, .int .i64 0, .int .i64 0] 78) :=
    ⟨r2.step (Ext.one _ _), gb_alloc (gb_trans X1.out.2.1 g2) _, (X1.out.2.2.gb (by have := H0.out.2; omega) g2).alloc _, Kn.new w2 _ _⟩
  have HQ : Hid (w.heap.size < w2.heap.size) := hq
  clear r2 g2 X1 hq H2
  go_wp2_with fail
  generalize (w2.alloc (.cells #[.int .i64 n, .int .i64 4294967295, .int .i64 4294967295, .int .i64 0, .int .i64 0, .int .i64 0] 78)) = W2 at *
  generalize w2.heap.size = q at *
  have hqp : Hid (q ≠ p ∧ w.heap.size ≠ p ∧ w.heap.size ≤ q ∧ w.heap.size ≠ q) := ⟨by have := H0.out.2; have := HQ.out; omega, by have := H0.out.2; omega, by have := HQ.out; omega, by have := HQ.out; omega⟩
  have H3 : Hid (Calls Tryz.prog 73 #[.pointer (some ⟨p, 0, none⟩), .int .i64 3, .string ⟨#[38]⟩] W2 fun e w' => e = .returned (.bool (sIs G s2 3 tAmp)) ∧ RdS w' p a cap G (sTk G s2 3 tAmp) ∧ GB p W2 w') := takes_any 3 tAmp X2.out.1
  rw [show sTk G s2 3 tAmp = if sIs G s2 3 tAmp then nx s2 else s2 from rfl] at H3
  have HMK : Hid (sMask G s2 = if sIs G s2 3 tAmp then sWide G (nx s2) else ((4294967295, 4294967295), s2)) := rfl
  generalize sIs G s2 3 tAmp = z at *
  clear HQ
  cases z
  · have HMK2 : Hid (sMask G s2 = ((4294967295, 4294967295), s2)) := HMK.out
    clear HMK
    go_wp2_with fail
    refine (show Calls Tryz.prog 73 _ _ _ from H3.out).mono ?_
    rintro e w5 ⟨rfl, r5, g5⟩
    obtain ⟨mh, hmh⟩ : ∃ mh : Int, mh = 4294967295 := ⟨_, rfl⟩
    obtain ⟨ml, hml⟩ : ∃ ml : Int, ml = 4294967295 := ⟨_, rfl⟩
    obtain ⟨s4, hs4⟩ : ∃ s4, s4 = s2 := ⟨_, rfl⟩
    have HMV : Hid (sMask G s2 = ((mh, ml), s4)) := by rw [hmh, hml, hs4]; exact HMK2
    have X5 : Hid (RdS w5 p a cap G s4 ∧ GB p w w5 ∧ Kn w5 w.heap.size [.int .i64 0, .int .i64 0, .int .i64 0, .int .i64 0, .int .i64 0, .int .i64 0] 78 ∧ Kn w5 q [.int .i64 n, .int .i64 mh, .int .i64 ml, .int .i64 0, .int .i64 0, .int .i64 0] 78) := by
      rw [hmh, hml, hs4]
      exact ⟨r5, gb_trans X2.out.2.1 g5, X2.out.2.2.1.gb hqp.out.2.1 g5, X2.out.2.2.2.gb hqp.out.1 g5⟩
    clear r5 g5 X2 H3 HMK2 hmh hml hs4
    go_wp2_with fail
    refine (xcms_any _).mono ?_
    rintro e w6 ⟨rfl, hw6⟩
    have HC6 : Hid (∀ k, k < 7 → w6.cell? ⟨w5.heap.size, k, none⟩ = some (.string (txt (cmT k)))) := fun k hk => by
      rw [hw6, cell_of_row _ _ k cmsV.toArray 9 (0, 0) (heap_alloc_new w5 _)]
      simpa using xcms_at hk
    have HB6 : Hid (w5.heap.size < w6.heap.size ∧ w5.heap.size ≠ p ∧ w5.heap.size ≠ q) := by
      have h1 := X5.out.1.lt
      have h2 := X5.out.2.2.2.lt
      rw [hw6]
      exact ⟨by simp, by omega, by omega⟩
    have X6 : Hid (RdS w6 p a cap G s4 ∧ GB p w w6 ∧ Kn w6 w.heap.size [.int .i64 0, .int .i64 0, .int .i64 0, .int .i64 0, .int .i64 0, .int .i64 0] 78 ∧ Kn w6 q [.int .i64 n, .int .i64 mh, .int .i64 ml, .int .i64 0, .int .i64 0, .int .i64 0] 78) := by
      rw [hw6]
      exact ⟨X5.out.1.step (Ext.one _ _), gb_alloc X5.out.2.1 _, X5.out.2.2.1.alloc _, X5.out.2.2.2.alloc _⟩
    clear hw6 X5
    generalize w5.heap.size = b at *
    go_wp2_with fail
    go_loopw [5] (fun iv wr => ∃ k : Nat, iv = .int .i64 ((k : Int) + 1) ∧ k ≤ 6 ∧ Hid (RdS wr p a cap G (cmS G s4 k).2 ∧ GB p w wr ∧ Kn wr w.heap.size [.int .i64 0, .int .i64 0, .int .i64 0, .int .i64 0, .int .i64 0, .int .i64 0] 78 ∧ Kn wr q [.int .i64 n, .int .i64 mh, .int .i64 ml, .int .i64 (cmS G s4 k).1, .int .i64 0, .int .i64 0] 78 ∧ (∀ k, k < 7 → wr.cell? ⟨b, k, none⟩ = some (.string (txt (cmT k)))) ∧ b < wr.heap.size)) (fun iv _ => 7 - (intOf iv).toNat)
    case atStart => exact ⟨0, rfl, by omega, X6.out.1, X6.out.2.1, X6.out.2.2.1, X6.out.2.2.2, HC6.out, HB6.out.1⟩
    case round =>
      obtain ⟨k, rfl, hk, HI⟩ := hrel
      clear X6 HC6
      by_cases hlt : k < 6
      · have bk : (k : Int) + 1 < 7 := by omega
        have bk0 : (0 : Int) ≤ (k : Int) + 1 := by omega
        have ck : wr.cell? ⟨b, k + 1, none⟩ = some (.string (txt (cmL.getD k []))) := HI.out.2.2.2.2.1 (k + 1) (by omega)
        have HS : Hid (cmS G s4 (k + 1) = if (cmS G s4 k).1 = 0 then (if sIs G (cmS G s4 k).2 3 (cmL.getD k []) then ((k : Int) + 1, nx (cmS G s4 k).2) else cmS G s4 k) else cmS G s4 k) := rfl
        have HT : Hid (Calls Tryz.prog 73 #[.pointer (some ⟨p, 0, none⟩), .int .i64 3, .string (txt (cmL.getD k []))] wr fun e w' => e = .returned (.bool (sIs G (cmS G s4 k).2 3 (cmL.getD k []))) ∧ RdS w' p a cap G (sTk G (cmS G s4 k).2 3 (cmL.getD k [])) ∧ GB p wr w') := takes_any 3 _ HI.out.1
        rw [show sTk G (cmS G s4 k).2 3 (cmL.getD k []) = if sIs G (cmS G s4 k).2 3 (cmL.getD k []) then nx (cmS G s4 k).2 else (cmS G s4 k).2 from rfl] at HT
        generalize cmS G s4 k = o at *
        obtain ⟨A, sA⟩ := o
        simp only at HS HT HI
        generalize sIs G sA 3 (cmL.getD k []) = z at *
        generalize txt (cmL.getD k []) = nm at *
        have kq := HI.out.2.2.2.1
        have f1 := kq.free
        obtain ⟨c0, c1, c2, c3, c4, c5⟩ := (⟨kq.cell 0 _ rfl, kq.cell 1 _ rfl, kq.cell 2 _ rfl, kq.cell 3 _ rfl, kq.cell 4 _ rfl, kq.cell 5 _ rfl⟩ : _ ∧ _ ∧ _ ∧ _ ∧ _ ∧ _)
        have HLT : Hid (k < 6) := hlt
        by_cases hA : A = 0
        · subst hA
          cases z
          · have HS2 : Hid (cmS G s4 (k + 1) = (0, sA)) := HS.out
            clear HS kq
            go_wp2_with fail
            refine (show Calls Tryz.prog 73 _ _ _ from HT.out).mono ?_
            rintro e w7 ⟨rfl, r7, g7⟩
            have X7 : Hid (RdS w7 p a cap G sA ∧ GB p w w7 ∧ Kn w7 w.heap.size [.int .i64 0, .int .i64 0, .int .i64 0, .int .i64 0, .int .i64 0, .int .i64 0] 78 ∧ Kn w7 q [.int .i64 n, .int .i64 mh, .int .i64 ml, .int .i64 0, .int .i64 0, .int .i64 0] 78 ∧ (∀ k, k < 7 → w7.cell? ⟨b, k, none⟩ = some (.string (txt (cmT k)))) ∧ b < w7.heap.size) := ⟨r7, gb_trans HI.out.2.1 g7, HI.out.2.2.1.gb hqp.out.2.1 g7, HI.out.2.2.2.1.gb hqp.out.1 g7, fun k hk => g7.cell (HI.out.2.2.2.2.1 k hk) (fun e => HB6.out.2.1 (Option.some.inj e)), Nat.lt_of_lt_of_le HI.out.2.2.2.2.2 g7.size⟩
            clear r7 g7 HT HI c0 c1 c2 c3 c4 c5 f1 ck
            go_wp2
            go_roundw
            case rel => exact ⟨k + 1, by go_num, by have := HLT.out; omega, by rw [HS2.out]; exact X7.out⟩
            case measure => simp [intOf]; omega
          · have HS2 : Hid (cmS G s4 (k + 1) = ((k : Int) + 1, nx sA)) := HS.out
            clear HS kq c0 c1 c2 c3 c4 c5 f1
            have HCC : Hid (wr.cell? ⟨q, 3, none⟩ = some (.int .i64 0)) := HI.out.2.2.2.1.cell 3 _ rfl
            have c3 := HCC.out
            go_wp2_with fail
            refine (show Calls Tryz.prog 73 _ _ _ from HT.out).mono ?_
            rintro e w7 ⟨rfl, r7, g7⟩
            have kq : Kn w7 q [.int .i64 n, .int .i64 mh, .int .i64 ml, .int .i64 0, .int .i64 0, .int .i64 0] 78 := HI.out.2.2.2.1.gb hqp.out.1 g7
            have X7 : Hid (RdS (w7.setCell ⟨q, 3, none⟩ (.int .i64 ((k : Int) + 1))) p a cap G (nx sA) ∧ GB p w (w7.setCell ⟨q, 3, none⟩ (.int .i64 ((k : Int) + 1))) ∧ Kn (w7.setCell ⟨q, 3, none⟩ (.int .i64 ((k : Int) + 1))) w.heap.size [.int .i64 0, .int .i64 0, .int .i64 0, .int .i64 0, .int .i64 0, .int .i64 0] 78 ∧ Kn (w7.setCell ⟨q, 3, none⟩ (.int .i64 ((k : Int) + 1))) q [.int .i64 n, .int .i64 mh, .int .i64 ml, .int .i64 ((k : Int) + 1), .int .i64 0, .int .i64 0] 78 ∧ (∀ k', k' < 7 → (w7.setCell ⟨q, 3, none⟩ (.int .i64 ((k : Int) + 1))).cell? ⟨b, k', none⟩ = some (.string (txt (cmT k')))) ∧ b < (w7.setCell ⟨q, 3, none⟩ (.int .i64 ((k : Int) + 1))).heap.size) :=
              ⟨H0.out.1.fresh r7 hqp.out.2.2.1, gb_fresh (gb_trans HI.out.2.1 g7) hqp.out.2.2.1, (HI.out.2.2.1.gb hqp.out.2.1 g7).other hqp.out.2.2.2 _ _, kq.set 3 _, fun k hk => by rw [World.cell?_setCell_other _ _ _ _ (fun e => HB6.out.2.2 (by injection e with e1 e2; exact e1.symm))]; exact g7.cell (HI.out.2.2.2.2.1 k hk) (fun e => HB6.out.2.1 (Option.some.inj e)), by rw [World.size_setCell]; exact Nat.lt_of_lt_of_le HI.out.2.2.2.2.2 g7.size⟩
            have f1 := kq.free
            have c3' := kq.cell 3 _ rfl
            clear r7 g7 HT HI ck c3 kq
            go_wp2
            go_roundw
            case rel => exact ⟨k + 1, by go_num, by have := HLT.out; omega, by rw [HS2.out]; exact X7.out⟩
            case measure => simp [intOf]; omega
        · have HS2 : Hid (cmS G s4 (k + 1) = (A, sA)) := by unfold Hid; rw [HS.out]; simp [hA]
          have bA : (A == 0) = false := by simpa using hA
          clear HS kq HT
          go_wp2
          go_roundw
          case rel => exact ⟨k + 1, by go_num, by have := HLT.out; omega, by rw [HS2.out]; exact HI.out⟩
          case measure => simp [intOf]; omega
      · obtain rfl : k = 6 := by omega
        rw [cmS_find] at HI
        generalize hcm : (sCmp G s4).1 = cm at *
        generalize hs7 : (sCmp G s4).2 = s7 at *
        have H8 : Hid (∀ {W}, RdS W p a cap G s7 → Calls Tryz.prog 116 #[.pointer (some ⟨p, 0, none⟩)] W fun e w' => e = .returned (wideV (sWide G s7).1) ∧ RdS w' p a cap G (sWide G s7).2 ∧ GB p W w') := fun {W} hW => xWide_any hW
        generalize hvv : (sWide G s7).1 = vv at *
        obtain ⟨vh, vl⟩ := vv
        generalize hs8 : (sWide G s7).2 = s8 at *
        have HV : Hid (o = (⟨n, mh, ml, cm, vh, vl⟩, s8)) := by
          have hmv := HMV.out
          unfold Hid
          rw [HO.out]
          unfold sCond
          simp only
          rw [HS1.out, hn, hs2, hmv]
          simp only
          rw [hcm, hs7, hvv, hs8]
        clear hcm hs7 hvv hs8 hn hs2
        unfold wideV at H8
        simp only at H8
        clear HB6
        go_wp2_with fail
        refine (show Calls Tryz.prog 116 _ _ _ from H8.out HI.out.1).mono ?_
        rintro e w8 ⟨rfl, r8, g8⟩
        have kq : Kn w8 q [.int .i64 n, .int .i64 mh, .int .i64 ml, .int .i64 cm, .int .i64 0, .int .i64 0] 78 := HI.out.2.2.2.1.gb hqp.out.1 g8
        have kr : Kn w8 w.heap.size [.int .i64 0, .int .i64 0, .int .i64 0, .int .i64 0, .int .i64 0, .int .i64 0] 78 := HI.out.2.2.1.gb hqp.out.2.1 g8
        have X9 : Hid (RdS ((((((((w8.setCell ⟨q, 4, none⟩ (.int .i64 vh)).setCell ⟨q, 5, none⟩ (.int .i64 vl)).setCell ⟨w.heap.size, 0, none⟩ (.int .i64 n)).setCell ⟨w.heap.size, 1, none⟩ (.int .i64 mh)).setCell ⟨w.heap.size, 2, none⟩ (.int .i64 ml)).setCell ⟨w.heap.size, 3, none⟩ (.int .i64 cm)).setCell ⟨w.heap.size, 4, none⟩ (.int .i64 vh)).setCell ⟨w.heap.size, 5, none⟩ (.int .i64 vl)) p a cap G s8 ∧ GB p w ((((((((w8.setCell ⟨q, 4, none⟩ (.int .i64 vh)).setCell ⟨q, 5, none⟩ (.int .i64 vl)).setCell ⟨w.heap.size, 0, none⟩ (.int .i64 n)).setCell ⟨w.heap.size, 1, none⟩ (.int .i64 mh)).setCell ⟨w.heap.size, 2, none⟩ (.int .i64 ml)).setCell ⟨w.heap.size, 3, none⟩ (.int .i64 cm)).setCell ⟨w.heap.size, 4, none⟩ (.int .i64 vh)).setCell ⟨w.heap.size, 5, none⟩ (.int .i64 vl)) ∧ Kn ((((((((w8.setCell ⟨q, 4, none⟩ (.int .i64 vh)).setCell ⟨q, 5, none⟩ (.int .i64 vl)).setCell ⟨w.heap.size, 0, none⟩ (.int .i64 n)).setCell ⟨w.heap.size, 1, none⟩ (.int .i64 mh)).setCell ⟨w.heap.size, 2, none⟩ (.int .i64 ml)).setCell ⟨w.heap.size, 3, none⟩ (.int .i64 cm)).setCell ⟨w.heap.size, 4, none⟩ (.int .i64 vh)).setCell ⟨w.heap.size, 5, none⟩ (.int .i64 vl)) w.heap.size [.int .i64 n, .int .i64 mh, .int .i64 ml, .int .i64 cm, .int .i64 vh, .int .i64 vl] 78) :=
          ⟨(H0.out.1.fresh (H0.out.1.fresh (H0.out.1.fresh (H0.out.1.fresh (H0.out.1.fresh (H0.out.1.fresh (H0.out.1.fresh (H0.out.1.fresh r8 hqp.out.2.2.1) hqp.out.2.2.1) (Nat.le_refl _)) (Nat.le_refl _)) (Nat.le_refl _)) (Nat.le_refl _)) (Nat.le_refl _)) (Nat.le_refl _)), (gb_fresh (gb_fresh (gb_fresh (gb_fresh (gb_fresh (gb_fresh (gb_fresh (gb_fresh (gb_trans HI.out.2.1 g8) hqp.out.2.2.1) hqp.out.2.2.1) (Nat.le_refl _)) (Nat.le_refl _)) (Nat.le_refl _)) (Nat.le_refl _)) (Nat.le_refl _)) (Nat.le_refl _)), ((((((((kr.other hqp.out.2.2.2 _ _).other hqp.out.2.2.2 _ _).set 0 _).set 1 _).set 2 _).set 3 _).set 4 _).set 5 _)⟩
        have f1 := kq.free
        obtain ⟨c0, c1, c2, c3, c4, c5⟩ := (⟨kq.cell 0 _ rfl, kq.cell 1 _ rfl, kq.cell 2 _ rfl, kq.cell 3 _ rfl, kq.cell 4 _ rfl, kq.cell 5 _ rfl⟩ : _ ∧ _ ∧ _ ∧ _ ∧ _ ∧ _)
        have f2 := kr.free
        obtain ⟨d0, d1, d2, d3, d4, d5⟩ := (⟨kr.cell 0 _ rfl, kr.cell 1 _ rfl, kr.cell 2 _ rfl, kr.cell 3 _ rfl, kr.cell 4 _ rfl, kr.cell 5 _ rfl⟩ : _ ∧ _ ∧ _ ∧ _ ∧ _ ∧ _)
        have hne := hqp.out.2.2.2
        have hne2 : ¬ q = w.heap.size := fun e => hne e.symm
        clear r8 g8 HI H8 kq kr
        go_wp2
        generalize ((((((((w8.setCell ⟨q, 4, none⟩ (.int .i64 vh)).setCell ⟨q, 5, none⟩ (.int .i64 vl)).setCell ⟨w.heap.size, 0, none⟩ (.int .i64 n)).setCell ⟨w.heap.size, 1, none⟩ (.int .i64 mh)).setCell ⟨w.heap.size, 2, none⟩ (.int .i64 ml)).setCell ⟨w.heap.size, 3, none⟩ (.int .i64 cm)).setCell ⟨w.heap.size, 4, none⟩ (.int .i64 vh)).setCell ⟨w.heap.size, 5, none⟩ (.int .i64 vl)) = W9 at *
        clear f1 c0 c1 c2 c3 c4 c5 f2 d0 d1 d2 d3 d4 d5
        obtain ⟨d0, d1, d2, d3, d4, d5⟩ := (⟨X9.out.2.2.cell 0 _ rfl, X9.out.2.2.cell 1 _ rfl, X9.out.2.2.cell 2 _ rfl, X9.out.2.2.cell 3 _ rfl, X9.out.2.2.cell 4 _ rfl, X9.out.2.2.cell 5 _ rfl⟩ : _ ∧ _ ∧ _ ∧ _ ∧ _ ∧ _)
        refine bodyPost_ret (v := .agg #[.int .i64 n, .int .i64 mh, .int .i64 ml, .int .i64 cm, .int .i64 vh, .int .i64 vl]) (by simp [results, Tryz.results78, go_sem, *]) rfl ?_
        rw [HV.out]
        exact ⟨rfl, X9.out.1, X9.out.2.1⟩
  · have HMK2 : Hid (sMask G s2 = sWide G (nx s2)) := HMK.out
    clear HMK
    go_wp2_with fail
    refine (show Calls Tryz.prog 73 _ _ _ from H3.out).mono ?_
    rintro e w3 ⟨rfl, r3, g3⟩
    have X3 : Hid (RdS w3 p a cap G (nx s2) ∧ GB p w w3 ∧ Kn w3 w.heap.size [.int .i64 0, .int .i64 0, .int .i64 0, .int .i64 0, .int .i64 0, .int .i64 0] 78 ∧ Kn w3 q [.int .i64 n, .int .i64 4294967295, .int .i64 4294967295, .int .i64 0, .int .i64 0, .int .i64 0] 78) := ⟨r3, gb_trans X2.out.2.1 g3, X2.out.2.2.1.gb hqp.out.2.1 g3, X2.out.2.2.2.gb hqp.out.1 g3⟩
    clear r3 g3 X2 H3
    have H4 : Hid _ := xWide_any X3.out.1
    rw [← HMK2.out] at H4
    clear HMK2
    generalize hmm : sMask G s2 = mm at *
    obtain ⟨⟨mh, ml⟩, s4⟩ := mm
    have HMV : Hid (sMask G s2 = ((mh, ml), s4)) := hmm
    unfold wideV at H4
    simp only at H4
    clear hmm
    go_wp2_with fail
    refine (show Calls Tryz.prog 116 _ _ _ from H4.out).mono ?_
    rintro e w4 ⟨rfl, r4, g4⟩
    have kq : Kn w4 q [.int .i64 n, .int .i64 4294967295, .int .i64 4294967295, .int .i64 0, .int .i64 0, .int .i64 0] 78 := X3.out.2.2.2.gb hqp.out.1 g4
    have X4 : Hid (RdS ((w4.setCell ⟨q, 1, none⟩ (.int .i64 mh)).setCell ⟨q, 2, none⟩ (.int .i64 ml)) p a cap G s4 ∧ GB p w ((w4.setCell ⟨q, 1, none⟩ (.int .i64 mh)).setCell ⟨q, 2, none⟩ (.int .i64 ml)) ∧ Kn ((w4.setCell ⟨q, 1, none⟩ (.int .i64 mh)).setCell ⟨q, 2, none⟩ (.int .i64 ml)) w.heap.size [.int .i64 0, .int .i64 0, .int .i64 0, .int .i64 0, .int .i64 0, .int .i64 0] 78 ∧ Kn ((w4.setCell ⟨q, 1, none⟩ (.int .i64 mh)).setCell ⟨q, 2, none⟩ (.int .i64 ml)) q [.int .i64 n, .int .i64 mh, .int .i64 ml, .int .i64 0, .int .i64 0, .int .i64 0] 78) :=
      ⟨(H0.out.1.fresh (H0.out.1.fresh r4 hqp.out.2.2.1) hqp.out.2.2.1), (gb_fresh (gb_fresh (gb_trans X3.out.2.1 g4) hqp.out.2.2.1) hqp.out.2.2.1), ((X3.out.2.2.1.gb hqp.out.2.1 g4).other hqp.out.2.2.2 _ _).other hqp.out.2.2.2 _ _, (kq.set 1 _).set 2 _⟩
    have f1 := kq.free
    obtain ⟨c0, c1, c2, c3, c4, c5⟩ := (⟨kq.cell 0 _ rfl, kq.cell 1 _ rfl, kq.cell 2 _ rfl, kq.cell 3 _ rfl, kq.cell 4 _ rfl, kq.cell 5 _ rfl⟩ : _ ∧ _ ∧ _ ∧ _ ∧ _ ∧ _)
    clear r4 g4 X3 H4 kq
    go_wp2_with fail
    obtain ⟨w5, hw5⟩ : ∃ w5, w5 = ((w4.setCell ⟨q, 1, none⟩ (.int .i64 mh)).setCell ⟨q, 2, none⟩ (.int .i64 ml)) := ⟨_, rfl⟩
    rw [← hw5]
    rw [← hw5] at X4
    have X5 : Hid _ := X4.out
    clear hw5 f1 c0 c1 c2 c3 c4 c5 X4
    go_wp2_with fail
    refine (xcms_any _).mono ?_
    rintro e w6 ⟨rfl, hw6⟩
    have HC6 : Hid (∀ k, k < 7 → w6.cell? ⟨w5.heap.size, k, none⟩ = some (.string (txt (cmT k)))) := fun k hk => by
      rw [hw6, cell_of_row _ _ k cmsV.toArray 9 (0, 0) (heap_alloc_new w5 _)]
      simpa using xcms_at hk
    have HB6 : Hid (w5.heap.size < w6.heap.size ∧ w5.heap.size ≠ p ∧ w5.heap.size ≠ q) := by
      have h1 := X5.out.1.lt
      have h2 := X5.out.2.2.2.lt
      rw [hw6]
      exact ⟨by simp, by omega, by omega⟩
    have X6 : Hid (RdS w6 p a cap G s4 ∧ GB p w w6 ∧ Kn w6 w.heap.size [.int .i64 0, .int .i64 0, .int .i64 0, .int .i64 0, .int .i64 0, .int .i64 0] 78 ∧ Kn w6 q [.int .i64 n, .int .i64 mh, .int .i64 ml, .int .i64 0, .int .i64 0, .int .i64 0] 78) := by
      rw [hw6]
      exact ⟨X5.out.1.step (Ext.one _ _), gb_alloc X5.out.2.1 _, X5.out.2.2.1.alloc _, X5.out.2.2.2.alloc _⟩
    clear hw6 X5
    generalize w5.heap.size = b at *
    go_wp2_with fail
    go_loopw [5] (fun iv wr => ∃ k : Nat, iv = .int .i64 ((k : Int) + 1) ∧ k ≤ 6 ∧ Hid (RdS wr p a cap G (cmS G s4 k).2 ∧ GB p w wr ∧ Kn wr w.heap.size [.int .i64 0, .int .i64 0, .int .i64 0, .int .i64 0, .int .i64 0, .int .i64 0] 78 ∧ Kn wr q [.int .i64 n, .int .i64 mh, .int .i64 ml, .int .i64 (cmS G s4 k).1, .int .i64 0, .int .i64 0] 78 ∧ (∀ k, k < 7 → wr.cell? ⟨b, k, none⟩ = some (.string (txt (cmT k)))) ∧ b < wr.heap.size)) (fun iv _ => 7 - (intOf iv).toNat)
    case atStart => exact ⟨0, rfl, by omega, X6.out.1, X6.out.2.1, X6.out.2.2.1, X6.out.2.2.2, HC6.out, HB6.out.1⟩
    case round =>
      obtain ⟨k, rfl, hk, HI⟩ := hrel
      clear X6 HC6
      by_cases hlt : k < 6
      · have bk : (k : Int) + 1 < 7 := by omega
        have bk0 : (0 : Int) ≤ (k : Int) + 1 := by omega
        have ck : wr.cell? ⟨b, k + 1, none⟩ = some (.string (txt (cmL.getD k []))) := HI.out.2.2.2.2.1 (k + 1) (by omega)
        have HS : Hid (cmS G s4 (k + 1) = if (cmS G s4 k).1 = 0 then (if sIs G (cmS G s4 k).2 3 (cmL.getD k []) then ((k : Int) + 1, nx (cmS G s4 k).2) else cmS G s4 k) else cmS G s4 k) := rfl
        have HT : Hid (Calls Tryz.prog 73 #[.pointer (some ⟨p, 0, none⟩), .int .i64 3, .string (txt (cmL.getD k []))] wr fun e w' => e = .returned (.bool (sIs G (cmS G s4 k).2 3 (cmL.getD k []))) ∧ RdS w' p a cap G (sTk G (cmS G s4 k).2 3 (cmL.getD k [])) ∧ GB p wr w') := takes_any 3 _ HI.out.1
        rw [show sTk G (cmS G s4 k).2 3 (cmL.getD k []) = if sIs G (cmS G s4 k).2 3 (cmL.getD k []) then nx (cmS G s4 k).2 else (cmS G s4 k).2 from rfl] at HT
        generalize cmS G s4 k = o at *
        obtain ⟨A, sA⟩ := o
        simp only at HS HT HI
        generalize sIs G sA 3 (cmL.getD k []) = z at *
        generalize txt (cmL.getD k []) = nm at *
        have kq := HI.out.2.2.2.1
        have f1 := kq.free
        obtain ⟨c0, c1, c2, c3, c4, c5⟩ := (⟨kq.cell 0 _ rfl, kq.cell 1 _ rfl, kq.cell 2 _ rfl, kq.cell 3 _ rfl, kq.cell 4 _ rfl, kq.cell 5 _ rfl⟩ : _ ∧ _ ∧ _ ∧ _ ∧ _ ∧ _)
        have HLT : Hid (k < 6) := hlt
        by_cases hA : A = 0
        · subst hA
          cases z
          · have HS2 : Hid (cmS G s4 (k + 1) = (0, sA)) := HS.out
            clear HS kq
            go_wp2_with fail
            refine (show Calls Tryz.prog 73 _ _ _ from HT.out).mono ?_
            rintro e w7 ⟨rfl, r7, g7⟩
            have X7 : Hid (RdS w7 p a cap G sA ∧ GB p w w7 ∧ Kn w7 w.heap.size [.int .i64 0, .int .i64 0, .int .i64 0, .int .i64 0, .int .i64 0, .int .i64 0] 78 ∧ Kn w7 q [.int .i64 n, .int .i64 mh, .int .i64 ml, .int .i64 0, .int .i64 0, .int .i64 0] 78 ∧ (∀ k, k < 7 → w7.cell? ⟨b, k, none⟩ = some (.string (txt (cmT k)))) ∧ b < w7.heap.size) := ⟨r7, gb_trans HI.out.2.1 g7, HI.out.2.2.1.gb hqp.out.2.1 g7, HI.out.2.2.2.1.gb hqp.out.1 g7, fun k hk => g7.cell (HI.out.2.2.2.2.1 k hk) (fun e => HB6.out.2.1 (Option.some.inj e)), Nat.lt_of_lt_of_le HI.out.2.2.2.2.2 g7.size⟩
            clear r7 g7 HT HI c0 c1 c2 c3 c4 c5 f1 ck
            go_wp2
            go_roundw
            case rel => exact ⟨k + 1, by go_num, by have := HLT.out; omega, by rw [HS2.out]; exact X7.out⟩
            case measure => simp [intOf]; omega
          · have HS2 : Hid (cmS G s4 (k + 1) = ((k : Int) + 1, nx sA)) := HS.out
            clear HS kq c0 c1 c2 c3 c4 c5 f1
            have HCC : Hid (wr.cell? ⟨q, 3, none⟩ = some (.int .i64 0)) := HI.out.2.2.2.1.cell 3 _ rfl
            have c3 := HCC.out
            go_wp2_with fail
            refine (show Calls Tryz.prog 73 _ _ _ from HT.out).mono ?_
            rintro e w7 ⟨rfl, r7, g7⟩
            have kq : Kn w7 q [.int .i64 n, .int .i64 mh, .int .i64 ml, .int .i64 0, .int .i64 0, .int .i64 0] 78 := HI.out.2.2.2.1.gb hqp.out.1 g7
            have X7 : Hid (RdS (w7.setCell ⟨q, 3, none⟩ (.int .i64 ((k : Int) + 1))) p a cap G (nx sA) ∧ GB p w (w7.setCell ⟨q, 3, none⟩ (.int .i64 ((k : Int) + 1))) ∧ Kn (w7.setCell ⟨q, 3, none⟩ (.int .i64 ((k : Int) + 1))) w.heap.size [.int .i64 0, .int .i64 0, .int .i64 0, .int .i64 0, .int .i64 0, .int .i64 0] 78 ∧ Kn (w7.setCell ⟨q, 3, none⟩ (.int .i64 ((k : Int) + 1))) q [.int .i64 n, .int .i64 mh, .int .i64 ml, .int .i64 ((k : Int) + 1), .int .i64 0, .int .i64 0] 78 ∧ (∀ k', k' < 7 → (w7.setCell ⟨q, 3, none⟩ (.int .i64 ((k : Int) + 1))).cell? ⟨b, k', none⟩ = some (.string (txt (cmT k')))) ∧ b < (w7.setCell ⟨q, 3, none⟩ (.int .i64 ((k : Int) + 1))).heap.size) :=
              ⟨H0.out.1.fresh r7 hqp.out.2.2.1, gb_fresh (gb_trans HI.out.2.1 g7) hqp.out.2.2.1, (HI.out.2.2.1.gb hqp.out.2.1 g7).other hqp.out.2.2.2 _ _, kq.set 3 _, fun k hk => by rw [World.cell?_setCell_other _ _ _ _ (fun e => HB6.out.2.2 (by injection e with e1 e2; exact e1.symm))]; exact g7.cell (HI.out.2.2.2.2.1 k hk) (fun e => HB6.out.2.1 (Option.some.inj e)), by rw [World.size_setCell]; exact Nat.lt_of_lt_of_le HI.out.2.2.2.2.2 g7.size⟩
            have f1 := kq.free
            have c3' := kq.cell 3 _ rfl
            clear r7 g7 HT HI ck c3 kq
            go_wp2
            go_roundw
            case rel => exact ⟨k + 1, by go_num, by have := HLT.out; omega, by rw [HS2.out]; exact X7.out⟩
            case measure => simp [intOf]; omega
        · have HS2 : Hid (cmS G s4 (k + 1) = (A, sA)) := by unfold Hid; rw [HS.out]; simp [hA]
          have bA : (A == 0) = false := by simpa using hA
          clear HS kq HT
          go_wp2
          go_roundw
          case rel => exact ⟨k + 1, by go_num, by have := HLT.out; omega, by rw [HS2.out]; exact HI.out⟩
          case measure => simp [intOf]; omega
      · obtain rfl : k = 6 := by omega
        rw [cmS_find] at HI
        generalize hcm : (sCmp G s4).1 = cm at *
        generalize hs7 : (sCmp G s4).2 = s7 at *
        have H8 : Hid (∀ {W}, RdS W p a cap G s7 → Calls Tryz.prog 116 #[.pointer (some ⟨p, 0, none⟩)] W fun e w' => e = .returned (wideV (sWide G s7).1) ∧ RdS w' p a cap G (sWide G s7).2 ∧ GB p W w') := fun {W} hW => xWide_any hW
        generalize hvv : (sWide G s7).1 = vv at *
        obtain ⟨vh, vl⟩ := vv
        generalize hs8 : (sWide G s7).2 = s8 at *
        have HV : Hid (o = (⟨n, mh, ml, cm, vh, vl⟩, s8)) := by
          have hmv := HMV.out
          unfold Hid
          rw [HO.out]
          unfold sCond
          simp only
          rw [HS1.out, hn, hs2, hmv]
          simp only
          rw [hcm, hs7, hvv, hs8]
        clear hcm hs7 hvv hs8 hn hs2
        unfold wideV at H8
        simp only at H8
        clear HB6
        go_wp2_with fail
        refine (show Calls Tryz.prog 116 _ _ _ from H8.out HI.out.1).mono ?_
        rintro e w8 ⟨rfl, r8, g8⟩
        have kq : Kn w8 q [.int .i64 n, .int .i64 mh, .int .i64 ml, .int .i64 cm, .int .i64 0, .int .i64 0] 78 := HI.out.2.2.2.1.gb hqp.out.1 g8
        have kr : Kn w8 w.heap.size [.int .i64 0, .int .i64 0, .int .i64 0, .int .i64 0, .int .i64 0, .int .i64 0] 78 := HI.out.2.2.1.gb hqp.out.2.1 g8
        have X9 : Hid (RdS ((((((((w8.setCell ⟨q, 4, none⟩ (.int .i64 vh)).setCell ⟨q, 5, none⟩ (.int .i64 vl)).setCell ⟨w.heap.size, 0, none⟩ (.int .i64 n)).setCell ⟨w.heap.size, 1, none⟩ (.int .i64 mh)).setCell ⟨w.heap.size, 2, none⟩ (.int .i64 ml)).setCell ⟨w.heap.size, 3, none⟩ (.int .i64 cm)).setCell ⟨w.heap.size, 4, none⟩ (.int .i64 vh)).setCell ⟨w.heap.size, 5, none⟩ (.int .i64 vl)) p a cap G s8 ∧ GB p w ((((((((w8.setCell ⟨q, 4, none⟩ (.int .i64 vh)).setCell ⟨q, 5, none⟩ (.int .i64 vl)).setCell ⟨w.heap.size, 0, none⟩ (.int .i64 n)).setCell ⟨w.heap.size, 1, none⟩ (.int .i64 mh)).setCell ⟨w.heap.size, 2, none⟩ (.int .i64 ml)).setCell ⟨w.heap.size, 3, none⟩ (.int .i64 cm)).setCell ⟨w.heap.size, 4, none⟩ (.int .i64 vh)).setCell ⟨w.heap.size, 5, none⟩ (.int .i64 vl)) ∧ Kn ((((((((w8.setCell ⟨q, 4, none⟩ (.int .i64 vh)).setCell ⟨q, 5, none⟩ (.int .i64 vl)).setCell ⟨w.heap.size, 0, none⟩ (.int .i64 n)).setCell ⟨w.heap.size, 1, none⟩ (.int .i64 mh)).setCell ⟨w.heap.size, 2, none⟩ (.int .i64 ml)).setCell ⟨w.heap.size, 3, none⟩ (.int .i64 cm)).setCell ⟨w.heap.size, 4, none⟩ (.int .i64 vh)).setCell ⟨w.heap.size, 5, none⟩ (.int .i64 vl)) w.heap.size [.int .i64 n, .int .i64 mh, .int .i64 ml, .int .i64 cm, .int .i64 vh, .int .i64 vl] 78) :=
          ⟨(H0.out.1.fresh (H0.out.1.fresh (H0.out.1.fresh (H0.out.1.fresh (H0.out.1.fresh (H0.out.1.fresh (H0.out.1.fresh (H0.out.1.fresh r8 hqp.out.2.2.1) hqp.out.2.2.1) (Nat.le_refl _)) (Nat.le_refl _)) (Nat.le_refl _)) (Nat.le_refl _)) (Nat.le_refl _)) (Nat.le_refl _)), (gb_fresh (gb_fresh (gb_fresh (gb_fresh (gb_fresh (gb_fresh (gb_fresh (gb_fresh (gb_trans HI.out.2.1 g8) hqp.out.2.2.1) hqp.out.2.2.1) (Nat.le_refl _)) (Nat.le_refl _)) (Nat.le_refl _)) (Nat.le_refl _)) (Nat.le_refl _)) (Nat.le_refl _)), ((((((((kr.other hqp.out.2.2.2 _ _).other hqp.out.2.2.2 _ _).set 0 _).set 1 _).set 2 _).set 3 _).set 4 _).set 5 _)⟩
        have f1 := kq.free
        obtain ⟨c0, c1, c2, c3, c4, c5⟩ := (⟨kq.cell 0 _ rfl, kq.cell 1 _ rfl, kq.cell 2 _ rfl, kq.cell 3 _ rfl, kq.cell 4 _ rfl, kq.cell 5 _ rfl⟩ : _ ∧ _ ∧ _ ∧ _ ∧ _ ∧ _)
        have f2 := kr.free
        obtain ⟨d0, d1, d2, d3, d4, d5⟩ := (⟨kr.cell 0 _ rfl, kr.cell 1 _ rfl, kr.cell 2 _ rfl, kr.cell 3 _ rfl, kr.cell 4 _ rfl, kr.cell 5 _ rfl⟩ : _ ∧ _ ∧ _ ∧ _ ∧ _ ∧ _)
        have hne := hqp.out.2.2.2
        have hne2 : ¬ q = w.heap.size := fun e => hne e.symm
        clear r8 g8 HI H8 kq kr
        go_wp2
        generalize ((((((((w8.setCell ⟨q, 4, none⟩ (.int .i64 vh)).setCell ⟨q, 5, none⟩ (.int .i64 vl)).setCell ⟨w.heap.size, 0, none⟩ (.int .i64 n)).setCell ⟨w.heap.size, 1, none⟩ (.int .i64 mh)).setCell ⟨w.heap.size, 2, none⟩ (.int .i64 ml)).setCell ⟨w.heap.size, 3, none⟩ (.int .i64 cm)).setCell ⟨w.heap.size, 4, none⟩ (.int .i64 vh)).setCell ⟨w.heap.size, 5, none⟩ (.int .i64 vl)) = W9 at *
        clear f1 c0 c1 c2 c3 c4 c5 f2 d0 d1 d2 d3 d4 d5
        obtain ⟨d0, d1, d2, d3, d4, d5⟩ := (⟨X9.out.2.2.cell 0 _ rfl, X9.out.2.2.cell 1 _ rfl, X9.out.2.2.cell 2 _ rfl, X9.out.2.2.cell 3 _ rfl, X9.out.2.2.cell 4 _ rfl, X9.out.2.2.cell 5 _ rfl⟩ : _ ∧ _ ∧ _ ∧ _ ∧ _ ∧ _)
        refine bodyPost_ret (v := .agg #[.int .i64 n, .int .i64 mh, .int .i64 ml, .int .i64 cm, .int .i64 vh, .int .i64 vl]) (by simp [results, Tryz.results78, go_sem, *]) rfl ?_
        rw [HV.out]
        exact ⟨rfl, X9.out.1, X9.out.2.1⟩

end Go.Proofs.YtojaohdmfahpmaaGreatDoor
