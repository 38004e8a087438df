/- Proved: at every laws.Policy the law FnExactShowPolicy answers true, so impl.ShowPolicy answers as spec.ShowPolicy and leaves its argument as it was (the law itself passes policies with more than 1<<20 rules, numbers and conditions together by); the card ties the library's three tables and the program's table of marks, which the row lists, to the program's text; no other condition. -/
import Derived.Test.YtojaohdmfahpmaaDoorShowS
import Derived.Test.YtojaohdmfahpmaaDoorShowI
import Derived.Lib.LaidTab
import Derived.Test.YtojaohdmfahpmaaDoorCallIS
import Derived.ProofKit
import Derived.OpenShut
import Derived.Lib.SmallJoins
import Derived.Deep.SlicePairs
import Derived.Test.YtojaohdmfahpmaaDoorRowz
import Derived.Deep.Slices
import Derived.Test.YtojaohdmfahpmaaDoorPolMath
import Derived.Test.YtojaohdmfahpmaaDoorPolI
import Derived.Test.YtojaohdmfahpmaaDoorCards
import Derived.Test.YtojaohdmfahpmaaDoorTie
import Derived.WalkKit
import Derived.WalkSmall
import Derived.ShutString
import Derived.ChangeOld
import Derived.ChangeVars
import Derived.OpenVars
import Derived.Below
import Derived.Deep.DeepHandedRow
/- What spec's ShowPolicy answers, of any policy. -/
namespace Go.Proofs.YtojaohdmfahpmaaDoor
open Go.RowKit
set_option linter.unusedVariables false

set_option maxRecDepth 100000 in
set_option maxHeartbeats 1600000 in
theorem sShow_any {p : PN} {v : Value} {w : World} (hs : SmallR p.rules) (h : RepPol p v w) :
    Calls Tryd.prog 5 #[v] w fun e w' => e = .returned (.tuple #[.string (txt (showR p).1), .bool (showR p).2]) ∧ Ext w w' := by
  obtain ⟨Z, hZ⟩ : ∃ Z, Z = txt (showR p).1 := ⟨_, rfl⟩
  obtain ⟨z, hz⟩ : ∃ z, z = (showR p).2 := ⟨_, rfl⟩
  obtain ⟨q, hq⟩ : ∃ q, q = policyB p := ⟨_, rfl⟩
  have HO : Hid (∀ W, Ext w W → Calls Tryd.prog 10 #[v] W fun e w' => e = .returned (.bool q) ∧ Ext W w') := fun W hE => by rw [hq]; exact sPolicyOk_rep hs (h.step hE)
  obtain ⟨a, cap, rfl, hr⟩ := h
  rw [← hZ, ← hz]
  cases q
  case false =>
    have HZ : Hid (Z = txt [] ∧ z = false) := by rw [hZ, hz]; simp [showR, ← hq, Hid]
    clear hZ hz hq hr
    generalize p.arch = ar at *
    generalize p.act = ac at *
    generalize p.data = da at *
    generalize p.rules.length = n at *
    go_enter Tryd.func5, Tryd.ntmps5
    go_wp2_with fail
    refine (HO.out _ (Ext.one _ _)).mono ?_
    rintro e w1 ⟨rfl, x1⟩
    have X1 : Hid (Ext w w1) := (Ext.one _ _).trans x1
    clear x1 HO
    go_wp2
    go_ret2
    exact ⟨by rw [HZ.out.1, HZ.out.2]; rfl, X1.out⟩
  case true =>
    obtain ⟨hb1, hb2, hb3⟩ := policyB_parts hq.symm
    obtain ⟨_, hd, g0, g5⟩ := outB_half hb2
    have lh := headT_len hq.symm
    have lx := numT_len hb1
    have lz := outT_len hb2
    obtain ⟨U, hU⟩ : ∃ U, U = txt (numT p.arch) := ⟨_, rfl⟩
    obtain ⟨T, hT⟩ : ∃ T, T = txt (outT p.act p.data) := ⟨_, rfl⟩
    obtain ⟨H0, hH⟩ : ∃ H0, H0 = txt (headT p) := ⟨_, rfl⟩
    obtain ⟨S1, hS1⟩ : ∃ S, S = txt ([97, 114, 99, 104, 32] ++ numT p.arch) := ⟨_, rfl⟩
    have SA1 : ∀ wx, (Op.stringOp .add ⟨#[97, 114, 99, 104, 32]⟩ U).run Tryd.prog wx = .ok (.string S1) wx := fun wx => addT wx rfl hU hS1 (by simp only [List.length_cons, List.length_nil]; omega)
    obtain ⟨S2, hS2⟩ : ∃ S, S = txt (([97, 114, 99, 104, 32] ++ numT p.arch) ++ [32, 59, 32, 100, 101, 102, 97, 117, 108, 116, 32]) := ⟨_, rfl⟩
    have SA2 : ∀ wx, (Op.stringOp .add S1 ⟨#[32, 59, 32, 100, 101, 102, 97, 117, 108, 116, 32]⟩).run Tryd.prog wx = .ok (.string S2) wx := fun wx => addT wx hS1 rfl hS2 (by simp only [List.length_append, List.length_cons, List.length_nil]; omega)
    obtain ⟨S3, hS3⟩ : ∃ S, S = txt ((([97, 114, 99, 104, 32] ++ numT p.arch) ++ [32, 59, 32, 100, 101, 102, 97, 117, 108, 116, 32]) ++ outT p.act p.data) := ⟨_, rfl⟩
    have SA3 : ∀ wx, (Op.stringOp .add S2 T).run Tryd.prog wx = .ok (.string S3) wx := fun wx => addT wx hS2 hT hS3 (by simp only [List.length_append, List.length_cons, List.length_nil]; omega)
    have SA4 : ∀ wx, (Op.stringOp .add S3 ⟨#[32, 59]⟩).run Tryd.prog wx = .ok (.string H0) wx := fun wx => addT wx hS3 rfl (hH.trans (congrArg txt (rfl))) (by simp only [List.length_append, List.length_cons, List.length_nil]; omega)
    clear hS1 hS2 hS3
    obtain ⟨n, hn⟩ : ∃ n, n = p.rules.length := ⟨_, rfl⟩
    have hn10 : n ≤ 10 := by
      have := hq.symm
      simp only [policyB, Bool.and_eq_true, decide_eq_true_eq] at this
      omega
    have HZ : Hid (Z = txt (if 1200 < (headT p ++ rulesP p.rules n).length then [] else headT p ++ rulesP p.rules n) ∧ z = !decide (1200 < (headT p ++ rulesP p.rules n).length)) := by
      have e : headT p ++ rulesP p.rules n = showL p := by rw [hn, rulesP_all]; rfl
      rw [e, hZ, hz]
      unfold showR
      rw [← hq]
      by_cases hl : 1200 < (showL p).length
      · simp [hl, Hid]
      · simp [hl, Hid]
    have H1 : Hid (∀ W, Ext w W → Calls Tryd.prog 11 #[.int .i64 p.arch] W fun e w' => e = .returned (.string U) ∧ Ext W w') := fun W hE => by rw [hU]; exact figT hb1
    have H2 : Hid (∀ W, Ext w W → Calls Tryd.prog 12 #[.int .i64 p.act, .int .i64 p.data] W fun e w' => e = .returned (.string T) ∧ Ext W w') := fun W hE => by rw [hT]; exact l10Act_any _ _ W hb2
    have HR : Hid (∀ W, Ext w W → Rules W a p.rules) := fun W hE => hr.step hE
    have HB : Hid (n = p.rules.length ∧ (∀ r ∈ p.rules, ruleB r = true) ∧ (headT p).length ≤ 50 ∧ H0 = txt (headT p)) := ⟨hn, hb3, lh, hH⟩
    skip
    rw [← hn] at HO ⊢
    clear hZ hz hq hr hb1 hb2 hb3 hd g0 g5 lh lx lz hU hT hH hn hs
    generalize p.arch = ar at *
    generalize p.act = ac at *
    generalize p.data = da at *
    have X : Hid (Ext w (w.alloc (.cells #[.int .i64 ar, .int .i64 ac, .int .i64 da, .slice a n cap] 30))) := Ext.one _ _
    have C0 : Hid (CellsAt (w.alloc (.cells #[.int .i64 ar, .int .i64 ac, .int .i64 da, .slice a n cap] 30)) w.heap.size [.int .i64 ar, .int .i64 ac, .int .i64 da, .slice a n cap]) := CellsAt.new w _ _
    go_enter Tryd.func5, Tryd.ntmps5
    go_wp2_with fail
    generalize w.alloc (.cells #[.int .i64 ar, .int .i64 ac, .int .i64 da, .slice a n cap] 30) = W0 at *
    refine (HO.out _ X.out).mono ?_
    rintro e w1 ⟨rfl, x1⟩
    have X1 : Hid (Ext w w1) := X.out.trans x1
    have C1 : Hid (CellsAt w1 w.heap.size [.int .i64 ar, .int .i64 ac, .int .i64 da, .slice a n cap]) := C0.out.step x1
    clear x1 HO X C0
    go_wp2_with fail
    refine' wp_region_loose (.inl _ :: .inl _ :: .inl _ :: .inl _ :: .inl _ :: .inl _ :: .inl _ :: .inl _ :: .inl _ :: .inl _ :: .inl _ :: .inl _ :: .inl _ :: []) (fun w' => CellsAt w' w.heap.size [.int .i64 ar, .int .i64 ac, .int .i64 da, .slice a n cap]) (by kernel_rfl) (by kernel_rfl) (C1.out) (fun _ _ h hE => h.step hE) ?hAsShow ?hlsShow ?hMsShow
    case' hMsShow => skip
    apply wpLoose_val rfl rfl
    case hs =>
      intro w1 hC hd Q1 hQ1
      obtain ⟨hE, hS⟩ := hC
      dsimp only [bare]
      obtain ⟨p0, p1, p2, p3⟩ := (⟨hS.2 0 _ rfl, hS.2 1 _ rfl, hS.2 2 _ rfl, hS.2 3 _ rfl⟩ : _ ∧ _ ∧ _ ∧ _)
      clear hd hE
      try clear hS
      go_wp2
      exact Ext.refl _
    case ha => rfl
    apply wpLoose_val rfl rfl
    case hs =>
      intro w1 hC hd Q1 hQ1
      obtain ⟨hE, hS⟩ := hC
      dsimp only [bare]
      obtain ⟨p0, p1, p2, p3⟩ := (⟨hS.2 0 _ rfl, hS.2 1 _ rfl, hS.2 2 _ rfl, hS.2 3 _ rfl⟩ : _ ∧ _ ∧ _ ∧ _)
      clear hd hE
      try clear hS
      go_wp2
      exact Ext.refl _
    case ha => rfl
    apply wpLoose_val rfl rfl
    case hs =>
      intro w1 hC hd Q1 hQ1
      obtain ⟨hE, hS⟩ := hC
      dsimp only [bare]
      clear hd
      go_wp2_with fail
      refine (H1.out _ (X1.out.drew.trans hE)).mono ?_
      rintro e w2 ⟨rfl, hb⟩
      go_wp2_with fail
      exact hb
    case ha => rfl
    apply wpLoose_val rfl rfl
    case hs =>
      intro w1 hC hd Q1 hQ1
      obtain ⟨hE, hS⟩ := hC
      dsimp only [bare]
      obtain ⟨p0, p1, p2, p3⟩ := (⟨hS.2 0 _ rfl, hS.2 1 _ rfl, hS.2 2 _ rfl, hS.2 3 _ rfl⟩ : _ ∧ _ ∧ _ ∧ _)
      clear hd hE
      try clear hS
      go_wp2
      exact Ext.refl _
    case ha => rfl
    apply wpLoose_val rfl rfl
    case hs =>
      intro w1 hC hd Q1 hQ1
      obtain ⟨hE, hS⟩ := hC
      dsimp only [bare]
      obtain ⟨p0, p1, p2, p3⟩ := (⟨hS.2 0 _ rfl, hS.2 1 _ rfl, hS.2 2 _ rfl, hS.2 3 _ rfl⟩ : _ ∧ _ ∧ _ ∧ _)
      clear hd hE
      try clear hS
      go_wp2
      exact Ext.refl _
    case ha => rfl
    apply wpLoose_val rfl rfl
    case hs =>
      intro w1 hC hd Q1 hQ1
      obtain ⟨hE, hS⟩ := hC
      dsimp only [bare]
      obtain ⟨p0, p1, p2, p3⟩ := (⟨hS.2 0 _ rfl, hS.2 1 _ rfl, hS.2 2 _ rfl, hS.2 3 _ rfl⟩ : _ ∧ _ ∧ _ ∧ _)
      clear hd hE
      try clear hS
      go_wp2
      exact Ext.refl _
    case ha => rfl
    apply wpLoose_val rfl rfl
    case hs =>
      intro w1 hC hd Q1 hQ1
      obtain ⟨hE, hS⟩ := hC
      dsimp only [bare]
      obtain ⟨p0, p1, p2, p3⟩ := (⟨hS.2 0 _ rfl, hS.2 1 _ rfl, hS.2 2 _ rfl, hS.2 3 _ rfl⟩ : _ ∧ _ ∧ _ ∧ _)
      clear hd hE
      try clear hS
      go_wp2
      exact Ext.refl _
    case ha => rfl
    apply wpLoose_val rfl rfl
    case hs =>
      intro w1 hC hd Q1 hQ1
      obtain ⟨hE, hS⟩ := hC
      dsimp only [bare]
      obtain ⟨p0, p1, p2, p3⟩ := (⟨hS.2 0 _ rfl, hS.2 1 _ rfl, hS.2 2 _ rfl, hS.2 3 _ rfl⟩ : _ ∧ _ ∧ _ ∧ _)
      clear hd hE
      try clear hS
      go_wp2
      exact Ext.refl _
    case ha => rfl
    apply wpLoose_val rfl rfl
    case hs =>
      intro w1 hC hd Q1 hQ1
      obtain ⟨hE, hS⟩ := hC
      dsimp only [bare]
      obtain ⟨p0, p1, p2, p3⟩ := (⟨hS.2 0 _ rfl, hS.2 1 _ rfl, hS.2 2 _ rfl, hS.2 3 _ rfl⟩ : _ ∧ _ ∧ _ ∧ _)
      clear hd hE
      try clear hS
      go_wp2
      exact Ext.refl _
    case ha => rfl
    apply wpLoose_val rfl rfl
    case hs =>
      intro w1 hC hd Q1 hQ1
      obtain ⟨hE, hS⟩ := hC
      dsimp only [bare]
      clear hd
      go_wp2_with fail
      refine (H2.out _ (X1.out.drew.trans hE)).mono ?_
      rintro e w2 ⟨rfl, hb⟩
      go_wp2_with fail
      exact hb
    case ha => rfl
    apply wpLoose_val rfl rfl
    case hs =>
      intro w1 hC hd Q1 hQ1
      obtain ⟨hE, hS⟩ := hC
      dsimp only [bare]
      obtain ⟨p0, p1, p2, p3⟩ := (⟨hS.2 0 _ rfl, hS.2 1 _ rfl, hS.2 2 _ rfl, hS.2 3 _ rfl⟩ : _ ∧ _ ∧ _ ∧ _)
      clear hd hE
      try clear hS
      go_wp2
      exact Ext.refl _
    case ha => rfl
    apply wpLoose_val rfl rfl
    case hs =>
      intro w1 hC hd Q1 hQ1
      obtain ⟨hE, hS⟩ := hC
      dsimp only [bare]
      obtain ⟨p0, p1, p2, p3⟩ := (⟨hS.2 0 _ rfl, hS.2 1 _ rfl, hS.2 2 _ rfl, hS.2 3 _ rfl⟩ : _ ∧ _ ∧ _ ∧ _)
      clear hd hE
      try clear hS
      go_wp2
      exact Ext.refl _
    case ha => rfl
    apply wpLoose_val rfl rfl
    case hs =>
      intro w1 hC hd Q1 hQ1
      obtain ⟨hE, hS⟩ := hC
      dsimp only [bare]
      obtain ⟨p0, p1, p2, p3⟩ := (⟨hS.2 0 _ rfl, hS.2 1 _ rfl, hS.2 2 _ rfl, hS.2 3 _ rfl⟩ : _ ∧ _ ∧ _ ∧ _)
      clear hd hE
      try clear hS
      go_wp2
      exact Ext.refl _
    case ha => rfl
    refine wpLoose_nil ?_
    intro wsShow hEsShow hSsShow hFsShow
    · have X2 : Hid (Ext w wsShow) := X1.out.drew.trans hEsShow
      have C2 : Hid (CellsAt wsShow w.heap.size [.int .i64 ar, .int .i64 ac, .int .i64 da, .slice a n cap]) := hSsShow
      clear hEsShow hSsShow hFsShow X1 C1 H1 H2
      go_wp2_with fail
      generalize wsShow = W2 at *
      go_loopw [4, 5] (fun v i wr => ∃ (k : Nat) (S : ByteArray), i = .int .i64 k ∧ v = .string S ∧ k ≤ n ∧ Hid (S = txt (headT p ++ rulesP p.rules k)) ∧ Hid (Ext W2 wr)) (fun _ i _ => n - (intOf i).toNat)
      case atStart => exact ⟨0, H0, rfl, rfl, by omega, by unfold Hid; rw [HB.out.2.2.2]; simp [rulesP], Ext.refl _⟩
      case round =>
        obtain ⟨k, S, rfl, rfl, hk, HS, hE2⟩ := hrel
        have hE : Hid (Ext w wr) := X2.out.trans hE2.out
        have p3 := (C2.out.step hE2.out).2 3 _ rfl
        have lk := rulesP_len HB.out.2.1 k (by have := HB.out.1; omega)
        by_cases hlt : k < n
        · have bk : (k : Int) < (n : Int) := by omega
          obtain ⟨b, off, l, rfl, ⟨hbl, hseg⟩, hL⟩ := (HR.out wr hE.out).at (k := k) (by have := HB.out.1; omega)
          obtain ⟨r, hr⟩ : ∃ r, r = p.rules.getD k r0 := ⟨_, rfl⟩
          rw [← hr] at hL
          have hrm : r ∈ p.rules := by have := HB.out.1; rw [hr, List.getD_eq_getElem?_getD, List.getElem?_eq_getElem (by omega)]; exact List.getElem_mem (by omega)
          have hrb := HB.out.2.1 r hrm
          obtain ⟨a1, n1, d1, a2, n2, d2, rfl, e1, e2, N1, K1⟩ := hL
          obtain ⟨q0, q1, q2, q3⟩ := hseg.four
          have lr := ruleT_len hrb
          have lh := HB.out.2.2.1
          have hS : S = txt (headT p ++ rulesP p.rules k) := HS.out
          obtain ⟨V, hV⟩ : ∃ V, V = txt (ruleT r) := ⟨_, rfl⟩
          obtain ⟨Y, hY⟩ : ∃ Y, Y = txt ((headT p ++ rulesP p.rules k) ++ [32]) := ⟨_, rfl⟩
          obtain ⟨G, hG⟩ : ∃ G, G = txt (((headT p ++ rulesP p.rules k) ++ [32]) ++ ruleT r) := ⟨_, rfl⟩
          have A1 : ∀ wx, (Op.stringOp .add S ⟨#[32]⟩).run Tryd.prog wx = .ok (.string Y) wx := fun wx => addT wx hS rfl hY (by simp only [List.length_append, List.length_cons, List.length_nil]; omega)
          have A2 : ∀ wx, (Op.stringOp .add Y V).run Tryd.prog wx = .ok (.string G) wx := fun wx => addT wx hY hV hG (by simp only [List.length_append, List.length_cons, List.length_nil]; omega)
          have HT : Hid (G = txt (headT p ++ rulesP p.rules (k + 1))) := by
            unfold Hid
            rw [hG, rulesP, ← hr]
            simp
          have H3 : Hid (∀ W, Ext wr W → Calls Tryd.prog 13 #[.agg #[.slice a1 n1 d1, .slice a2 n2 d2, .int .i64 r.act, .int .i64 r.data]] W fun e w' => e = .returned (.string V) ∧ Ext W w') := fun W hx => by
            rw [hV]; exact l10Rule_any r a1 a2 n1 d1 n2 d2 W hrb e1 e2 (N1.step hx) (K1.step hx)
          clear hr hrm hrb e1 e2 N1 K1 lr lh hS hV hY hG HS lk hbl hseg
          generalize r.act = ra at *
          generalize r.data = rd at *
          go_wp2_with fail
          refine (H3.out _ (Ext.refl _)).mono ?_
          rintro e w2 ⟨rfl, x2⟩
          have X3 : Hid (Ext W2 w2) := hE2.out.trans x2
          clear x2 H3 q0 q1 q2 q3 p3
          go_wp2
          go_roundw
          case rel => exact ⟨k + 1, G, by go_num, rfl, by omega, HT, X3⟩
          case measure => simp [intOf]; omega
        · obtain rfl : k = n := by omega
          have bk : ¬ ((k : Int) < (k : Int)) := by omega
          obtain ⟨L, hL⟩ : ∃ L, L = headT p ++ rulesP p.rules k := ⟨_, rfl⟩
          have hS : S = txt L := by rw [hL]; exact HS.out
          have hSs : S.size = L.length := by rw [hS]; show L.toArray.size = _; simp
          rw [← hL] at HZ
          have HSL : Hid (S = txt L) := hS
          clear hL HS lk hS
          by_cases hl : 1200 < L.length
          · have hl' : (1200 : Int) < (S.size : Int) := by omega
            clear hSs
            go_wp2
            go_ret2
            exact ⟨by rw [HZ.out.1, HZ.out.2, if_pos hl]; simp [hl, txt], hE.out⟩
          · have hl' : ¬ (1200 : Int) < (S.size : Int) := by omega
            clear hSs
            go_wp2
            go_ret2
            exact ⟨by rw [HZ.out.1, HZ.out.2, if_neg hl]; simp [hl, HSL.out], hE.out⟩
    case hAsShow => kernel_rfl
    case hlsShow => exact ⟨trivial, trivial, trivial, trivial, trivial, trivial, trivial, trivial, trivial, trivial, trivial, trivial, trivial, trivial⟩

end Go.Proofs.YtojaohdmfahpmaaDoor

/- The program's own table of marks: from a row's list to the cells. -/
namespace Go.Proofs.YtojaohdmfahpmaaDoor
open Go.RowKit Go.ChangeShapes Go.WideShapes Go.ChangeAt
set_option linter.unusedVariables false

def cmsD {H : Type} : DataW H := .agg ((([] :: cmL).map fun s => DataW.lit (.string s)))

theorem gCms : Tryd.prog.globalNamed "loop.example/g00397/impl.cmMarks" = some 0 := by kernel_rfl
theorem gCmsType : (Tryd.prog.globals[0]?).map (·.type) = some 84 := by kernel_rfl
theorem cellsCms : Tryd.prog.cellsOf 84 = 7 := by kernel_rfl
theorem cellsStr : Tryd.prog.cellsOf 9 = 1 := by kernel_rfl

theorem cells_of_strs {H : Type} {enc : TypeId × Value → H} {P : Program} {w : World} {base : Nat} {sp : Nat → Bool} {held : Bool} {fuel : Nat} {t e : TypeId} {n : Nat} {cs : List Value} {zs : List (List UInt8)} {p : List MemPlace}
    (ht : P.underlying t = some (.array n e)) (he : P.underlying e = some .string) (hce : P.cellsOf e = 1) (hct : P.cellsOf t = n)
    (h : DataW.trod enc P w base sp held fuel t cs = some (.agg (zs.map fun s => DataW.lit (.string s)), p)) : cs = zs.map fun z => Value.string (txt z) := by
  cases fuel with
  | zero => simp [DataW.trod] at h
  | succ fuel =>
    simp only [DataW.trod, ht, hce, hct, Nat.mul_one] at h
    split at h
    · rename_i hl
      obtain ⟨xs, hm, hx⟩ := Option.map_eq_some_iff.1 h
      have hxs : xs.map (·.1) = zs.map fun z => (DataW.lit (.string z) : DataW H) := by
        have := congrArg Prod.fst hx
        simpa using this
      have hxl : xs.length = n := by simpa using Lib.mapM_length hm
      have hzl : zs.length = n := by
        have := congrArg List.length hxs
        simp at this
        omega
      apply List.ext_getElem?
      intro i
      by_cases hi : i < n
      · obtain ⟨b, hb, hf⟩ := Lib.mapM_at hm i i (by simp [hi])
        obtain ⟨z, hc, rfl, _⟩ := DataW.trod_string he hf
        have h1 : cs[i]? = some (.string z) := by
          have := congrArg (·[0]?) hc
          simpa [List.getElem?_take, List.getElem?_drop] using this
        have h2 : (xs.map (·.1))[i]? = some (DataW.lit (.string z.data.toList) : DataW H) := by simp [hb]
        rw [hxs] at h2
        simp only [List.getElem?_map, Option.map_eq_some_iff, DataW.lit.injEq, Lit.string.injEq] at h2
        obtain ⟨z', hz', e⟩ := h2
        simp [h1, hz', e, txt_data]
      · rw [List.getElem?_eq_none (by omega), List.getElem?_eq_none (by simp; omega)]
    · cases h

theorem cms_of_var {W : World} {fuel base : Nat} {sp : Nat → Bool} {held : Bool} {cs : List Value} {p : List MemPlace} {enc : TypeId × Value → Unit} (hv : W.var? Tryd.prog "loop.example/g00397/impl.cmMarks" = some cs.toArray)
    (hd : DataW.trod enc Tryd.prog W base sp held fuel 84 cs = some (cmsD, p)) : Cms W := by
  have hc := cells_of_strs Tryd.underlying84 Tryd.underlying9 cellsStr cellsCms hd
  have key : ∀ k, k < 7 → W.cell? ⟨0, k, none⟩ = some (.string (txt (cmT k))) := fun k hk => by
    have h1 := World.var?_cell gCms hv k
    have hk' : k < ([] :: cmL).length := by simpa [cmL] using hk
    rw [hc] at h1
    have h2 : ((([] :: cmL).map fun z => Value.string (txt z)).toArray)[k]? = some (.string (txt (cmT k))) := by
      rw [List.getElem?_toArray, List.getElem?_map, List.getElem?_eq_getElem hk']
      simp [cmT, List.getD_eq_getElem?_getD, List.getElem?_eq_getElem hk']
    first | exact h1.trans h2 | (rw [h2] at h1; exact h1) | simpa [h2] using h1
  exact ⟨key, World.block_lt_of_cell? W _ (key 0 (by decide))⟩

end Go.Proofs.YtojaohdmfahpmaaDoor

/- The laws' arguments opened: a wide number, a call. -/
namespace Go.Proofs.YtojaohdmfahpmaaDoor
open Go.ChangeShapes Go.WideShapes Go.ChangeAt Go.RowKit Go.Joins Go.Deep
set_option linter.unusedVariables false

theorem cellsLW : Tryd.prog.cellsOf 80 = 2 := by kernel_rfl

theorem cells3 : Tryd.prog.cellsOf 3 = 1 := by kernel_rfl

set_option maxRecDepth 100000 in
theorem open_wide {H : Type} {enc : TypeId × Value → H} {W : World} {base b0 : Nat} {sp : Nat → Bool} {held : Bool} {r : Reach} {v : Value} {d : DataW H} {p : List MemPlace}
    (hv : Value.okWide Tryd.prog W r b0 80 v) (h : DataW.Trod enc Tryd.prog W base sp held 80 v d p) : ∃ a b : Int, v = .agg #[.int .i64 a, .int .i64 b] := by
  obtain ⟨c0, c1, y0, y1, m, rfl, rfl, rfl, hy0, hy1⟩ := open_agg2 Tryd.underlying80 (by kernel_rfl) cellsLW hv h
  obtain ⟨a, e0, _, _⟩ := DataW.trod_int Tryd.underlying3 hy0
  obtain ⟨b, e1, _, _⟩ := DataW.trod_int Tryd.underlying3 hy1
  simp at e0 e1
  exact ⟨a, b, by rw [e0, e1]⟩

end Go.Proofs.YtojaohdmfahpmaaDoor

/- A slice of whatever elements opened, each element's cells by a predicate of one's own. -/
namespace Go.Proofs.YtojaohdmfahpmaaDoor
open Go.ChangeShapes Go.WideShapes Go.ChangeAt Go.RowKit Go.Joins Go.Deep
set_option linter.unusedVariables false

theorem open_segs {H : Type} {enc : TypeId × Value → H} {W : World} {base n : Nat} {sp : Nat → Bool} {held : Bool} {v : Value} {y : DataW H × List MemPlace} {ts te : TypeId} {E : Nat} {α : Type} (d : α) (R : α → List Value → Prop)
    (ht : Tryd.prog.underlying ts = some (.slice te)) (hc : Tryd.prog.cellsOf te = E) (hE : 0 < E)
    (hel : ∀ {m : Nat} {cs : List Value} {x : DataW H × List MemPlace}, DataW.trod enc Tryd.prog W base sp held m te cs = some x → cs.length = E → ∃ x : α, R x cs)
    (h : DataW.trod enc Tryd.prog W base sp held n ts [v] = some y) :
    ∃ (a : Option Addr) (cap : Nat) (xs : List α), v = .slice a xs.length cap ∧ xs.length ≤ 9223372036854775807 ∧ (0 < xs.length → ∃ b off, a = some ⟨b, off, none⟩ ∧ b < W.heap.size ∧ ∀ j, j < xs.length → ∃ l, Seg W b (off + j * E) l ∧ R (xs.getD j d) l) := by
  rcases open_slice ht h with ⟨hcs, _⟩ | ⟨a', len, cap, m, n', D, Pl, hcs, _, hl, hm, hmm, _, hx⟩
  · simp at hcs
    exact ⟨none, 0, [], hcs, by simp, fun hp => by simp at hp⟩
  · simp at hcs
    have hlm : len ≤ m := by rw [hmm]; split <;> omega
    obtain ⟨b, off, spot⟩ := a'
    by_cases hm0 : len = 0
    · exact ⟨some ⟨b, off, spot⟩, cap, [], by rw [hcs, hm0]; rfl, by simp, fun hp => by simp at hp⟩
    have first : ∃ u, W.cell? ⟨b, off, spot⟩ = some u ∧ spot = none := by
      obtain ⟨cs', h1, _⟩ := hx 0 (by omega)
      rw [hc] at h1
      obtain ⟨_, hlen, hcell⟩ := World.cells?_some h1
      have c0 := hcell 0 hE
      rw [List.getElem?_eq_getElem (by omega)] at c0
      simp at c0
      have hsp : spot = none := by simpa [Addr.add] using World.cell?_spot c0
      subst hsp
      rw [Addr.add_lit, Addr.add_lit] at c0
      exact ⟨_, by simpa using c0, rfl⟩
    obtain ⟨u, hu, rfl⟩ := first
    have each : ∀ i, i < m → ∃ q : α × List Value, Seg W b (off + i * E) q.2 ∧ R q.1 q.2 := by
      intro i hi
      obtain ⟨cs', h1, h2⟩ := hx i hi
      rw [hc] at h1
      obtain ⟨_, hlen, hcell⟩ := World.cells?_some h1
      obtain ⟨x, hr⟩ := hel h2 hlen
      refine ⟨(x, cs'), fun j w hj => ?_, hr⟩
      have hj' : j < E := by
        have h3 := (List.getElem?_eq_some_iff.1 hj).1
        simp only at h3
        omega
      have := hcell j hj'
      rw [Addr.add_lit, Addr.add_lit] at this
      rw [this]
      exact hj
    haveI : Inhabited (α × List Value) := ⟨(d, [])⟩
    obtain ⟨q, hq⟩ := Go.Deep.choose_lt each
    refine ⟨some ⟨b, off, none⟩, cap, (List.range len).map fun i => (q i).1, by simpa using hcs, by unfold maxLen at hm; simp; omega, fun hp => ⟨b, off, rfl, World.block_lt_of_cell? W _ hu, fun j hj => ?_⟩⟩
    simp only [List.length_map, List.length_range] at hj
    obtain ⟨g1, g2⟩ := hq j (by omega)
    refine ⟨_, g1, ?_⟩
    simpa [List.getD_eq_getElem?_getD, hj] using g2

end Go.Proofs.YtojaohdmfahpmaaDoor

/- The laws' argument opened: a call, its wide numbers in memory. -/
namespace Go.Proofs.YtojaohdmfahpmaaDoor
open Go.ChangeShapes Go.WideShapes Go.ChangeAt Go.RowKit Go.Joins Go.Deep
set_option linter.unusedVariables false

end Go.Proofs.YtojaohdmfahpmaaDoor

/- The laws' argument opened: a condition. -/
namespace Go.Proofs.YtojaohdmfahpmaaDoor
open Go.ChangeShapes Go.WideShapes Go.ChangeAt Go.RowKit Go.Joins Go.Deep
set_option linter.unusedVariables false

theorem cellsLCo : Tryd.prog.cellsOf 82 = 6 := by kernel_rfl

set_option maxRecDepth 100000 in
theorem trod_cond {H : Type} {enc : TypeId × Value → H} {W : World} {base n : Nat} {sp : Nat → Bool} {held : Bool} {cs : List Value} {y : DataW H × List MemPlace}
    (h : DataW.trod enc Tryd.prog W base sp held n 82 cs = some y) : ∃ c : CN, cs = c.l := by
  obtain ⟨y0, y1, y2, y3, k, _, hl, g0, g1, g2, g3⟩ := trod_struct4 Tryd.underlying82 h
  rw [cellsLCo] at hl
  match cs, hl with
  | [v0, v1, v2, v3, v4, v5], _ =>
    simp [cells3, cellsLW] at g0 g1 g2 g3
    obtain ⟨x0, e0, _, _⟩ := DataW.trod_int Tryd.underlying3 g0
    obtain ⟨x3, e3, _, _⟩ := DataW.trod_int Tryd.underlying3 g2
    obtain ⟨z0, z1, m, _, _, a0, a1⟩ := trod_struct2 Tryd.underlying80 g1
    obtain ⟨t0, t1, m', _, _, b0, b1⟩ := trod_struct2 Tryd.underlying80 g3
    simp [cells3] at a0 a1 b0 b1
    obtain ⟨x1, e1, _, _⟩ := DataW.trod_int Tryd.underlying3 a0
    obtain ⟨x2, e2, _, _⟩ := DataW.trod_int Tryd.underlying3 a1
    obtain ⟨x4, e4, _, _⟩ := DataW.trod_int Tryd.underlying3 b0
    obtain ⟨x5, e5, _, _⟩ := DataW.trod_int Tryd.underlying3 b1
    simp at e0 e1 e2 e3 e4 e5
    exact ⟨⟨x0, x1, x2, x3, x4, x5⟩, by simp [CN.l, e0, e1, e2, e3, e4, e5]⟩

set_option maxRecDepth 100000 in
theorem open_cond {H : Type} {enc : TypeId × Value → H} {W : World} {base b0 : Nat} {sp : Nat → Bool} {held : Bool} {r : Reach} {v : Value} {d : DataW H} {p : List MemPlace}
    (hv : Value.okWide Tryd.prog W r b0 82 v) (h : DataW.Trod enc Tryd.prog W base sp held 82 v d p) : ∃ a b c d e f : Int, v = .agg #[.int .i64 a, .int .i64 b, .int .i64 c, .int .i64 d, .int .i64 e, .int .i64 f] := by
  obtain ⟨cs, rfl, hsz⟩ := okWide_struct Tryd.underlying82 hv
  obtain ⟨fuel, hf⟩ := h
  obtain ⟨c, hc⟩ := trod_cond hf
  refine ⟨c.arg, c.mh, c.ml, c.cm, c.vh, c.vl, ?_⟩
  simp only [Value.cells] at hc
  congr 1
  exact Array.ext' (by simpa [CN.l] using hc)

end Go.Proofs.YtojaohdmfahpmaaDoor

/- The laws' arguments opened: a rule, a policy. -/
namespace Go.Proofs.YtojaohdmfahpmaaDoor
open Go.ChangeShapes Go.WideShapes Go.ChangeAt Go.RowKit Go.Joins Go.Deep
set_option linter.unusedVariables false

theorem cellsLRu : Tryd.prog.cellsOf 48 = 4 := by kernel_rfl

theorem cellsLPo : Tryd.prog.cellsOf 24 = 4 := by kernel_rfl

theorem cells34 : Tryd.prog.cellsOf 39 = 1 := by kernel_rfl

theorem cellsLCs : Tryd.prog.cellsOf 46 = 1 := by kernel_rfl

theorem cellsLRs : Tryd.prog.cellsOf 22 = 1 := by kernel_rfl

theorem open_nums {H : Type} {enc : TypeId × Value → H} {W : World} {base n : Nat} {sp : Nat → Bool} {held : Bool} {v : Value} {y : DataW H × List MemPlace}
    (h : DataW.trod enc Tryd.prog W base sp held n 39 [v] = some y) : ∃ (a : Option Addr) (cap : Nat) (zs : List Int), v = .slice a zs.length cap ∧ zs.length ≤ 9223372036854775807 ∧ Nums W a zs := by
  obtain ⟨a, cap, zs, e, hl, hx⟩ := open_segs (0 : Int) (fun z l => l = [.int .i64 z]) Tryd.underlying39 cells3 (by omega) (fun {m cs x} h hl => by
    match cs, hl with
    | [v0], _ =>
      obtain ⟨x0, e0, _, _⟩ := DataW.trod_int Tryd.underlying3 h
      exact ⟨x0, by simpa using e0⟩) h
  refine ⟨a, cap, zs, e, hl, fun hp => ?_⟩
  obtain ⟨b, off, ha, hb, hc⟩ := hx hp
  refine ⟨b, off, ha, hb, fun j hj => ?_⟩
  obtain ⟨l, h1, rfl⟩ := hc j hj
  rw [Nat.mul_one] at h1
  exact h1.one

set_option maxRecDepth 100000 in
theorem open_conds {H : Type} {enc : TypeId × Value → H} {W : World} {base n : Nat} {sp : Nat → Bool} {held : Bool} {v : Value} {y : DataW H × List MemPlace}
    (h : DataW.trod enc Tryd.prog W base sp held n 46 [v] = some y) : ∃ (a : Option Addr) (cap : Nat) (cs : List CN), v = .slice a cs.length cap ∧ cs.length ≤ 9223372036854775807 ∧ Conds W a cs := by
  obtain ⟨a, cap, zs, e, hl, hx⟩ := open_segs c0 (fun (c : CN) l => l = c.l) Tryd.underlying46 cellsLCo (by omega) (fun {m cs x} h hl => trod_cond h) h
  refine ⟨a, cap, zs, e, hl, fun hp => ?_⟩
  obtain ⟨b, off, ha, hb, hc⟩ := hx hp
  refine ⟨b, off, ha, hb, fun j hj => ?_⟩
  obtain ⟨l, h1, rfl⟩ := hc j hj
  exact h1

/-- No more elements than any slice has. -/
def Fin63 (r : RN) : Prop := r.nums.length ≤ 9223372036854775807 ∧ r.conds.length ≤ 9223372036854775807

set_option maxRecDepth 100000 in
theorem trod_rule {H : Type} {enc : TypeId × Value → H} {W : World} {base n : Nat} {sp : Nat → Bool} {held : Bool} {cs : List Value} {y : DataW H × List MemPlace}
    (h : DataW.trod enc Tryd.prog W base sp held n 48 cs = some y) : ∃ r : RN, RuleL W r cs ∧ Fin63 r := by
  obtain ⟨y0, y1, y2, y3, k, _, hl, g0, g1, g2, g3⟩ := trod_struct4 Tryd.underlying48 h
  rw [cellsLRu] at hl
  match cs, hl with
  | [v0, v1, v2, v3], _ =>
    simp [cells3, cells34, cellsLCs] at g0 g1 g2 g3
    obtain ⟨a1, c1, zs, e0, hz1, hz⟩ := open_nums g0
    obtain ⟨a2, c2, cs, e1, hc1, hc⟩ := open_conds g1
    obtain ⟨x2, e2, _, _⟩ := DataW.trod_int Tryd.underlying3 g2
    obtain ⟨x3, e3, _, _⟩ := DataW.trod_int Tryd.underlying3 g3
    simp at e2 e3
    exact ⟨⟨zs, cs, x2, x3⟩, ⟨a1, _, c1, a2, _, c2, by rw [e0, e1, e2, e3], rfl, rfl, hz, hc⟩, hz1, hc1⟩

set_option maxRecDepth 100000 in
theorem open_rule {H : Type} {enc : TypeId × Value → H} {W : World} {base b0 : Nat} {sp : Nat → Bool} {held : Bool} {r : Reach} {v : Value} {d : DataW H} {p : List MemPlace}
    (hv : Value.okWide Tryd.prog W r b0 48 v) (h : DataW.Trod enc Tryd.prog W base sp held 48 v d p) : ∃ r : RN, RepRule r v W ∧ Fin63 r := by
  obtain ⟨cs, rfl, hsz⟩ := okWide_struct Tryd.underlying48 hv
  obtain ⟨fuel, hf⟩ := h
  obtain ⟨r, hr, hf⟩ := trod_rule hf
  simp only [Value.cells] at hr
  exact ⟨r, ⟨_, by simp, hr⟩, hf⟩

set_option maxRecDepth 100000 in
theorem open_policy {H : Type} {enc : TypeId × Value → H} {W : World} {base b0 : Nat} {sp : Nat → Bool} {held : Bool} {r : Reach} {v : Value} {d : DataW H} {p : List MemPlace}
    (hv : Value.okWide Tryd.prog W r b0 24 v) (h : DataW.Trod enc Tryd.prog W base sp held 24 v d p) :
    ∃ p : PN, RepPol p v W ∧ p.rules.length ≤ 9223372036854775807 ∧ ∀ k, k < p.rules.length → Fin63 (p.rules.getD k r0) := by
  obtain ⟨v0, v1, v2, v3, y0, y1, y2, y3, m, rfl, rfl, rfl, g0, g1, g2, g3⟩ := open_agg4 Tryd.underlying24 (by kernel_rfl) cellsLPo hv h
  obtain ⟨x0, e0, _, _⟩ := DataW.trod_int Tryd.underlying3 g0
  obtain ⟨x1, e1, _, _⟩ := DataW.trod_int Tryd.underlying3 g1
  obtain ⟨x2, e2, _, _⟩ := DataW.trod_int Tryd.underlying3 g2
  obtain ⟨a, cap, rs, e3, hl, hx⟩ := open_segs r0 (fun r l => RuleL W r l ∧ Fin63 r) Tryd.underlying22 cellsLRu (by omega) (fun {m cs x} h hl => trod_rule h) g3
  simp at e0 e1 e2
  refine ⟨⟨x0, x1, x2, rs⟩, ⟨a, cap, by rw [e0, e1, e2, e3], fun hp => ?_⟩, hl, fun k hk => ?_⟩
  · obtain ⟨b, off, ha, hb, hc⟩ := hx hp
    refine ⟨b, off, ha, hb, fun j hj => ?_⟩
    obtain ⟨l, h1, h2, _⟩ := hc j hj
    exact ⟨l, h1, h2⟩
  · obtain ⟨b, off, ha, hb, hc⟩ := hx (by show 0 < rs.length; simp at hk; omega)
    obtain ⟨l, h1, _, h2⟩ := hc k hk
    exact h2

end Go.Proofs.YtojaohdmfahpmaaDoor

namespace Go.Proofs.YtojaohdmfahpmaaDoor.ShowPolicy
open Go.ChangeShapes Go.WideShapes Go.ChangeAt Go.RowKit
open Go.ChangeMaps (open_string shut_string)
set_option linter.unusedVariables false

theorem own : ownKnob Tryd.prog.godebug = none := by kernel_rfl
theorem laidOut : laidOutB Tryd.prog = true := by kernel_rfl
theorem cmsDatum : (Rows.laid_loop_example_g00397_impl_cmMarks : DataW Unit) = cmsD := by kernel_rfl
theorem gTab : Tryd.prog.globalNamed "internal/strconv.uint64pow10" = some 1 := by kernel_rfl
theorem gTabType : (Tryd.prog.globals[1]?).map (·.type) = some 96 := by kernel_rfl
theorem cellsP : Tryd.prog.cellsOf 96 = 20 := by kernel_rfl
theorem cellsE : Tryd.prog.cellsOf 88 = 1 := by kernel_rfl
theorem datum : (Rows.laid_internal_strconv_uint64pow10 : DataW Unit) = Lib.tabData .u64 Lib.pow10Tab := by kernel_rfl

/-- The row's list gives both tables' cells. -/
theorem table {W : World} (h : laidMetH Tryd.prog Rows.fnExactShowPolicyRow.laid W) : Pow W ∧ Cms W := by
  have h' : laidMet Tryd.prog [("math/bits.deBruijn32tab", Rows.laid_math_bits_deBruijn32tab), ("math/bits.deBruijn64tab", Rows.laid_math_bits_deBruijn64tab), ("internal/strconv.uint64pow10", Rows.laid_internal_strconv_uint64pow10), ("loop.example/g00397/impl.cmMarks", Rows.laid_loop_example_g00397_impl_cmMarks)] W := h
  obtain ⟨ps, ⟨g1, t1, cs1, f1, p1, q1, _, _, _, _, ⟨g2, t2, cs2, f2, p2, q2, _, _, _, _, ⟨g3, t3, cs3, f3, p3, q3, hg, ht, hv, hd, ⟨g4, t4, cs4, f4, p4, q4, hg4, ht4, hv4, hd4, _, _⟩, _⟩, _⟩, _⟩, _⟩ := h'
  obtain rfl := Option.some.inj (gTab.symm.trans hg)
  obtain rfl := Option.some.inj (gTabType.symm.trans ht)
  obtain rfl := Option.some.inj (gCms.symm.trans hg4)
  obtain rfl := Option.some.inj (gCmsType.symm.trans ht4)
  rw [datum] at hd
  rw [cmsDatum] at hd4
  have hT : Lib.TabIs Tryd.prog W "internal/strconv.uint64pow10" .u64 Lib.pow10Tab := by
    unfold Lib.TabIs
    rw [hv, ← Lib.cells_of_tab Tryd.underlying96 Tryd.underlying88 cellsE cellsP hd]
  exact ⟨⟨hT, World.block_lt_of_cell? W _ (hT.cell gTab 0 (by decide))⟩, cms_of_var hv4 hd4⟩

set_option maxRecDepth 100000 in
set_option maxHeartbeats 3200000 in
theorem walk (p : PN) (v : Value) (w : World) (hA : RepPol p v w ∧ p.rules.length ≤ 9223372036854775807 ∧ ∀ k, k < p.rules.length → Fin63 (p.rules.getD k r0)) (hP : Pow w) (hC : Cms w) :
    Calls Tryd.prog 3 #[v] w fun e w' => e = .returned (.bool true) ∧ Below w.heap.size w w' := by
  obtain ⟨hrep, hl63, hf63⟩ := hA
  have hfin : FinR p.rules := ⟨hl63, fun k hk => hf63 k hk⟩
  have HP : Hid (∀ W, Ext w W → RepPol p v W) := fun W hE => hrep.step hE
  have HT : Hid (∀ W, Ext w W → Pow W ∧ Cms W) := fun W hE => ⟨hP.ext hE, hC.ext hE⟩
  have HZ : Hid (∀ W, Ext w W → Calls Tryd.prog 4 #[v, .int .i64 ((1048576 : Nat) : Int)] W fun e w' => ((e = .returned (.int .i64 (-1))) ∨ ∃ m : Nat, e = .returned (.int .i64 (m : Int)) ∧ m ≤ 1048576 ∧ SmallR p.rules) ∧ Ext W w') := fun W hE => szPolicy_rep (by omega) hfin (HP.out W hE)
  obtain ⟨a, cap, rfl, hx⟩ := hrep
  clear hl63 hf63 hfin hx hP hC
  obtain ⟨T, hT⟩ : ∃ T, T = txt (showR p).1 := ⟨_, rfl⟩
  obtain ⟨z, hz⟩ : ∃ z, z = (showR p).2 := ⟨_, rfl⟩
  have HS : Hid (∀ {u : Value} {W : World}, SmallR p.rules → RepPol p u W → Calls Tryd.prog 5 #[u] W fun e w' => e = .returned (.tuple #[.string T, .bool z]) ∧ Ext W w') := fun {u W} h1 h2 => by rw [hT, hz]; exact sShow_any h1 h2
  have HI : Hid (∀ {u : Value} {W : World}, SmallR p.rules → RepPolC p u W → Pow W ∧ Cms W → Calls Tryd.prog 7 #[u] W fun e w' => e = .returned (.tuple #[.string T, .bool z]) ∧ Ext W w') := fun {u W} h1 h2 h3 => by rw [hT, hz]; exact iShow_any h1 h2 h3.1 h3.2
  clear hT hz
  generalize p.arch = ar at *
  generalize p.act = ac at *
  generalize p.data = da at *
  generalize p.rules.length = n at *
  have C1 := CellsAt.new w [.int .i64 ar, .int .i64 ac, .int .i64 da, .slice a n cap] 24
  have e0 : Hid (Ext w (w.alloc (.cells #[.int .i64 ar, .int .i64 ac, .int .i64 da, .slice a n cap] 24))) := Ext.one _ _
  simp only [List.toArray] at C1
  go_enter Tryd.func3, Tryd.ntmps3
  go_wp2_with fail
  generalize w.alloc (.cells #[.int .i64 ar, .int .i64 ac, .int .i64 da, .slice a n cap] 24) = W0 at *
  refine (HZ.out _ e0.out).mono ?_
  rintro e w1 ⟨hor, x1⟩
  have e1 : Hid (Ext w w1) := e0.out.trans x1
  have c1 := C1.step x1
  clear x1 HZ e0 C1
  rcases hor with rfl | ⟨k, rfl, hm, hs⟩
  · clear c1
    go_wp2
    go_ret
    exact ⟨rfl, e1.out⟩
  have hk0 : ¬ (k : Int) < 0 := by omega
  clear hm
  obtain ⟨q0, q1, q2, q3⟩ := (⟨c1.2 0 _ rfl, c1.2 1 _ rfl, c1.2 2 _ rfl, c1.2 3 _ rfl⟩ : _ ∧ _ ∧ _ ∧ _)
  go_wp2_with fail
  refine (toPolicy_rep hs (HP.out _ e1.out)).mono ?_
  rintro e w2 ⟨u2, rfl, r2, x2⟩
  have e2 : Hid (Ext w w2) := e1.out.trans x2
  have c2 := c1.step x2
  clear x2 q0 q1 q2 q3 c1 e1 hk0
  go_wp2_with fail
  refine (HS.out hs r2).mono ?_
  rintro e w3 ⟨rfl, x3⟩
  have e3 : Hid (Ext w w3) := e2.out.trans x3
  have c3 := c2.step x3
  clear x3 r2 c2 e2 HS
  obtain ⟨q0, q1, q2, q3⟩ := (⟨c3.2 0 _ rfl, c3.2 1 _ rfl, c3.2 2 _ rfl, c3.2 3 _ rfl⟩ : _ ∧ _ ∧ _ ∧ _)
  go_wp2_with fail
  refine (toPolicy_repC hs (HP.out _ e3.out)).mono ?_
  rintro e w4 ⟨u4, rfl, r4, x4⟩
  have e4 : Hid (Ext w w4) := e3.out.trans x4
  have c4 := c3.step x4
  clear x4 q0 q1 q2 q3 c3 e3
  have HR4 : Hid (∀ W, Ext w4 W → RepPolC p u4 W) := fun W hE => r4.step hE
  obtain ⟨a4, cap4, rfl, hw4⟩ := r4
  clear hw4
  generalize p.arch = ar4 at *
  generalize p.act = ac4 at *
  generalize p.data = da4 at *
  generalize p.rules.length = n4 at *
  have c5 := c4.step (Ext.one w4 (.cells #[.int .i64 ar4, .int .i64 ac4, .int .i64 da4, .slice a4 n4 cap4] 30))
  have x5 := CellsAt.new w4 [.int .i64 ar4, .int .i64 ac4, .int .i64 da4, .slice a4 n4 cap4] 30
  have e45 : Hid (Ext w4 (w4.alloc (.cells #[.int .i64 ar4, .int .i64 ac4, .int .i64 da4, .slice a4 n4 cap4] 30))) := Ext.one _ _
  simp only [List.toArray] at x5 c5
  clear c4
  go_wp2_with fail
  generalize w4.alloc (.cells #[.int .i64 ar4, .int .i64 ac4, .int .i64 da4, .slice a4 n4 cap4] 30) = W5 at *
  have e5 : Hid (Ext w W5) := e4.out.trans e45.out
  refine (HI.out hs (HR4.out _ e45.out) (HT.out _ e5.out)).mono ?_
  rintro e w6 ⟨rfl, x6⟩
  have e6 : Hid (Ext w w6) := e5.out.trans x6
  have e46 : Hid (Ext w4 w6) := e45.out.trans x6
  have c6 : Hid (CellsAt w6 w.heap.size [.int .i64 ar, .int .i64 ac, .int .i64 da, .slice a n cap] ∧ CellsAt w6 w4.heap.size [.int .i64 ar4, .int .i64 ac4, .int .i64 da4, .slice a4 n4 cap4]) := ⟨c5.step x6, x5.step x6⟩
  clear x6 c5 x5 e5 e45 HI
  have hzz : (z != z) = false := by cases z <;> rfl
  have htt : (T.toList == T.toList) = true := by simp
  go_wp2_with fail
  refine' wp_region_loose (.inl _ :: .inl _ :: .inr (RepPol p) :: .inl _ :: .inl _ :: []) (fun w' => CellsAt w' w.heap.size [.int .i64 ar, .int .i64 ac, .int .i64 da, .slice a n cap] ∧ CellsAt w' w4.heap.size [.int .i64 ar4, .int .i64 ac4, .int .i64 da4, .slice a4 n4 cap4]) (by kernel_rfl) (by kernel_rfl) (c6.out) (fun _ _ h hE => ⟨h.1.step hE, h.2.step hE⟩) ?hAc ?hlc ?hMc
  case' hMc => skip
  apply wpLoose_val rfl rfl
  case hs =>
    intro w1 hC hd Q1 hQ1
    obtain ⟨hE, hS⟩ := hC
    dsimp only [bare]
    obtain ⟨q0, q1, q2, q3, s0, s1, s2, s3⟩ := (⟨hS.1.2 0 _ rfl, hS.1.2 1 _ rfl, hS.1.2 2 _ rfl, hS.1.2 3 _ rfl, hS.2.2 0 _ rfl, hS.2.2 1 _ rfl, hS.2.2 2 _ rfl, hS.2.2 3 _ rfl⟩ : _ ∧ _ ∧ _ ∧ _ ∧ _ ∧ _ ∧ _ ∧ _)
    clear hd hE
    try clear hS
    go_wp2
    exact Ext.refl _
  case ha => rfl
  apply wpLoose_val rfl rfl
  case hs =>
    intro w1 hC hd Q1 hQ1
    obtain ⟨hE, hS⟩ := hC
    dsimp only [bare]
    obtain ⟨q0, q1, q2, q3, s0, s1, s2, s3⟩ := (⟨hS.1.2 0 _ rfl, hS.1.2 1 _ rfl, hS.1.2 2 _ rfl, hS.1.2 3 _ rfl, hS.2.2 0 _ rfl, hS.2.2 1 _ rfl, hS.2.2 2 _ rfl, hS.2.2 3 _ rfl⟩ : _ ∧ _ ∧ _ ∧ _ ∧ _ ∧ _ ∧ _ ∧ _)
    clear hd hE
    try clear hS
    go_wp2
    exact Ext.refl _
  case ha => rfl
  refine wpLoose_rel rfl rfl ?_ (fun vc_2 => ?_)
  · intro w1 hC hd Q1 hQ1
    obtain ⟨hE, hS⟩ := hC
    dsimp only [bare]
    clear hd hS
    go_wp2_with fail
    refine (toPolicy_rep hs (HP.out _ (e6.out.drew.trans hE))).mono ?_
    rintro e w2 ⟨u2, rfl, r2, x2⟩
    go_wp2_with fail
    exact hQ1 _ _ x2 r2
  apply wpLoose_val rfl rfl
  case hs =>
    intro w1 hC hd Q1 hQ1
    obtain ⟨hE, hS⟩ := hC
    dsimp only [bare]
    have h2 := hd ⟨2, .data⟩ (by simp) rfl _ rfl (by simp [Act.put])
    clear hd
    go_wp2_with fail
    refine (eqPolicy_rep hs (HR4.out _ (e46.out.drew.trans hE)).pol h2).mono ?_
    rintro e w2 ⟨rfl, hb⟩
    go_wp2_with fail
    exact hb
  case ha => rfl
  apply wpLoose_val rfl rfl
  case hs =>
    intro w1 hC hd Q1 hQ1
    obtain ⟨hE, hS⟩ := hC
    dsimp only [bare]
    obtain ⟨q0, q1, q2, q3, s0, s1, s2, s3⟩ := (⟨hS.1.2 0 _ rfl, hS.1.2 1 _ rfl, hS.1.2 2 _ rfl, hS.1.2 3 _ rfl, hS.2.2 0 _ rfl, hS.2.2 1 _ rfl, hS.2.2 2 _ rfl, hS.2.2 3 _ rfl⟩ : _ ∧ _ ∧ _ ∧ _ ∧ _ ∧ _ ∧ _ ∧ _)
    clear hd hE
    try clear hS
    go_wp2
    exact Ext.refl _
  case ha => rfl
  refine wpLoose_nil ?_
  intro wc hEc hSc hFc
  · have e7 : Hid (Ext w wc) := e6.out.drew.trans hEc
    clear hEc hSc hFc c6
    go_wp2
    go_ret
    exact ⟨rfl, e7.out⟩
  case hAc => kernel_rfl
  case hlc => exact ⟨trivial, trivial, fun _ _ _ h hE => h.step hE, trivial, trivial, trivial⟩

theorem contract (H : Type) (enc : TypeId × Value → H) (W : World) (base : Nat) (args : Array Value) (ds gs : List (DataW H)) (before : List MemPlace)
    (hval : ∀ (j : Nat) t v, Tryd.f3.params[j]? = some t → args[j]? = some v → Value.okWide Tryd.prog W .any base t v)
    (hW : DataW.Whole enc Tryd.prog Tryd.f3.params.toList Rows.fnExactShowPolicySpec.vars false W args.toList ds gs before) (hL : laidMetH Tryd.prog Rows.fnExactShowPolicyRow.laid W) :
    Calls Tryd.prog 3 args W fun e W' => ∃ v, e = .returned v ∧ Rows.fnExactShowPolicySpec.post enc Tryd.prog Tryd.f3 false true false false W args v W' := by
  have hW' := hW
  obtain ⟨p, q, hA0, hV, rfl, hfz, hnd⟩ := hW
  have hA : DataW.TrodAll enc Tryd.prog W 0 (fun _ => true) true Tryd.f3.params.toList args.toList ds p := hA0
  rw [Tryd.params3] at hA hval
  obtain ⟨v0, vs0, d0, ds0, p0, q0, hargs, rfl, rfl, h0, r0⟩ := trodAll_cons hA
  obtain ⟨rfl, rfl, rfl⟩ := trodAll_nil r0
  obtain rfl : args = #[v0] := by cases args; simp_all
  have hV0 := hV
  obtain ⟨gi, gt, gcs, gfuel, gd, gp, rfl, _, _, _, _, _⟩ := trodVars_one hV0
  have lt0 : ∀ x ∈ p0, x.block < W.heap.size := by obtain ⟨m, hm⟩ := h0; exact DataW.trod_lt m _ _ _ hm
  have k0 := h0
  obtain ⟨p0x, hp0⟩ := open_policy (hval 0 24 v0 rfl rfl) h0
  clear hA0
  refine (walk p0x v0 W hp0 (table hL).1 (table hL).2).mono fun e W' ⟨he, bel⟩ => ?_
  subst he
  exact ⟨_, rfl, _, _, _, [], _, q, hW', trodAll_mk1 (shut_bool Tryd.underlying4 _), (trodAll_cons_mk (Below.trod laidOut (by kernel_rfl) (of_decide_eq_true (by kernel_rfl)) k0 bel lt0) trodAll_mk0), bel.trodVars laidOut (by kernel_rfl) hV, bel.frame _, fun h => by cases h⟩

/-- A listed table's cells. -/
def tabCells : DataW Unit → Array Value
  | .agg l => (l.map fun | .lit (.int k n) => Value.int k n | .lit (.string s) => Value.string ⟨s.toArray⟩ | _ => Value.int .i64 0).toArray
  | _ => #[]
def setCells (cs : Array Value) : Obj → Obj
  | .cells _ t fr => .cells cs t fr
  | o => o
/-- A world in which the tables hold what their initialisers lay. -/
def withTabs (w : World) : World := { w with heap := (((w.heap.modify 0 (setCells (tabCells Rows.laid_loop_example_g00397_impl_cmMarks))).modify 1 (setCells (tabCells Rows.laid_internal_strconv_uint64pow10))).modify 2 (setCells (tabCells Rows.laid_math_bits_deBruijn32tab))).modify 3 (setCells (tabCells Rows.laid_math_bits_deBruijn64tab)) }

theorem laid_met (os : Os) : laidMet Tryd.prog Rows.fnExactShowPolicyRow.laid ((withTabs (World.holding Tryd.prog os ⟨#[], #[], []⟩)).forCall (fun _ _ => 0) ⟨#[], #[.agg #[.int .i64 0, .int .i64 0, .int .i64 0, .slice none 0 0]], []⟩).memory :=
  laidMet_of_run' 8 (by kernel_rfl) (by kernel_rfl)
theorem reads (os : Os) {H : Type} (enc : TypeId × Value → H) : ∃ places, DataW.whole enc Tryd.prog ((withTabs (World.holding Tryd.prog os ⟨#[], #[], []⟩)).forCall (fun _ _ => 0) ⟨#[], #[.agg #[.int .i64 0, .int .i64 0, .int .i64 0, .slice none 0 0]], []⟩).memory Tryd.f3.params.toList Rows.fnExactShowPolicySpec.vars false #[Value.agg #[.int .i64 0, .int .i64 0, .int .i64 0, .slice none 0 0]].toList 8 = some ([.agg [.lit (.int .i64 0), .lit (.int .i64 0), .lit (.int .i64 0), .nil]], [Rows.laid_loop_example_g00397_impl_cmMarks], places) :=
  ⟨MemPlace.row ⟨0, 0, none⟩ 7, by kernel_rfl⟩

set_option maxRecDepth 100000 in
theorem lifted (os : Os) (started : os.Started) (H : Type) (enc : TypeId × Value → H) (F : Stop.Interp) :
    ReturnsInHanded {} Tryd.checked os 3 .any ((OpenSpec.ofChange Rows.fnExactShowPolicySpec).preRow enc Tryd.prog Tryd.f3 Rows.fnExactShowPolicyRow.domain false Rows.fnExactShowPolicyRow.laid) (((OpenSpec.ofChange Rows.fnExactShowPolicySpec).at F).post enc Tryd.prog Tryd.f3 false true false false) := by
  obtain ⟨places, hx⟩ := reads os enc
  refine returnsInHanded_of_row (C := Tryd.checked) (s := OpenSpec.ofChange Rows.fnExactShowPolicySpec) own started (by kernel_rfl) Tryd.func3
    (witness_row_at (enc := enc) (C := Tryd.checked) false (withTabs (World.holding Tryd.prog os ⟨#[], #[], []⟩)) #[.agg #[.int .i64 0, .int .i64 0, .int .i64 0, .slice none 0 0]] rfl (by kernel_rfl) (by kernel_rfl) (by kernel_rfl)
      (OpenSpec.preRow_of_cond 8 hx (by kernel_rfl) (fun k hk => by cases hk) (by kernel_rfl) (laid_met os))) ?_
  intro W base args ds gs before hval hW _ _ _ hL _ _
  exact contract H enc W base args ds gs before hval hW hL

theorem said : Rows.FnExactShowPolicySaid :=
  OpenClaim.holds_of_cond 3 Tryd.f3 rfl rfl rfl rfl rfl rfl rfl ⟨rfl, rfl, rfl, rfl, rfl⟩ rfl rfl rfl rfl rfl (by kernel_rfl) Tryd.func3 (by kernel_rfl)
    (of_decide_eq_true (by kernel_rfl)) (by unfold Func.isWrapper; first | (rw [if_pos (by decide +kernel)]; kernel_rfl) | (rw [if_neg (by decide +kernel)]; exact ⟨rfl, rfl⟩))
    (fun os started H enc _ F => by rw [OpenClaim.pre_eq_preRow]; exact lifted os started H enc F)

theorem plain (f : FuncId) (fn : Func) (hf : Tryd.pinned.checked.prog.funcNamed "loop.example/g00397/laws.FnExactShowPolicy" = some f) (hfn : Tryd.pinned.checked.prog.funcs[f]? = some fn) :
    false = Tryd.pinned.checked.prog.looks [] ∧ ∀ (j : Nat) t, fn.params[j]? = some t → Tryd.pinned.checked.prog.wantsStandIn t = false := by
  obtain rfl : f = 3 := Option.some.inj ((show Tryd.prog.funcNamed "loop.example/g00397/laws.FnExactShowPolicy" = some 3 by kernel_rfl).symm.trans hf) |>.symm
  obtain rfl : fn = Tryd.f3 := (Option.some.inj (Tryd.func3.symm.trans hfn)).symm
  refine ⟨by kernel_rfl, fun j t ht => ?_⟩
  rw [Tryd.params3] at ht
  obtain rfl : t = 24 := by simpa using Array.mem_of_getElem? ht
  exact (show Tryd.prog.wantsStandIn 24 = false by kernel_rfl)

end Go.Proofs.YtojaohdmfahpmaaDoor.ShowPolicy
namespace Go.Proofs.YtojaohdmfahpmaaDoor
open Go.ChangeShapes Go.WideShapes Go.ChangeAt Go.RowKit

theorem showPolicy_card : Rows.FnExactShowPolicyCardSaid :=
  Claim7.holds_tied_plain_at .later [] _ _ _ _ ShowPolicy.said (fun _ h => by cases h) (by kernel_rfl) (fun _ h => by cases h) fnExactShowPolicy_row_tie rfl ⟨rfl, rfl⟩ (by kernel_rfl) rfl ShowPolicy.plain (by kernel_rfl)
#print axioms showPolicy_card
end Go.Proofs.YtojaohdmfahpmaaDoor
