/- What impl's and spec's SignText answer of every row of signs: their texts, with a blank between. -/
import Derived.Test.YtfhkafbcopolcaaDoorSignSl
import Derived.Test.YtfhkafbcopolcaaDoorDecI
import Derived.Test.YtfhkafbcopolcaaDoorInfoB
import Derived.Lib.AppendStr
import Derived.Test.YtfhkafbcopolcaaDoorDecLib
import Derived.Laws.Concat
namespace Go.Proofs.YtfhkafbcopolcaaDoor
open Go.RowKit
set_option linter.unusedVariables false

/-- A sign's text. -/
def txL (p : Sg) : List UInt8 := if p.1 = 2 then decS p.2.2.toNat else p.2.1

/-- The texts of the first k signs. -/
def textN (ps : List Sg) : Nat → List UInt8
  | 0 => []
  | k + 1 => textN ps k ++ ((if k = 0 then [] else [32]) ++ txL (ps.getD k zeroG))

theorem decS_len (n : Nat) (h : n < 10 ^ 19) : (decS n).length ≤ 19 := by
  unfold decS
  split
  · simp
  · have key : ∀ k n : Nat, n < 10 ^ k → (dec n).length ≤ k := by
      intro k
      induction k with
      | zero => intro n h; obtain rfl : n = 0 := by simpa using h
                simp [dec_zero]
      | succ k ih =>
        intro n h
        by_cases h0 : n = 0
        · subst h0; simp [dec_zero]
        · rw [dec_pos n (by omega)]
          have := ih (n / 10) (by rw [Nat.pow_succ] at h; omega)
          simp
          omega
    exact key 19 n h

theorem dec_step (n : Nat) (h : 9 < n) : decS n = decS (n / 10) ++ [hexD (n % 10)] := by
  unfold decS
  rw [if_neg (by omega), if_neg (by omega), dec_pos n (by omega)]

theorem decS_one (n : Nat) (h : n ≤ 9) : decS n = [hexD n] := by
  unfold decS
  by_cases h0 : n = 0
  · subst h0; rfl
  · rw [if_neg h0, dec_pos n (by omega), show n / 10 = 0 by omega, dec_zero, show n % 10 = n by omega]; rfl

set_option maxRecDepth 100000 in
set_option maxHeartbeats 1000000 in
theorem figures_nat (n0 : Nat) (w : World) (hn : n0 ≤ 9223372036854775807) :
    Calls Tryd.prog 36 #[.int .i64 (n0 : Int)] w fun e w' => e = .returned (.string (txt (decS n0))) ∧ Ext w w' := by
  have h20 : (decS n0).length ≤ 19 := decS_len n0 (by have : (10 : Nat) ^ 19 = 10000000000000000000 := by decide
                                                      omega)
  have H20 : Hid ((decS n0).length ≤ 19) := h20
  clear h20
  have d0 : decide ((n0 : Int) < 0) = false := by simp
  go_enter Tryd.func36, Tryd.ntmps36
  go_wp2
  go_loopw [0, 3] (fun n s wr => ∃ (m : Nat) (l : List UInt8), n = .int .i64 m ∧ s = .string (txt l) ∧ m ≤ n0 ∧ Hid (decS n0 = decS m ++ l) ∧ Ext w wr)
    (fun n _ _ => (intOf n).toNat)
  case atStart => exact ⟨n0, [], rfl, rfl, by omega, by simp [Hid], Ext.refl _⟩
  case round =>
    obtain ⟨m, l, rfl, rfl, hm, hD, hb⟩ := hrel
    have hl : l.length ≤ 19 := by have h1 := congrArg List.length hD.out; have := H20.out; simp at h1; omega
    unfold txt
    by_cases h : 9 < m
    · have hmi : (9 : Int) < (m : Int) := by omega
      obtain ⟨b, hbb⟩ : ∃ b, b = hexD (m % 10) := ⟨_, rfl⟩
      have hD' : Hid (decS n0 = decS (m / 10) ++ (b :: l)) := by unfold Hid; rw [hD.out, dec_step m h, hbb]; simp
      have hcv := conv_one wr (48 + (m : Int) % 10) b (by rw [hbb, hexD_toNat _ (by omega)]; unfold hexN; rw [if_pos (by omega)]; omega)
      have hadd := fun wx => add_cons (P := Tryd.prog) wx b l (by omega)
      clear hbb hD
      go_wp2
      go_roundw
      case rel => exact ⟨m / 10, b :: l, by go_num, rfl, by omega, hD', hb.alloc _⟩
      case measure => simp [intOf]; omega
    · have hmi : ¬ (9 : Int) < (m : Int) := by omega
      obtain ⟨b, hbb⟩ : ∃ b, b = hexD m := ⟨_, rfl⟩
      have HF : Hid (decS n0 = b :: l) := by unfold Hid; rw [hD.out, decS_one m (by omega), hbb]; rfl
      have hcv := conv_one wr (48 + (m : Int)) b (by rw [hbb, hexD_toNat _ (by omega)]; unfold hexN; rw [if_pos (by omega)]; omega)
      have hadd := fun wx => add_cons (P := Tryd.prog) wx b l (by omega)
      clear hbb hD
      go_wp2
      go_ret
      exact ⟨by rw [HF.out]; rfl, hb.alloc _⟩

theorem figures_neg (n : Int) (w : World) (hn : n < 0) :
    Calls Tryd.prog 36 #[.int .i64 n] w fun e w' => e = .returned (.string (txt (decS 0))) ∧ Ext w w' := by
  have hcv := conv_one w 48 48 rfl
  have hadd := fun wx => add_cons (P := Tryd.prog) wx 48 [] (by simp)
  go_enter Tryd.func36, Tryd.ntmps36
  go_wp2
  refine wp_loop_rounds 1 ?_
  rw [rounds_succ]
  go_wp2
  go_ret
  exact ⟨rfl, Ext.one _ _⟩

theorem figures_any (n : Int) (w : World) (h1 : n ≤ 9223372036854775807) :
    Calls Tryd.prog 36 #[.int .i64 n] w fun e w' => e = .returned (.string (txt (decS n.toNat))) ∧ Ext w w' := by
  by_cases h : n < 0
  · rw [show n.toNat = 0 by omega]
    exact figures_neg n w h
  · obtain ⟨m, rfl⟩ : ∃ m : Nat, n = (m : Int) := ⟨n.toNat, by omega⟩
    have := figures_nat m w (by omega)
    simpa using this

theorem gTab8 : Tryd.prog.globalNamed "internal/strconv.uint64pow10" = some 0 := by kernel_rfl

/-- The library's table of powers holds what its text lays. -/
def Pow (w : World) : Prop := Lib.TabIs Tryd.prog w "internal/strconv.uint64pow10" .u64 Lib.pow10Tab ∧ 0 < w.heap.size

theorem Pow.ext {w w' : World} (h : Pow w) (hE : Ext w w') : Pow w' := ⟨var?_below hE gTab8 h.2 h.1, Nat.lt_of_lt_of_le h.2 hE.size⟩

theorem itoa_nat (m : Nat) : Lib.itoa (m : Int) = decS m := by
  rw [decS_digits m m (Nat.le_refl _)]
  unfold Lib.itoa
  rw [if_neg (by omega)]
  simp

theorem dec_nat (m : Nat) (w : World) (h1 : m ≤ 9223372036854775807) (hP : Pow w) : Calls Tryd.prog 40 #[.int .i64 (m : Int)] w fun e w' => e = .returned (.string (txt (decS m))) ∧ Ext w w' := by
  have := iDec_any (m : Int) w (by omega) (by omega) hP.1
  rw [itoa_nat] at this
  exact this

set_option maxRecDepth 100000 in
set_option maxHeartbeats 1000000 in
theorem word_of (k : Int) (l : List UInt8) (n : Int) (w : World) (h1 : n ≤ 9223372036854775807) (hP : Pow w) :
    Calls Tryd.prog 23 #[.agg #[.int .i64 k, .string (txt l), .int .i64 n]] w fun e w' => e = .returned (.string (txt (txL (k, l, n)))) ∧ Ext w w' := by
  have HP : Hid (Pow w) := hP
  clear hP
  obtain ⟨T, hT⟩ : ∃ T, T = txt l := ⟨_, rfl⟩
  rw [← hT]
  by_cases hk : k = 2
  · subst hk
    obtain ⟨u, hu⟩ : ∃ u, u = txt (txL (2, l, n)) := ⟨_, rfl⟩
    rw [← hu]
    have HU : Hid (u = txt (decS n.toNat)) := by rw [hu]; rfl
    clear hu hT
    by_cases hn : 0 ≤ n
    · obtain ⟨m, rfl⟩ : ∃ m : Nat, n = (m : Int) := ⟨n.toNat, by omega⟩
      have HD : Hid (∀ w : World, Pow w → Calls Tryd.prog 40 #[.int .i64 (m : Int)] w fun e w' => e = .returned (.string u) ∧ Ext w w') := fun w hp => by rw [HU.out]; exact dec_nat m w (by omega) hp
      go_enter Tryd.func23, Tryd.ntmps23
      go_wp2_with (go_at_call 40; refine (HD.out _ (HP.out.ext (Ext.one _ _))).mono ?_; rintro e w2 ⟨rfl, e2⟩)
      go_ret
      exact ⟨rfl, (Ext.one _ _).trans e2⟩
    · have hmx : max n 0 = 0 := by omega
      have HD : Hid (∀ w : World, Pow w → Calls Tryd.prog 40 #[.int .i64 0] w fun e w' => e = .returned (.string u) ∧ Ext w w') := fun w hp => by rw [HU.out, show n.toNat = 0 by omega]; exact dec_nat 0 w (by omega) hp
      go_enter Tryd.func23, Tryd.ntmps23
      go_wp2_with (go_at_call 40; refine (HD.out _ (HP.out.ext (Ext.one _ _))).mono ?_; rintro e w2 ⟨rfl, e2⟩)
      go_ret
      exact ⟨rfl, (Ext.one _ _).trans e2⟩
  · have HU : Hid (txL (k, l, n) = l) := by unfold Hid txL; rw [if_neg hk]
    have dk : (k == 2) = false := by simpa using hk
    rw [HU.out, ← hT]
    clear hT hk
    go_enter Tryd.func23, Tryd.ntmps23
    go_wp2
    go_ret
    exact ⟨rfl, Ext.one _ _⟩

theorem strCells_T (l : List UInt8) : Lib.strCells (txt l) = bytesV l := by
  unfold Lib.strCells bytesV txt
  first | rfl | simp

/-- What one more sign adds. -/
def moreL (ps : List Sg) (k : Nat) : List UInt8 := (if k = 0 then [] else [32]) ++ txL (ps.getD k zeroG)

theorem textN_succ (ps : List Sg) (k : Nat) : textN ps (k + 1) = textN ps k ++ moreL ps k := rfl

set_option maxRecDepth 100000 in
set_option maxHeartbeats 2000000 in
theorem iText_any (a : Option Addr) (cap : Nat) (ps : List Sg) (w : World) (hl : ps.length ≤ 1048576) (h : Signs w a ps) (hB : ∀ k, k ≤ ps.length → (textN ps k).length ≤ 100000000) (hN : ∀ p ∈ ps, p.2.2 ≤ 9223372036854775807) (hP : Pow w) :
    Calls Tryd.prog 7 #[.slice a ps.length cap] w fun e w' => e = .returned (.string (txt (textN ps ps.length))) ∧ Ext w w' := by
  obtain ⟨i0, hi, hz0, hz1, hz2⟩ := info_parts Tryd.infoB
  obtain ⟨n, hn⟩ : ∃ n, n = ps.length := ⟨_, rfl⟩
  have HA : Hid (Signs w a ps ∧ n = ps.length ∧ (∀ k, k ≤ n → (textN ps k).length ≤ 100000000) ∧ (∀ p ∈ ps, p.2.2 ≤ 9223372036854775807) ∧ Pow w) := ⟨h, hn, by rw [hn]; exact hB, hN, hP⟩
  rw [← hn]
  have hl' : n ≤ 1048576 := by omega
  clear h hn hl hB hN hP
  go_enter Tryd.func7, Tryd.ntmps7
  go_wp2_with fail
  go_loopw [3, 8] (fun v i wr => ∃ (k m : Nat) (l : List UInt8), i = .int .i64 k ∧ k ≤ n ∧ m ≤ 100000000 ∧ Hid (l = textN ps k ∧ m = l.length) ∧ wr.ownsRow w.heap.size 5 1 v m (bytesV l) ∧ Ext w wr) (fun _ i _ => n - (intOf i).toNat)
  case atStart => exact ⟨0, 0, [], rfl, by omega, by omega, ⟨rfl, rfl⟩, World.ownsRow_nil _ _ _ _, Ext.refl _⟩
  case round =>
    obtain ⟨k, m, l, rfl, hk, hm, HL, hown, hE⟩ := hrel
    obtain ⟨ao, co, hv, _⟩ := own_slice8 hown
    by_cases hlt : k < n
    · have bk : (k : Int) < (n : Int) := by omega
      obtain ⟨⟨kd, tl, nm⟩, hp⟩ : ∃ p, p = ps.getD k zeroG := ⟨_, rfl⟩
      have hkp : k < ps.length := by have := HA.out.2.1; omega
      obtain ⟨b1, o1, rfl, p1⟩ := (HA.out.1.ext hE).tri (k := k) hkp
      rw [← hp] at p1
      simp only at p1
      have hnm : nm ≤ 9223372036854775807 := by
        have := HA.out.2.2.2.1 (ps.getD k zeroG) (by rw [List.getD_eq_getElem?_getD, List.getElem?_eq_getElem hkp]; exact List.getElem_mem hkp)
        rw [← hp] at this
        exact this
      obtain ⟨T, hT⟩ : ∃ T, T = txt tl := ⟨_, rfl⟩
      rw [← hT] at p1
      obtain ⟨c0, c1, c2⟩ := p1
      obtain ⟨u, hu⟩ : ∃ u, u = txL (kd, tl, nm) := ⟨_, rfl⟩
      have HW : Hid (∀ w : World, Pow w → Calls Tryd.prog 23 #[.agg #[.int .i64 kd, .string T, .int .i64 nm]] w fun e w' => e = .returned (.string (txt u)) ∧ Ext w w') := fun w hp => by rw [hT, hu]; exact word_of kd tl nm w hnm hp
      have HM : Hid (textN ps (k + 1) = l ++ ((if k = 0 then [] else [32]) ++ u)) := by
        unfold Hid
        rw [textN_succ, HL.out.1]
        unfold moreL
        rw [← hp, hu]
      have HX : Hid (l.length + ((if k = 0 then [] else [32] : List UInt8) ++ u).length ≤ 100000000) := by
        have h1 := HA.out.2.2.1 (k + 1) (by omega)
        rw [HM.out, List.length_append] at h1
        exact h1
      have hul : u.length ≤ 100000000 := by have := HX.out; simp at this; omega
      have hsu : (txt u).size = u.length := by show u.toArray.size = _; simp
      have hPw : Hid (Pow wr) := HA.out.2.2.2.2.ext hE
      have HE : Hid (Ext w wr) := hE
      have hzz := hE.size
      have hml : m = l.length := HL.out.2
      have HML : Hid (m = l.length) := hml
      subst hv
      clear hp hT hu hml hE
      by_cases hk0 : k = 0
      · have HM0 : Hid (textN ps (k + 1) = l ++ u) := by unfold Hid; rw [HM.out, if_pos hk0]; simp
        have hmu : m + u.length ≤ 100000000 := by have h1 := HX.out; have h2 := HML.out; rw [if_pos hk0] at h1; simp at h1; omega
        have dk0 : decide (0 < k) = false := by simp; omega
        clear hk0
        obtain ⟨U, hU⟩ : ∃ U, U = txt u := ⟨_, rfl⟩
        rw [← hU] at hsu HW
        have HU : Hid (U = txt u) := hU
        clear HM HX hU
        go_wp2_with fail
        refine (HW.out _ (hPw.out.ext (Ext.one _ _))).mono ?_
        rintro e w2 ⟨rfl, e2⟩
        have hx2 : Ext wr w2 := (Ext.one _ _).trans e2
        have hown2 := own_below hown hx2
        have E2 : Hid (Ext w w2) := HE.out.trans hx2
        have hzz2 := E2.out.size
        clear e2 hx2 HW c0 c1 c2 hown
        go_wp2_with (at_builtin; refine Lib.wpList_append_own_string _ rfl _ _ 22 9 rfl w.heap.size 5 i0 Tryd.underlying22 Tryd.underlying9 hi hz0 hz1 hz2 _ m _ rfl hown2 U rfl ?c1 ?c2 ?c3 ?_)
        case c1 => rw [hsu]; unfold maxLen; omega
        case c2 => rw [hsu]; omega
        case c3 => exact hzz2
        · intro v' w3 hown3 hgrow _
          have O3 : Hid (w3.ownsRow w.heap.size 5 1 v' (m + u.length) (bytesV (l ++ u))) := by
            rw [HU.out, strCells_T, show bytesV l ++ bytesV u = bytesV (l ++ u) by simp [bytesV]] at hown3
            first | exact hown3 | (rw [← HU.out, hsu] at hown3; exact hown3)
          have E3 : Hid (Ext w w3) := Below.grown E2.out hgrow hzz2 (fun x hx => (hown2.lt x hx).1)
          clear hgrow hown2 hown3
          go_wp2
          go_roundw
          case rel => exact ⟨k + 1, m + u.length, l ++ u, by go_num, by omega, hmu, ⟨HM0.out.symm, by have := HML.out; simp; omega⟩, O3.out, E3.out⟩
          case measure => simp [intOf]; omega
      · have HM0 : Hid (textN ps (k + 1) = l ++ [32] ++ u) := by unfold Hid; rw [HM.out, if_neg hk0]; simp
        have hmu : m + 1 + u.length ≤ 100000000 := by have h1 := HX.out; have h2 := HML.out; rw [if_neg hk0] at h1; simp at h1; omega
        have dk0 : decide (0 < k) = true := by simp; omega
        obtain ⟨U, hU⟩ : ∃ U, U = txt u := ⟨_, rfl⟩
        rw [← hU] at hsu HW
        have HU : Hid (U = txt u) := hU
        clear HM HX hU hk0
        have hob := hown.alloc (.cells #[.int .i64 kd, .string T, .int .i64 nm] 44)
        go_wp2_with (at_builtin; refine wpList_append_own _ rfl _ _ 22 rfl w.heap.size 5 i0 (.int .u8 0) 1 1 Tryd.underlying22 hi hz0 hz1 hz2 rfl (by decide) _ m _ rfl (hob.alloc _) ⟨wr.heap.size + 1, 0, none⟩ 1 1 [.int .u8 32] rfl rfl ?c1 ?c2 ?c3 ?c4 ?c5 ?_)
        case c1 =>
          intro j x hx
          have := (CellsAt.new' (wr.alloc (.cells #[.int .i64 kd, .string T, .int .i64 nm] 44)) [.int .u8 32] 5 (wr.heap.size + 1) (by simp)).2 j x hx
          rw [Addr.add_lit, Nat.zero_add]
          exact this
        case c2 => intro x hx; simp at hx; subst hx; rfl
        case c3 => unfold maxLen; omega
        case c4 => omega
        case c5 => simp; omega
        · intro v1 w1 hown1 hgrow1 _
          have O1 : Hid (w1.ownsRow w.heap.size 5 1 v1 (m + 1) (bytesV (l ++ [32]))) := by
            rw [bytesV_push l 32 32 rfl] at hown1
            exact hown1
          have E1 : Hid (Ext w w1) := Below.grown ((HE.out.alloc _).alloc _) hgrow1 (by simp; omega) (fun x hx => (hob.lt x hx).1)
          have Ew : Hid (Pow w1) := HA.out.2.2.2.2.ext E1.out
          have far : ∀ i, w1.cell? ⟨wr.heap.size, i, none⟩ = ((wr.alloc (.cells #[.int .i64 kd, .string T, .int .i64 nm] 44)).alloc (.cells #[.int .u8 32] 5)).cell? ⟨wr.heap.size, i, none⟩ := fun i => hgrow1.cell_far ⟨wr.heap.size, i, none⟩ (by simp; omega) (fun e => absurd (hown.lt _ e.symm).2 (Nat.lt_irrefl _))
          have cb := (CellsAt.new wr [.int .i64 kd, .string T, .int .i64 nm] 44).step (Ext.one _ (.cells #[.int .u8 32] 5))
          have q0 : w1.cell? ⟨wr.heap.size, 0, none⟩ = some (.int .i64 kd) := (far 0).trans (cb.2 0 _ rfl)
          have q1 : w1.cell? ⟨wr.heap.size, 1, none⟩ = some (.string T) := (far 1).trans (cb.2 1 _ rfl)
          have q2 : w1.cell? ⟨wr.heap.size, 2, none⟩ = some (.int .i64 nm) := (far 2).trans (cb.2 2 _ rfl)
          clear far cb hgrow1 hown1 hob hown c0 c1 c2
          go_wp2_with fail
          refine (HW.out _ Ew.out).mono ?_
          rintro e w2 ⟨rfl, e2⟩
          have hown2 := own_below O1.out e2
          have E2 : Hid (Ext w w2) := E1.out.trans e2
          have hzz2 := E2.out.size
          obtain ⟨a1, c1, hv1, _⟩ := own_slice8 hown2
          subst hv1
          clear e2 HW O1 E1 q0 q1 q2
          go_wp2_with (at_builtin; refine Lib.wpList_append_own_string _ rfl _ _ 22 9 rfl w.heap.size 5 i0 Tryd.underlying22 Tryd.underlying9 hi hz0 hz1 hz2 _ (m + 1) _ rfl hown2 U rfl ?d1 ?d2 ?d3 ?_)
          case d1 => rw [hsu]; unfold maxLen; omega
          case d2 => rw [hsu]; omega
          case d3 => exact hzz2
          · intro v' w3 hown3 hgrow _
            have O3 : Hid (w3.ownsRow w.heap.size 5 1 v' (m + 1 + u.length) (bytesV (l ++ [32] ++ u))) := by
              rw [HU.out, strCells_T, show bytesV (l ++ [32]) ++ bytesV u = bytesV (l ++ [32] ++ u) by simp [bytesV]] at hown3
              first | exact hown3 | (rw [← HU.out, hsu] at hown3; exact hown3)
            have E3 : Hid (Ext w w3) := Below.grown E2.out hgrow hzz2 (fun x hx => (hown2.lt x hx).1)
            clear hgrow hown2 hown3
            go_wp2
            go_roundw
            case rel => exact ⟨k + 1, m + 1 + u.length, l ++ [32] ++ u, by go_num, by omega, hmu, ⟨HM0.out.symm, by have := HML.out; simp; omega⟩, O3.out, E3.out⟩
            case measure => simp [intOf]; omega
    · have bk : ¬ ((k : Int) < (n : Int)) := by omega
      have hkn : k = n := by omega
      have HF : Hid (l = textN ps n) := by rw [HL.out.1, hkn]; rfl
      have hml := HL.out.2
      subst hml
      have hq := own_convert (P := Tryd.prog) hown Tryd.underlying22 Tryd.underlying5 Tryd.underlying9
      subst hv
      clear hkn hown
      go_wp2
      go_ret
      exact ⟨by rw [← HF.out]; rfl, hE⟩

end Go.Proofs.YtfhkafbcopolcaaDoor
