/- What spec's SignsOf answers of every text: its signs, in memory of its own. -/
import Derived.Test.YtojaohdmfahpmaaGreatDoorSignsS
namespace Go.Proofs.YtojaohdmfahpmaaGreatDoor
open Go.RowKit
set_option linter.unusedVariables false

theorem runL_zero {k : Nat} {b : UInt8} {r : List UInt8} (h : ¬ kindB b = k) : runL k (b :: r) = 0 := by
  unfold runL
  rw [List.takeWhile_cons_of_neg (by simpa using h)]
  rfl

theorem runL_pos {k : Nat} {b : UInt8} {r : List UInt8} (h : kindB b = k) : 1 ≤ runL k (b :: r) := by
  unfold runL
  rw [List.takeWhile_cons_of_pos (by simpa using h), List.length_cons]
  omega

theorem runL_le (k : Nat) (l : List UInt8) : runL k l ≤ l.length := by
  unfold runL
  exact (List.takeWhile_prefix _).length_le

theorem runL_all {k : Nat} : ∀ {l : List UInt8} {b : UInt8}, b ∈ l.take (runL k l) → kindB b = k := by
  intro l b hb
  have e : l.take (runL k l) = l.takeWhile fun b => kindB b == k := by
    unfold runL
    exact (List.prefix_iff_eq_take.1 (List.takeWhile_prefix _)).symm
  rw [e] at hb
  have := List.all_takeWhile (p := fun b => kindB b == k) (l := l)
  rw [List.all_eq_true] at this
  simpa using this b hb

/-- The state behind one sign. -/
theorem sg_step {l : List UInt8} {a n : Nat} {b : UInt8} {out : List Sg} {s : Sg} (h : SG l = behind out (SG (l.drop a))) (hb : l[a]? = some b) (h0 : ¬ kindB b = 0) (hw : wideL b (l.drop (a + 1)) = n) (hs : signOf (kindB b) ((l.drop a).take n) = some s) : SG l = behind (out ++ [s]) (SG (l.drop (a + n))) := by
  obtain ⟨ha, hba⟩ := List.getElem?_eq_some_iff.1 hb
  have hd : l.drop a = b :: l.drop (a + 1) := by rw [drop_at ha, hba]
  rw [h, hd]
  rw [hd] at hs
  rw [SG_some h0 (by rw [hw]; exact hs), hw, behind_snoc, ← hd, List.drop_drop]

theorem sg_fail {l : List UInt8} {a n : Nat} {b : UInt8} {out : List Sg} (h : SG l = behind out (SG (l.drop a))) (hb : l[a]? = some b) (h0 : ¬ kindB b = 0) (hw : wideL b (l.drop (a + 1)) = n) (hs : signOf (kindB b) ((l.drop a).take n) = none) : SG l = none := by
  obtain ⟨ha, hba⟩ := List.getElem?_eq_some_iff.1 hb
  have hd : l.drop a = b :: l.drop (a + 1) := by rw [drop_at ha, hba]
  rw [h, hd]
  rw [hd] at hs
  rw [SG_none h0 (by rw [hw]; exact hs)]
  rfl

theorem sg_skip {l : List UInt8} {a : Nat} {b : UInt8} {out : List Sg} (h : SG l = behind out (SG (l.drop a))) (hb : l[a]? = some b) (h0 : kindB b = 0) : SG l = behind out (SG (l.drop (a + 1))) := by
  obtain ⟨ha, hba⟩ := List.getElem?_eq_some_iff.1 hb
  rw [h, drop_at ha, hba, SG_blank h0]

theorem markAt_cases (l : List UInt8) : markAt l = [] ∨ (markAt l ∈ markL ∧ l.take (markAt l).length = markAt l) := by
  unfold markAt
  cases h : markL.find? (fun m => l.take m.length == m) with
  | none => exact .inl rfl
  | some m =>
    refine .inr ⟨List.mem_of_find?_eq_some h, ?_⟩
    have := List.find?_some h
    simpa using this

set_option maxRecDepth 100000 in
set_option maxHeartbeats 4000000 in
theorem sSigns_any (s : ByteArray) (w : World) :
    Calls Tryz.prog 31 #[.string s] w fun e w' => ∃ v, e = .returned (.tuple #[v, .bool (signsR s.data.toList).isSome]) ∧ Own3 w' w.heap.size v ((signsR s.data.toList).getD []) ∧ Ext w w' := by
  obtain ⟨i0, hi, hz0, hz1, hz2⟩ := info_parts Tryz.infoG
  obtain ⟨r, hr⟩ : ∃ r, r = signsR s.data.toList := ⟨_, rfl⟩
  rw [← hr]
  have hlen : s.data.toList.length = s.size := by simp
  by_cases hbig : 1200 < s.size
  · have HR : Hid (r = none) := by rw [hr]; unfold signsR; rw [if_pos (by omega)]; rfl
    clear hr hlen
    go_enter Tryz.func31, Tryz.ntmps31
    go_wp2
    go_ret2
    exact ⟨_, by rw [HR.out]; rfl, by rw [HR.out]; exact Own3.lit w _ (Nat.le_refl _), Ext.one _ _⟩
  have HR : Hid (r = SG s.data.toList) := by rw [hr]; unfold signsR; rw [if_neg (by omega)]; rfl
  have HL : Hid (s.data.toList.length = s.size) := hlen
  clear hr hlen
  have hs : s.size ≤ 1200 := by omega
  obtain ⟨W, hW⟩ : ∃ W, W = w.alloc (.cells #[] 98) := ⟨_, rfl⟩
  have HO0 : Hid (Own3 W w.heap.size (.slice (some ⟨w.heap.size, 0, none⟩) 0 0) [] ∧ Ext w W ∧ W.heap.size = w.heap.size + 1) := by
    rw [hW]; exact ⟨Own3.lit w _ (Nat.le_refl _), Ext.one _ _, by simp⟩
  have o0 : Own3 (W.alloc (.cells #[] 98)) W.heap.size (.slice (some ⟨w.heap.size + 1, 0, none⟩) 0 0) [] := by
    have := Own3.lit W W.heap.size (Nat.le_refl _)
    rw [HO0.out.2.2] at this ⊢
    exact this
  have E0 : Ext W (W.alloc (.cells #[] 98)) := Ext.one _ _
  go_enter Tryz.func31, Tryz.ntmps31
  go_wp2_with fail
  rw [← hW]
  clear hW
  generalize W.alloc (.cells #[] 98) = W0 at o0 E0 ⊢
  go_loopw [5, 6] (fun v av wr => ∃ (a : Nat) (out : List Sg), av = .int .i64 a ∧ a ≤ s.size ∧ out.length ≤ a ∧ Hid (SG s.data.toList = behind out (SG (s.data.toList.drop a))) ∧ wr.ownsRow W.heap.size 98 3 v out.length (flatG out) ∧ Ext W wr) (fun _ av _ => s.size - (intOf av).toNat)
  case atStart => exact ⟨0, [], rfl, by omega, by simp, by unfold Hid; rw [behind_nil]; rfl, o0, E0⟩
  case round =>
    obtain ⟨a, out, rfl, ha, hoa, HI, hown, hE⟩ := hrel
    clear o0 E0
    have HE : Hid (Ext W wr) := hE
    have HO : Hid (wr.ownsRow W.heap.size 98 3 u5 out.length (flatG out)) := hown
    clear hown hE
    by_cases hlt : a < s.size
    · have hal : a < s.data.toList.length := by have := HL.out; omega
      have hb : Hid (s.data.toList[a]? = some s[a]) := by unfold Hid; rw [List.getElem?_eq_getElem hal]; rfl
      have hx : s[a].toNat < 256 := s[a].toNat_lt
      have bl : (a : Int) < (s.size : Int) := by omega
      have HDR : Hid (s.data.toList.drop a = s[a] :: s.data.toList.drop (a + 1)) := by unfold Hid; rw [drop_at hal]; rfl
      by_cases k0 : kindB s[a] = 0
      · have HN : Hid (SG s.data.toList = behind out (SG (s.data.toList.drop (a + 1)))) := sg_skip HI.out hb.out k0
        rw [kindB_0] at k0
        clear HI hb HDR
        rcases k0 with k0 | k0
        · have d1 : ((s[a].toNat : Int) == 32) = true := by simp; omega
          clear k0
          go_wp2
          go_roundw
          case rel => exact ⟨a + 1, out, by go_num, by omega, by omega, HN, HO.out, HE.out⟩
          case measure => simp [intOf]; omega
        · have d1 : ((s[a].toNat : Int) == 32) = false := by simp; omega
          have d2 : ((s[a].toNat : Int) == 10) = true := by simp; omega
          clear k0
          go_wp2
          go_roundw
          case rel => exact ⟨a + 1, out, by go_num, by omega, by omega, HN, HO.out, HE.out⟩
          case measure => simp [intOf]; omega
      · have d1 : ((s[a].toNat : Int) == 32) = false := by have := mt kindB_0.2 k0; simp; omega
        have d2 : ((s[a].toNat : Int) == 10) = false := by have := mt kindB_0.2 k0; simp; omega
        have K0 : Hid (¬ kindB s[a] = 0) := k0
        clear k0
        obtain ⟨n1, hn1⟩ : ∃ n, n = runL 1 (s.data.toList.drop a) := ⟨_, rfl⟩
        obtain ⟨n2, hn2⟩ : ∃ n, n = runL 2 (s.data.toList.drop a) := ⟨_, rfl⟩
        have W1 : Hid (∀ w : World, Calls Tryz.prog 70 #[.string s, .int .i64 a, .int .u8 97, .int .u8 122] w fun e w' => e = .returned (.int .i64 (n1 : Int)) ∧ w = w') := fun w => by
          have := word_any s a 97 122 w hs ha (by omega) (by omega)
          rw [runIn_name, ← hn1] at this
          exact this
        have W2 : Hid (∀ w : World, Calls Tryz.prog 70 #[.string s, .int .i64 a, .int .u8 48, .int .u8 57] w fun e w' => e = .returned (.int .i64 (n2 : Int)) ∧ w = w') := fun w => by
          have := word_any s a 48 57 w hs ha (by omega) (by omega)
          rw [runIn_num, ← hn2] at this
          exact this
        have b1 : a + n1 ≤ s.size := by have := runL_le 1 (s.data.toList.drop a); rw [← hn1, List.length_drop, HL.out] at this; omega
        have b2 : a + n2 ≤ s.size := by have := runL_le 2 (s.data.toList.drop a); rw [← hn2, List.length_drop, HL.out] at this; omega
        by_cases k1 : kindB s[a] = 1
        · have hp : 1 ≤ n1 := by rw [hn1, HDR.out]; exact runL_pos k1
          have HW : Hid (wideL s[a] (s.data.toList.drop (a + 1)) = n1) := by
            unfold Hid wideL
            rw [if_neg (by omega), ← HDR.out, k1, hn1]
          have HT : Hid (((s.data.toList.drop a).take n1).length = n1) := by unfold Hid; rw [List.length_take, List.length_drop, HL.out]; omega
          by_cases h12 : n1 ≤ 12
          · have HN : Hid (SG s.data.toList = behind (out ++ [(1, (s.data.toList.drop a).take n1, 0)]) (SG (s.data.toList.drop (a + n1)))) := sg_step HI.out hb.out K0.out HW.out (by rw [k1]; unfold signOf; rw [if_pos rfl, if_pos (by rw [HT.out]; exact h12)])
            obtain ⟨T, hTT⟩ : ∃ T, T = s.extract a (a + n1) := ⟨_, rfl⟩
            have HX : Hid (T = txt ((s.data.toList.drop a).take n1)) := by
              rw [hTT, cutB]
              unfold Hid cutL
              rw [show a + n1 - a = n1 by omega]
            have hex : s.extract a (a + n1) = T := hTT.symm
            have hown := HO.out
            have hzz := HE.out.size
            clear HI hb HDR HW HT W2 K0 hn1 hn2 k1 HO hTT
            go_wp2_with fail
            refine (W1.out _).mono ?_
            rintro e w' ⟨rfl, rfl⟩
            go_wp2_with (first | (rw [hex]) | (at_builtin; refine wpList_append_own _ rfl _ _ 55 rfl W.heap.size 98 i0 (.agg #[.int .i64 0, .string ⟨#[]⟩, .int .i64 0]) 3 32 Tryz.underlying55 hi hz0 hz1 hz2 rfl (by decide) _ out.length _ rfl (hown.alloc _) ⟨wr.heap.size, 0, none⟩ 1 1 [.int .i64 1, .string T, .int .i64 0] rfl rfl ?c1 ?c2 ?c3 ?c4 ?c5 ?_))
            case c1 =>
              intro j u hu
              have := (CellsAt.new wr [.int .i64 1, .string T, .int .i64 0] 98).2 j u hu
              rw [Addr.add_lit, Nat.zero_add]
              exact this
            case c2 => intro u hu; simp at hu; rcases hu with rfl | rfl | rfl <;> rfl
            case c3 => unfold maxLen; omega
            case c4 => omega
            case c5 => simp; omega
            · intro v' w3 hown3 hgrow _
              have O3 : Hid (w3.ownsRow W.heap.size 98 3 v' (out ++ [(1, (s.data.toList.drop a).take n1, 0)]).length (flatG (out ++ [(1, (s.data.toList.drop a).take n1, 0)]))) := by
                have e : flatG out ++ [.int .i64 1, .string T, .int .i64 0] = flatG (out ++ [(1, (s.data.toList.drop a).take n1, 0)]) := by rw [HX.out]; exact flatG_push out (1, (s.data.toList.drop a).take n1, 0)
                rw [e] at hown3
                rw [List.length_append]
                exact hown3
              have E3 : Hid (Ext W w3) := Below.grown (HE.out.alloc _) hgrow (by simp; omega) (fun x hx => (hown.lt x hx).1)
              clear hgrow hown hown3 HE
              go_wp2
              go_roundw
              case rel => exact ⟨a + n1, out ++ [(1, (s.data.toList.drop a).take n1, 0)], by go_num, by omega, by simp; omega, HN, O3.out, E3.out⟩
              case measure => simp [intOf]; omega
          · have HF : Hid (r = none) := by rw [HR.out]; exact sg_fail HI.out hb.out K0.out HW.out (by rw [k1]; unfold signOf; rw [if_pos rfl, if_neg (by rw [HT.out]; exact h12)])
            clear HI hb HDR HW HT W2 K0 hn1 hn2 k1 HO
            go_wp2_with fail
            refine (W1.out _).mono ?_
            rintro e w' ⟨rfl, rfl⟩
            go_wp2
            go_ret2
            exact ⟨_, by rw [HF.out]; rfl, by rw [HF.out]; exact HO0.out.1.ext HE.out, HO0.out.2.1.trans HE.out⟩
        · have z1 : n1 = 0 := by rw [hn1, HDR.out]; exact runL_zero k1
          have W10 : Hid (∀ w : World, Calls Tryz.prog 70 #[.string s, .int .i64 a, .int .u8 97, .int .u8 122] w fun e w' => e = .returned (.int .i64 0) ∧ w = w') := fun w => by
            have := W1.out w
            rw [z1] at this
            exact this
          clear W1 hn1 b1 z1
          by_cases k2 : kindB s[a] = 2
          · have hp : 1 ≤ n2 := by rw [hn2, HDR.out]; exact runL_pos k2
            have HW : Hid (wideL s[a] (s.data.toList.drop (a + 1)) = n2) := by
              unfold Hid wideL
              rw [if_neg (by omega), ← HDR.out, k2, hn2]
            obtain ⟨t, ht⟩ : ∃ t, t = (s.data.toList.drop a).take n2 := ⟨_, rfl⟩
            have HT : Hid (t.length = n2 ∧ t = (s.data.toList.drop a).take n2) := ⟨by rw [ht, List.length_take, List.length_drop, HL.out]; omega, ht⟩
            have HK : Hid (∀ b ∈ t, kindB b = 2) := fun b hb => by rw [ht, hn2] at hb; exact runL_all hb
            by_cases h10 : n2 ≤ 10
            · have HZ : Hid (∀ m, numF 10 t 0 = some m → (m ≤ 4294967295 → SG s.data.toList = behind (out ++ [(2, [], (m : Int))]) (SG (s.data.toList.drop (a + n2)))) ∧ (¬ m ≤ 4294967295 → r = none)) := by
                intro m hm
                refine ⟨fun h => sg_step HI.out hb.out K0.out HW.out ?_, fun h => ?_⟩
                · rw [k2, ← ht]
                  unfold signOf
                  rw [if_neg (by omega), if_pos rfl, hm]
                  simp only
                  rw [if_pos ⟨by rw [HT.out.1]; exact h10, h⟩]
                · rw [HR.out]
                  refine sg_fail HI.out hb.out K0.out HW.out ?_
                  rw [k2, ← ht]
                  unfold signOf
                  rw [if_neg (by omega), if_pos rfl, hm]
                  simp only
                  rw [if_neg (fun hh => h hh.2)]
              have hown := HO.out
              have hzz := HE.out.size
              clear HI hb HDR HW K0 hn2 k1 k2 HO ht
              go_wp2_with fail
              refine (W10.out _).mono ?_
              rintro e w' ⟨rfl, rfl⟩
              go_wp2_with fail
              refine (W2.out _).mono ?_
              rintro e w' ⟨rfl, rfl⟩
              go_wp2_with fail
              go_loopw [8, 9] (fun vv iv wx => ∃ (j m : Nat), iv = .int .i64 ((a + j : Nat) : Int) ∧ vv = .int .i64 m ∧ j ≤ n2 ∧ Hid (NS 10 t j m) ∧ wx = wr) (fun _ iv _ => a + n2 - (intOf iv).toNat)
              case atStart => exact ⟨0, 0, rfl, rfl, by omega, NS.start _ _, rfl⟩
              case round =>
                obtain ⟨j, m, rfl, rfl, hj, hNS, rfl⟩ := hrel
                obtain ⟨p, hpp⟩ : ∃ p, p = a + j := ⟨_, rfl⟩
                rw [← hpp]
                obtain ⟨hmb, _, _⟩ := hNS.out.bound (by omega) (by omega)
                by_cases hjn : j < n2
                · have hps : p < s.size := by omega
                  have hpl : (p : Int) < (a : Int) + (n2 : Int) := by omega
                  have hjt : j < t.length := by have := HT.out.1; omega
                  have htj : t[j] = s[p] := by
                    have h1 : t[j]? = some s[p] := by
                      rw [HT.out.2, List.getElem?_take, if_pos hjn, List.getElem?_drop, ← hpp, List.getElem?_eq_getElem (by have := HL.out; omega)]
                      rfl
                    rw [List.getElem?_eq_getElem hjt] at h1
                    exact Option.some.inj h1
                  have hk2 := HK.out t[j] (List.getElem_mem hjt)
                  rw [htj, kindB_2] at hk2
                  have hN' : Hid (NS 10 t (j + 1) (m * 10 + (s[p].toNat - 48))) := by
                    have := hNS.out.next10 hjt (by rw [htj]; exact hk2.1) (by rw [htj]; exact hk2.2)
                    rw [htj] at this
                    exact this
                  have hv : Hid (((m * 10 + (s[p].toNat - 48) : Nat) : Int) = 10 * (m : Int) + (s[p].toNat : Int) - 48) := by unfold Hid; omega
                  have hxl : s[p].toNat ≤ 57 := hk2.2
                  have HPP : Hid (p = a + j) := hpp
                  clear hNS hk2 htj hpp
                  go_wp2
                  go_roundw
                  case rel => exact ⟨j + 1, m * 10 + (s[p].toNat - 48), by have := HPP.out; go_num, by rw [hv.out], by omega, hN', trivial⟩
                  case measure => have := HPP.out; simp [intOf]; omega
                · have hpe : p = a + n2 := by omega
                  have hpl : ¬ (p : Int) < (a : Int) + (n2 : Int) := by omega
                  have hnum := hNS.out.done (by have := HT.out.1; omega)
                  obtain ⟨hz1', hz2'⟩ := HZ.out m hnum
                  have HZZ : Hid ((m ≤ 4294967295 → SG s.data.toList = behind (out ++ [(2, [], (m : Int))]) (SG (s.data.toList.drop (a + n2)))) ∧ (¬ m ≤ 4294967295 → r = none)) := ⟨hz1', hz2'⟩
                  have hh : Hid (halfB (m : Int) = decide (m ≤ 4294967295)) := by
                    unfold Hid halfB
                    rw [Bool.eq_iff_iff]
                    simp
                    omega
                  clear hNS hnum hz1' hz2' HZ HT HK hpp hpe
                  by_cases hm : m ≤ 4294967295
                  · have HH : Hid (∀ w : World, Calls Tryz.prog 71 #[.int .i64 (m : Int)] w fun e w' => e = .returned (.bool true) ∧ w = w') := fun w => by
                      have := sHalf_any (m : Int) w
                      rw [hh.out, decide_eq_true hm] at this
                      exact this
                    have HN : Hid (SG s.data.toList = behind (out ++ [(2, [], (m : Int))]) (SG (s.data.toList.drop (a + n2)))) := HZZ.out.1 hm
                    have HX : Hid (True ∧ (⟨#[]⟩ : ByteArray) = txt []) := ⟨trivial, rfl⟩
                    clear HZZ hh
                    go_wp2_with (first | (go_at_call 71; refine (HH.out _).mono ?_; rintro e w' ⟨rfl, rfl⟩) | (at_builtin; refine wpList_append_own _ rfl _ _ 55 rfl W.heap.size 98 i0 (.agg #[.int .i64 0, .string ⟨#[]⟩, .int .i64 0]) 3 32 Tryz.underlying55 hi hz0 hz1 hz2 rfl (by decide) _ out.length _ rfl (hown.alloc _) ⟨wr.heap.size, 0, none⟩ 1 1 [.int .i64 2, .string ⟨#[]⟩, .int .i64 (m : Int)] rfl rfl ?c1 ?c2 ?c3 ?c4 ?c5 ?_))
                    case c1 =>
                      intro j u hu
                      have := (CellsAt.new wr [.int .i64 2, .string ⟨#[]⟩, .int .i64 (m : Int)] 98).2 j u hu
                      rw [Addr.add_lit, Nat.zero_add]
                      exact this
                    case c2 => intro u hu; simp at hu; rcases hu with rfl | rfl | rfl <;> rfl
                    case c3 => unfold maxLen; omega
                    case c4 => omega
                    case c5 => simp; omega
                    · intro v' w3 hown3 hgrow _
                      have O3 : Hid (w3.ownsRow W.heap.size 98 3 v' (out ++ [(2, [], (m : Int))]).length (flatG (out ++ [(2, [], (m : Int))]))) := by
                        have e : flatG out ++ [.int .i64 2, .string ⟨#[]⟩, .int .i64 (m : Int)] = flatG (out ++ [(2, [], (m : Int))]) := by exact flatG_push out (2, [], (m : Int))
                        rw [e] at hown3
                        rw [List.length_append]
                        exact hown3
                      have E3 : Hid (Ext W w3) := Below.grown (HE.out.alloc _) hgrow (by simp; omega) (fun x hx => (hown.lt x hx).1)
                      clear hgrow hown hown3 HE
                      go_wp2
                      go_roundw
                      case rel => exact ⟨a + n2, out ++ [(2, [], (m : Int))], by go_num, by omega, by simp; omega, HN, O3.out, E3.out⟩
                      case measure => simp [intOf]; omega
                  · have HH : Hid (∀ w : World, Calls Tryz.prog 71 #[.int .i64 (m : Int)] w fun e w' => e = .returned (.bool false) ∧ w = w') := fun w => by
                      have := sHalf_any (m : Int) w
                      rw [hh.out, decide_eq_false hm] at this
                      exact this
                    have HF : Hid (r = none) := HZZ.out.2 hm
                    clear HZZ hh hown
                    go_wp2_with (go_at_call 71; refine (HH.out _).mono ?_; rintro e w' ⟨rfl, rfl⟩)
                    go_ret2
                    exact ⟨_, by rw [HF.out]; rfl, by rw [HF.out]; exact HO0.out.1.ext HE.out, HO0.out.2.1.trans HE.out⟩
            · have HF : Hid (r = none) := by
                rw [HR.out]
                refine sg_fail HI.out hb.out K0.out HW.out ?_
                rw [k2, ← ht]
                unfold signOf
                rw [if_neg (by omega), if_pos rfl]
                cases numF 10 t 0 with
                | none => rfl
                | some m => simp only; rw [if_neg (fun hh => h10 (by rw [HT.out.1] at hh; exact hh.1))]
              clear HI hb HDR HW K0 hn2 k1 k2 HO ht HT HK
              go_wp2_with fail
              refine (W10.out _).mono ?_
              rintro e w' ⟨rfl, rfl⟩
              go_wp2_with fail
              refine (W2.out _).mono ?_
              rintro e w' ⟨rfl, rfl⟩
              go_wp2_with fail
              refine wp_loop_rounds 1 ?_
              rw [rounds_succ]
              go_wp2
              go_ret2
              exact ⟨_, by rw [HF.out]; rfl, by rw [HF.out]; exact HO0.out.1.ext HE.out, HO0.out.2.1.trans HE.out⟩
          · have k3 : kindB s[a] = 3 := by have := kindB_le s[a]; have := K0.out; omega
            have z2 : n2 = 0 := by rw [hn2, HDR.out]; exact runL_zero k2
            have W20 : Hid (∀ w : World, Calls Tryz.prog 70 #[.string s, .int .i64 a, .int .u8 48, .int .u8 57] w fun e w' => e = .returned (.int .i64 0) ∧ w = w') := fun w => by
              have := W2.out w
              rw [z2] at this
              exact this
            clear W2 hn2 b2 z2
            obtain ⟨mk, hmk⟩ : ∃ mk, mk = markAt (s.data.toList.drop a) := ⟨_, rfl⟩
            have HM : Hid (∀ w : World, Calls Tryz.prog 72 #[.string s, .int .i64 a] w fun e w' => e = .returned (.string (txt mk)) ∧ Ext w w') := fun w => by rw [hmk]; exact sMark_any s a w hs ha
            have HW : Hid (wideL s[a] (s.data.toList.drop (a + 1)) = mk.length) := by
              unfold Hid wideL
              rw [if_pos k3, ← HDR.out, hmk]
            have HMK := markAt_cases (s.data.toList.drop a)
            rw [← hmk] at HMK
            by_cases hm0 : mk = []
            · have HF : Hid (r = none) := by
                rw [HR.out]
                refine sg_fail HI.out hb.out K0.out HW.out ?_
                rw [k3, hm0]
                simp [signOf, isMarkL_nil]
              subst hm0
              clear HI hb HDR HW K0 k1 k2 k3 HO hmk HMK
              go_wp2_with fail
              refine (W10.out _).mono ?_
              rintro e w' ⟨rfl, rfl⟩
              go_wp2_with fail
              refine (W20.out _).mono ?_
              rintro e w' ⟨rfl, rfl⟩
              go_wp2_with fail
              refine (HM.out _).mono ?_
              rintro e w2 ⟨rfl, e2⟩
              have E2 : Hid (Ext W w2) := HE.out.trans e2
              clear e2 HE
              unfold txt
              go_wp2
              go_ret2
              exact ⟨_, by rw [HF.out]; rfl, by rw [HF.out]; exact HO0.out.1.ext E2.out, HO0.out.2.1.trans E2.out⟩
            · obtain ⟨hmem, htk⟩ := HMK.resolve_left hm0
              have hml := marks_short mk hmem
              have HN : Hid (SG s.data.toList = behind (out ++ [(3, mk, 0)]) (SG (s.data.toList.drop (a + mk.length)))) := sg_step HI.out hb.out K0.out HW.out (by rw [k3, htk]; unfold signOf; rw [if_neg (by omega), if_neg (by omega), if_pos (isMark_of hmem)])
              have hfit : a + mk.length ≤ s.size := by
                have := congrArg List.length htk
                rw [List.length_take, List.length_drop, HL.out] at this
                omega
              obtain ⟨T, hTT⟩ : ∃ T, T = txt mk := ⟨_, rfl⟩
              obtain ⟨n, hn⟩ : ∃ n, n = mk.length := ⟨_, rfl⟩
              have hTs : T.size = n := by rw [hTT, hn]; rfl
              have hne : (T.toList == []) = false := by
                rw [beq_eq_false_iff_ne]
                intro h
                rw [ByteArray.toList_eq, hTT] at h
                simp [txt] at h
                exact hm0 h
              rw [← hn] at hml hfit HN
              rw [← hTT] at HM
              have HX : Hid (T = txt mk) := hTT
              have hown0 := HO.out
              clear HI hb HDR HW K0 k1 k2 k3 HO hmk HMK hmem htk hTT hn hm0
              go_wp2_with fail
              refine (W10.out _).mono ?_
              rintro e w' ⟨rfl, rfl⟩
              go_wp2_with fail
              refine (W20.out _).mono ?_
              rintro e w' ⟨rfl, rfl⟩
              go_wp2_with fail
              refine (HM.out _).mono ?_
              rintro e w2 ⟨rfl, e2⟩
              have hown := own_below hown0 e2
              have HE2 : Hid (Ext W w2) := HE.out.trans e2
              have hzz := HE2.out.size
              clear e2 HE hown0
              go_wp2_with (first | (at_builtin; refine wpList_append_own _ rfl _ _ 55 rfl W.heap.size 98 i0 (.agg #[.int .i64 0, .string ⟨#[]⟩, .int .i64 0]) 3 32 Tryz.underlying55 hi hz0 hz1 hz2 rfl (by decide) _ out.length _ rfl (hown.alloc _) ⟨w2.heap.size, 0, none⟩ 1 1 [.int .i64 3, .string T, .int .i64 0] rfl rfl ?c1 ?c2 ?c3 ?c4 ?c5 ?_))
              case c1 =>
                intro j u hu
                have := (CellsAt.new w2 [.int .i64 3, .string T, .int .i64 0] 98).2 j u hu
                rw [Addr.add_lit, Nat.zero_add]
                exact this
              case c2 => intro u hu; simp at hu; rcases hu with rfl | rfl | rfl <;> rfl
              case c3 => unfold maxLen; omega
              case c4 => omega
              case c5 => simp; omega
              · intro v' w3 hown3 hgrow _
                have O3 : Hid (w3.ownsRow W.heap.size 98 3 v' (out ++ [(3, mk, 0)]).length (flatG (out ++ [(3, mk, 0)]))) := by
                  have e : flatG out ++ [.int .i64 3, .string T, .int .i64 0] = flatG (out ++ [(3, mk, 0)]) := by rw [HX.out]; exact flatG_push out (3, mk, 0)
                  rw [e] at hown3
                  rw [List.length_append]
                  exact hown3
                have E3 : Hid (Ext W w3) := Below.grown (HE2.out.alloc _) hgrow (by simp; omega) (fun x hx => (hown.lt x hx).1)
                clear hgrow hown hown3 HE2
                go_wp2_with (rw [hTs])
                go_roundw
                case rel => exact ⟨a + n, out ++ [(3, mk, 0)], by go_num, by omega, by simp; omega, HN, O3.out, E3.out⟩
                case measure => simp [intOf]; omega
    · have HF : Hid (r = some out) := by
        rw [HR.out]
        have h1 := HI.out
        rw [List.drop_eq_nil_of_le (by have := HL.out; omega), behind_end] at h1
        exact h1
      have O2 : Hid (Own3 wr w.heap.size u5 out) := own8_base HO.out (by have := HO0.out.2.2; omega)
      obtain ⟨a5, c5, rfl, _⟩ := own_slice8 HO.out
      clear HI HO
      go_wp2
      go_ret2
      exact ⟨_, by rw [HF.out]; rfl, by rw [HF.out]; exact O2.out, HO0.out.2.1.trans HE.out⟩

end Go.Proofs.YtojaohdmfahpmaaGreatDoor
