/- What spec's Sizes answers: its walk. -/
import Derived.Test.YtakcmiijnckaaaaSizesS
import Derived.Deep.RegionHeld3
namespace Go.Proofs.Ytakcmiijnckaaaa
open Go.RowKit
set_option linter.unusedVariables false

set_option maxRecDepth 100000 in
set_option maxHeartbeats 4000000 in
theorem sSizes_no (a : Option Addr) (cap : Nat) (ls : List Ln) (w : World) (hl : ls.length ≤ 1048576) (h : Lns w a ls) (hn : ¬ linesP ls) :
    Calls Try.prog 23 #[.slice a ls.length cap] w fun e w' => ∃ g, e = .returned (.slice (some ⟨g, 0, none⟩) 0 0) ∧ w.heap.size ≤ g ∧ g < w'.heap.size ∧ Ext w w' := by
  have HL : Hid (∀ w1, Ext w w1 → Calls Try.prog 21 #[.slice a ls.length cap] w1 fun e w' => e = .returned (.bool false) ∧ Ext w1 w') := fun w1 hE => sLines_any a cap ls false w1 hl (h.ext hE) (by simp [hn])
  generalize ls.length = n at *
  clear h hn hl
  go_enter Try.func23, Try.ntmps23
  go_wp2_with fail
  refine (HL.out _ (Ext.one _ _)).mono ?_
  rintro e w2 ⟨rfl, e2⟩
  have X2 : Hid (Ext w w2 ∧ w.heap.size < w2.heap.size) := ⟨(Ext.one _ _).trans e2, by have := e2.size; simp at this; omega⟩
  clear e2
  go_wp2
  go_ret
  exact ⟨_, rfl, Nat.le_refl _, X2.out.2, X2.out.1⟩

set_option maxRecDepth 100000 in
set_option maxHeartbeats 8000000 in
theorem sSizes_yes (a : Option Addr) (cap : Nat) (ls : List Ln) (s : Nat → Nat) (w : World) (h : Lns w a ls) (hl : linesP ls) (hs : sizesP ls s) :
    Calls Try.prog 23 #[.slice a ls.length cap] w fun e w' => ∃ q c, e = .returned (.slice (some ⟨q, 0, none⟩) ls.length c) ∧ w.heap.size ≤ q ∧ RowF w' q ls.length (fun i => (s i : Int)) ∧ Ext w w' := by
  obtain ⟨i0, hi, hz0, hz1, hz2⟩ := info_parts Try.infoI
  obtain ⟨n, hn⟩ : ∃ n, n = ls.length := ⟨_, rfl⟩
  have HA : Hid (Lns w a ls ∧ n = ls.length ∧ linesP ls ∧ sizesP ls s ∧ 0 < n) := ⟨h, hn, hl, hs, by have := hl.1; omega⟩
  have HL : Hid (∀ w1, Ext w w1 → Calls Try.prog 21 #[.slice a n cap] w1 fun e w' => e = .returned (.bool true) ∧ Ext w1 w') := fun w1 hE => by rw [hn]; exact sLines_any a cap ls true w1 (by have := hl.1; omega) (h.ext hE) (by simp [hl])
  have HW : Hid (∀ w1, Ext w w1 → Calls Try.prog 51 #[.slice a n cap] w1 fun e w' => ∃ q c q2 c2, e = .returned (.tuple #[.slice (some ⟨q, 0, none⟩) n c, .slice (some ⟨q2, 0, none⟩) n c2]) ∧ w1.heap.size ≤ q ∧ w1.heap.size ≤ q2 ∧ RowF w' q n (fun i => wayV ls (ls.getD i zeroL).yes) ∧ RowF w' q2 n (fun i => wayV ls (ls.getD i zeroL).no) ∧ Ext w1 w') := fun w1 hE => by rw [hn]; exact ways11_any a cap ls w1 (by have := hl.1; omega) (by have := hl.1; omega) (h.ext hE)
  rw [← hn]
  have hl' : n ≤ 600 := by have := hl.1; omega
  have hn0 : 0 < n := HA.out.2.2.2.2
  clear h hn hl hs
  go_enter Try.func23, Try.ntmps23
  go_wp2_with fail
  refine (HL.out _ (Ext.one _ _)).mono ?_
  rintro e w2 ⟨rfl, e2⟩
  have X2 : Hid (Ext w w2 ∧ w2.ownsRow w.heap.size 3 1 (.slice (some ⟨w.heap.size, 0, none⟩) 0 0) 0 (valsF (fun i => (one0 ls i : Int)) 0)) := ⟨(Ext.one _ _).trans e2, own_below (World.ownsRow_lit (e := 3) (size := 1) w #[] 0 (Nat.le_refl _) (by decide) rfl) e2⟩
  clear e2 HL
  go_wp2_with fail
  go_loopw [3, 4] (fun ov iv wr => ∃ k : Nat, iv = .int .i64 k ∧ k ≤ n ∧ Hid (wr.ownsRow w.heap.size 3 1 ov k (valsF (fun i => (one0 ls i : Int)) k) ∧ Ext w wr)) (fun _ iv _ => n - (intOf iv).toNat)
  case atStart => exact ⟨0, rfl, by omega, X2.out.2, X2.out.1⟩
  case round =>
    obtain ⟨k, rfl, hk, HX⟩ := hrel
    clear X2
    by_cases hlt : k < n
    · have bk : (k : Int) < (n : Int) := by omega
      obtain ⟨⟨lab, ⟨o, kk, y, nn⟩, yes, no⟩, hp⟩ : ∃ p, p = ls.getD k zeroL := ⟨_, rfl⟩
      obtain ⟨b, off, rfl, hq⟩ := (HA.out.1.ext HX.out.2).hept (k := k) (by have := HA.out.2.1; omega) hp
      obtain ⟨c0, c1, c2, c3, c4, c5, c6⟩ := hq
      simp only at c0 c1 c2 c3 c4 c5 c6
      obtain ⟨z, hz⟩ : ∃ z, z = decide ((o, kk, y, nn) = zeroW) := ⟨_, rfl⟩
      have HP : Hid (∀ w, Calls Try.prog 55 #[.agg #[.string lab, .int .i64 o, .int .i64 kk, .int .i64 y, .int .i64 nn, .string yes, .string no]] w fun e w' => e = .returned (.bool z) ∧ Ext w w') := fun w => by rw [hz]; exact sPlace_any ⟨lab, (o, kk, y, nn), yes, no⟩ w
      have HO : Hid (one0 ls k = if z = true then 0 else 1) := by
        show _ = _
        unfold one0
        rw [← hp, hz]
        by_cases e : (o, kk, y, nn) = zeroW
        · rw [if_pos e, if_pos (by simpa using e)]
        · rw [if_neg e, if_neg (by simpa using e)]
      clear hp hz
      go_wp2_with fail
      refine (HP.out _).mono ?_
      rintro e w3 ⟨rfl, e3⟩
      have hown : w3.ownsRow w.heap.size 3 1 u3 k (valsF (fun i => (one0 ls i : Int)) k) := own_below HX.out.1 e3
      have X3 : Hid (Ext w w3) := HX.out.2.trans e3
      have hz4 : w.heap.size ≤ w3.heap.size := X3.out.size
      clear e3 c0 c1 c2 c3 c4 c5 c6 HP HX
      cases z
      · go_wp2_with (at_builtin; refine wpList_append_own _ rfl _ _ 42 rfl w.heap.size 3 i0 (.int .i64 0) 1 8 Try.underlying42 hi hz0 hz1 hz2 rfl (by decide) _ k _ rfl (hown.alloc _) ⟨w3.heap.size, 0, none⟩ 1 1 [.int .i64 1] rfl rfl ?c1 ?c2 ?c3 ?c4 ?c5 ?_)
        case c1 =>
          intro j u hu
          have := (CellsAt.new w3 [.int .i64 1] 3).2 j u hu
          rw [Addr.add_lit, Nat.zero_add]
          exact this
        case c2 => intro u hu; simp at hu; rcases hu with rfl; rfl
        case c3 => unfold maxLen; omega
        case c4 => omega
        case c5 => simp; omega
        · intro v' w5 hown5 hgrow5 _
          have X5 : Hid (w5.ownsRow w.heap.size 3 1 v' (k + 1) (valsF (fun i => (one0 ls i : Int)) (k + 1)) ∧ Ext w w5) := by
            refine ⟨?_, push_ext X3.out (Nat.le_refl _) hown hgrow5⟩
            rw [← valsF_succ, HO.out]
            exact hown5
          clear hgrow5 hown5 hown
          go_wp2
          go_roundw
          case rel => exact ⟨k + 1, by go_num, by omega, X5.out⟩
          case measure => simp [intOf]; omega
      · go_wp2_with (at_builtin; refine wpList_append_own _ rfl _ _ 42 rfl w.heap.size 3 i0 (.int .i64 0) 1 8 Try.underlying42 hi hz0 hz1 hz2 rfl (by decide) _ k _ rfl (hown.alloc _) ⟨w3.heap.size, 0, none⟩ 1 1 [.int .i64 0] rfl rfl ?c1 ?c2 ?c3 ?c4 ?c5 ?_)
        case c1 =>
          intro j u hu
          have := (CellsAt.new w3 [.int .i64 0] 3).2 j u hu
          rw [Addr.add_lit, Nat.zero_add]
          exact this
        case c2 => intro u hu; simp at hu; rcases hu with rfl; rfl
        case c3 => unfold maxLen; omega
        case c4 => omega
        case c5 => simp; omega
        · intro v' w5 hown5 hgrow5 _
          have X5 : Hid (w5.ownsRow w.heap.size 3 1 v' (k + 1) (valsF (fun i => (one0 ls i : Int)) (k + 1)) ∧ Ext w w5) := by
            refine ⟨?_, push_ext X3.out (Nat.le_refl _) hown hgrow5⟩
            rw [← valsF_succ, HO.out]
            exact hown5
          clear hgrow5 hown5 hown
          go_wp2
          go_roundw
          case rel => exact ⟨k + 1, by go_num, by omega, X5.out⟩
          case measure => simp [intOf]; omega
    · have hkn : k = n := by omega
      have bk : ¬ ((k : Int) < (n : Int)) := by omega
      subst hkn
      obtain ⟨g, c, hv, _, hg, hr⟩ := own_rowF HX.out.1 HA.out.2.2.2.2
      subst hv
      have HR : Hid (w.heap.size ≤ g ∧ RowF wr g k (fun i => (one0 ls i : Int)) ∧ Ext w wr) := ⟨hg, hr, HX.out.2⟩
      clear hr hg HX hlt
      go_wp2_with fail
      refine (HW.out _ HR.out.2.2).mono ?_
      rintro e w3 ⟨gy, cy, gn, cn, rfl, hgy, hgn, ry, rn, e3⟩
      have HG : Hid (g ≠ gy ∧ g ≠ gn ∧ w.heap.size ≤ g ∧ g < w3.heap.size ∧ w.heap.size ≤ gy ∧ w.heap.size ≤ gn) := ⟨by have := HR.out.2.1.1; omega, by have := HR.out.2.1.1; omega, HR.out.1, Nat.lt_of_lt_of_le HR.out.2.1.1 e3.size, Nat.le_trans HR.out.2.2.size hgy, Nat.le_trans HR.out.2.2.size hgn⟩
      have HR3 : Hid (RowF w3 g k (fun i => (one0 ls i : Int)) ∧ RowF w3 gy k (fun i => wayV ls (ls.getD i zeroL).yes) ∧ RowF w3 gn k (fun i => wayV ls (ls.getD i zeroL).no) ∧ Ext w w3) := ⟨HR.out.2.1.ext e3, ry, rn, HR.out.2.2.trans e3⟩
      clear hgy hgn ry rn e3 HR HW bk hk
      go_wp2_with fail
      go_loopw [8] (fun iv wr => ∃ (r : Nat) (o : Nat → Nat), iv = .int .i64 r ∧ r ≤ k + 1 ∧ Hid (growP ls s o ∧ r ≤ thr o k ∧ RowF wr g k (fun i => (o i : Int)) ∧ RowF wr gy k (fun i => wayV ls (ls.getD i zeroL).yes) ∧ RowF wr gn k (fun i => wayV ls (ls.getD i zeroL).no) ∧ Ext w wr)) (fun iv _ => k + 1 - (intOf iv).toNat)
      case atStart => exact ⟨0, one0 ls, rfl, by omega, one0_grow HA.out.2.2.1 HA.out.2.2.2.1, Nat.zero_le _, HR3.out.1, HR3.out.2.1, HR3.out.2.2.1, HR3.out.2.2.2⟩
      case round =>
        obtain ⟨r, o, rfl, hr, HX⟩ := hrel
        clear HR3
        have hrk : r ≤ k := Nat.le_trans HX.out.2.1 (thr_le o k)
        have br : (r : Int) ≤ (k : Int) := by omega
        have HB : Hid (∀ w1, Ext wr w1 → Calls Try.prog 52 #[.slice (some ⟨g, 0, none⟩) k c] w1 fun e w' => ∃ q c', e = .returned (.slice (some ⟨q, 0, none⟩) k c') ∧ w1.heap.size ≤ q ∧ RowF w' q k (fun i => (cnt o i : Int)) ∧ Ext w1 w') := fun w1 hE => begins_any g k c o w1 hn0 hl' (by have := grow_le HA.out.2.2.2.1 HX.out.1; rw [← HA.out.2.1] at this; exact this) (HX.out.2.2.1.ext hE)
        go_wp2_with fail
        refine (HB.out _ (Ext.refl _)).mono ?_
        rintro e w4 ⟨gb, cb, rfl, hgb, rb, e4⟩
        have HG4 : Hid (gb ≠ g ∧ gb ≠ gy ∧ gb ≠ gn ∧ w.heap.size ≤ gb) := ⟨by have := HX.out.2.2.1.1; omega, by have := HX.out.2.2.2.1.1; omega, by have := HX.out.2.2.2.2.1.1; omega, Nat.le_trans HX.out.2.2.2.2.2.size hgb⟩
        have HR4 : Hid (RowF w4 g k (fun i => (o i : Int)) ∧ RowF w4 gy k (fun i => wayV ls (ls.getD i zeroL).yes) ∧ RowF w4 gn k (fun i => wayV ls (ls.getD i zeroL).no) ∧ RowF w4 gb k (fun i => (cnt o i : Int)) ∧ Ext w w4) := ⟨HX.out.2.2.1.ext e4, HX.out.2.2.2.1.ext e4, HX.out.2.2.2.2.1.ext e4, rb, HX.out.2.2.2.2.2.trans e4⟩
        have HO : Hid (growP ls s o ∧ r ≤ thr o k) := ⟨HX.out.1, HX.out.2.1⟩
        clear HB hgb rb e4 HX
        go_wp2_with fail
        go_loopw [10, 11] (fun bv iv wr => ∃ (b : Bool) (m : Nat) (p : Nat → Nat), bv = .bool b ∧ iv = .int .i64 m ∧ m ≤ k ∧ Hid (goneP ls s o p m b ∧ RowF wr g k (fun i => (p i : Int)) ∧ RowF wr gy k (fun i => wayV ls (ls.getD i zeroL).yes) ∧ RowF wr gn k (fun i => wayV ls (ls.getD i zeroL).no) ∧ RowF wr gb k (fun i => (cnt o i : Int)) ∧ Ext w wr)) (fun _ iv _ => k - (intOf iv).toNat)
        case atStart => exact ⟨false, 0, o, rfl, rfl, by omega, gone_start HO.out.1, HR4.out⟩
        case round =>
          obtain ⟨b, m, p, rfl, rfl, hm, HX⟩ := hrel
          clear HR4
          by_cases hmk : m < k
          · have bm : (m : Int) < (k : Int) := by omega
            obtain ⟨⟨lab, ⟨oo, kk, y, nn⟩, yes, no⟩, hp⟩ : ∃ p, p = ls.getD m zeroL := ⟨_, rfl⟩
            obtain ⟨b', off, rfl, hq⟩ := (HA.out.1.ext HX.out.2.2.2.2.2).hept (k := m) (by have := HA.out.2.1; omega) hp
            have c1 := hq.2.1
            simp only at c1
            have HP : Hid (Ln.mk lab (oo, kk, y, nn) yes no = ls.getD m zeroL) := hp
            obtain ⟨q, hqq⟩ : ∃ q, q = inB oo 3 6 := ⟨_, rfl⟩
            have HQ : Hid (∀ w, Calls Try.prog 53 #[.int .i64 oo] w fun e w' => e = .returned (.bool q) ∧ w = w') := fun w => by rw [hqq]; exact ask_any oo w
            have HAQ : Hid (q = true ↔ askP (ls.getD m zeroL).wd.1) := by
              show _ ↔ _
              rw [hqq, ← hp, inB_true]
              rfl
            clear hp hq hqq
            cases q with
            | false =>
              go_wp2_with fail
              refine (HQ.out _).mono ?_
              rintro e w5 ⟨rfl, rfl⟩
              go_wp2
              go_roundw
              case rel => exact ⟨b, m + 1, p, rfl, by go_num, by omega, gone_pass HX.out.1 (by have := HA.out.2.1; omega) (fun h => by have := HAQ.out.2 h; cases this), HX.out.2⟩
              case measure => simp [intOf]; omega
            | true =>
              have HAK : Hid (askP (ls.getD m zeroL).wd.1) := HAQ.out.1 rfl
              obtain ⟨y0, _⟩ := HX.out.2.1.2 m hmk
              dsimp only at y0
              by_cases h3 : p m = 3
              · rw [h3] at y0
                go_wp2_with fail
                refine (HQ.out _).mono ?_
                rintro e w5 ⟨rfl, rfl⟩
                go_wp2
                go_roundw
                case rel => exact ⟨b, m + 1, p, rfl, by go_num, by omega, gone_pass HX.out.1 (by have := HA.out.2.1; omega) (fun _ => .inl h3), HX.out.2⟩
                case measure => simp [intOf]; omega
              · have q3 : ((p m : Int) == 3) = false := by simp; omega
                have H3 : Hid (p m ≠ 3) := h3
                have hmn : m < ls.length := by have := HA.out.2.1; omega
                have ho3 : o m ≠ 3 := by have := HX.out.1.2.2.1 m (Nat.le_refl _); omega
                obtain ⟨on1, on2⟩ := ask_on HA.out.2.2.1 hmn HAK.out
                have hfar := far_begins HA.out.2.2.1 HO.out.1 HA.out.2.2.2.1 hmn HAK.out ho3
                have x1 := (HX.out.2.2.1.2 m hmk).1
                dsimp only at x1
                rw [wayV_on HA.out.2.2.1 on1] at x1
                have x4 := (HX.out.2.2.2.1.2 m hmk).1
                dsimp only at x4
                rw [wayV_on HA.out.2.2.1 on2] at x4
                have hb1 : pos ls (ls.getD m zeroL).yes < k := by have := HA.out.2.1; have := on1.2; omega
                have hb2 : pos ls (ls.getD m zeroL).no < k := by have := HA.out.2.1; have := on2.2; omega
                have hcn : ∀ j, j < k → cnt o j ≤ 1800 := fun j hj => by
                  have h1 := cnt_less (s := o) (t := s) (a := 0) (b := j) (Nat.zero_le _) fun i _ hi => (HO.out.1 i (by have := HA.out.2.1; omega)).1
                  have h2 := cnt_le HA.out.2.2.2.1 (n := j) (by have := HA.out.2.1; omega)
                  simp only [cnt] at h1
                  omega
                have x2 := (HX.out.2.2.2.2.1.2 _ hb1).1
                have x3 := (HX.out.2.2.2.2.1.2 _ hmk).1
                have x5 := (HX.out.2.2.2.2.1.2 _ hb2).1
                dsimp only at x2 x3 x5
                have u1 := hcn _ hb1
                have u2 := hcn _ hb2
                have u3 := hcn _ hmk
                generalize pos ls (ls.getD m zeroL).yes = p1 at *
                generalize pos ls (ls.getD m zeroL).no = p2 at *
                generalize cnt o p1 = B1 at *
                generalize cnt o p2 = B2 at *
                generalize cnt o m = Bm at *
                have HFAR : Hid (farL ls o m ↔ 15 < (B1 : Int) - (Bm : Int) - 1 ∨ 15 < (B2 : Int) - (Bm : Int) - 1) := hfar
                have bb1 : (p1 : Int) < (k : Int) := by omega
                have bb2 : (p2 : Int) < (k : Int) := by omega
                clear h3 ho3 on1 on2 hfar hcn hmn
                by_cases f1 : 15 < (B1 : Int) - (Bm : Int) - 1
                · go_wp2_with fail
                  refine (HQ.out _).mono ?_
                  rintro e w5 ⟨rfl, rfl⟩
                  clear HQ c1
                  go_wp2_with fail
                  refine' wp_region_loose (.inl _ :: .inl _ :: .inl _ :: .inl _ :: .inl _ :: .inl _ :: .inl _ :: .inl _ :: .inl _ :: .inl _ :: .inl _ :: .inl _ :: .inl _ :: .inl _ :: .inl _ :: .inl undef :: .inl undef :: .inl undef :: .inl undef :: .inl undef :: .inl undef :: .inl undef :: .inl undef :: .inl undef :: .inl undef :: .inl undef :: .inl undef :: .inl undef :: .inl undef :: .inl _ :: []) (fun w' => w'.cell? ⟨gy, m, none⟩ = some (.int .i64 (p1 : Int)) ∧ w'.cell? ⟨gb, p1, none⟩ = some (.int .i64 (B1 : Int)) ∧ w'.cell? ⟨gb, m, none⟩ = some (.int .i64 (Bm : Int)) ∧ w'.cell? ⟨gn, m, none⟩ = some (.int .i64 (p2 : Int)) ∧ w'.cell? ⟨gb, p2, none⟩ = some (.int .i64 (B2 : Int))) (by kernel_rfl) (by kernel_rfl) (⟨x1, x2, x3, x4, x5⟩) (fun _ _ h hE => ⟨(hE.cell (p := ⟨gy, m, none⟩) (World.block_lt_of_cell? _ _ h.1)).trans h.1, (hE.cell (p := ⟨gb, p1, none⟩) (World.block_lt_of_cell? _ _ h.2.1)).trans h.2.1, (hE.cell (p := ⟨gb, m, none⟩) (World.block_lt_of_cell? _ _ h.2.2.1)).trans h.2.2.1, (hE.cell (p := ⟨gn, m, none⟩) (World.block_lt_of_cell? _ _ h.2.2.2.1)).trans h.2.2.2.1, (hE.cell (p := ⟨gb, p2, none⟩) (World.block_lt_of_cell? _ _ h.2.2.2.2)).trans h.2.2.2.2⟩) ?hAa ?hla ?hMa
                  case' hMa => skip
                  apply wpLoose_val rfl rfl
                  case hs =>
                    intro w1 hC hd Q1 hQ1
                    obtain ⟨hE, hS⟩ := hC
                    dsimp only [bare]
                    obtain ⟨q1, q2, q3, q4, q5⟩ := hS
                    clear hd hE
                    try clear hS
                    go_wp2
                    exact Ext.refl _
                  case ha => rfl
                  apply wpLoose_val rfl rfl
                  case hs =>
                    intro w1 hC hd Q1 hQ1
                    obtain ⟨hE, hS⟩ := hC
                    dsimp only [bare]
                    obtain ⟨q1, q2, q3, q4, q5⟩ := hS
                    clear hd hE
                    try clear hS
                    go_wp2
                    exact Ext.refl _
                  case ha => rfl
                  apply wpLoose_val rfl rfl
                  case hs =>
                    intro w1 hC hd Q1 hQ1
                    obtain ⟨hE, hS⟩ := hC
                    dsimp only [bare]
                    obtain ⟨q1, q2, q3, q4, q5⟩ := hS
                    clear hd hE
                    try clear hS
                    go_wp2
                    exact Ext.refl _
                  case ha => rfl
                  apply wpLoose_val rfl rfl
                  case hs =>
                    intro w1 hC hd Q1 hQ1
                    obtain ⟨hE, hS⟩ := hC
                    dsimp only [bare]
                    obtain ⟨q1, q2, q3, q4, q5⟩ := hS
                    clear hd hE
                    try clear hS
                    go_wp2
                    exact Ext.refl _
                  case ha => rfl
                  apply wpLoose_val rfl rfl
                  case hs =>
                    intro w1 hC hd Q1 hQ1
                    obtain ⟨hE, hS⟩ := hC
                    dsimp only [bare]
                    obtain ⟨q1, q2, q3, q4, q5⟩ := hS
                    clear hd hE
                    try clear hS
                    go_wp2
                    exact Ext.refl _
                  case ha => rfl
                  apply wpLoose_val rfl rfl
                  case hs =>
                    intro w1 hC hd Q1 hQ1
                    obtain ⟨hE, hS⟩ := hC
                    dsimp only [bare]
                    obtain ⟨q1, q2, q3, q4, q5⟩ := hS
                    clear hd hE
                    try clear hS
                    go_wp2
                    exact Ext.refl _
                  case ha => rfl
                  apply wpLoose_val rfl rfl
                  case hs =>
                    intro w1 hC hd Q1 hQ1
                    obtain ⟨hE, hS⟩ := hC
                    dsimp only [bare]
                    obtain ⟨q1, q2, q3, q4, q5⟩ := hS
                    clear hd hE
                    try clear hS
                    go_wp2
                    exact Ext.refl _
                  case ha => rfl
                  apply wpLoose_val rfl rfl
                  case hs =>
                    intro w1 hC hd Q1 hQ1
                    obtain ⟨hE, hS⟩ := hC
                    dsimp only [bare]
                    obtain ⟨q1, q2, q3, q4, q5⟩ := hS
                    clear hd hE
                    try clear hS
                    go_wp2
                    exact Ext.refl _
                  case ha => rfl
                  apply wpLoose_val rfl rfl
                  case hs =>
                    intro w1 hC hd Q1 hQ1
                    obtain ⟨hE, hS⟩ := hC
                    dsimp only [bare]
                    obtain ⟨q1, q2, q3, q4, q5⟩ := hS
                    clear hd hE
                    try clear hS
                    go_wp2
                    exact Ext.refl _
                  case ha => rfl
                  apply wpLoose_val rfl rfl
                  case hs =>
                    intro w1 hC hd Q1 hQ1
                    obtain ⟨hE, hS⟩ := hC
                    dsimp only [bare]
                    obtain ⟨q1, q2, q3, q4, q5⟩ := hS
                    clear hd hE
                    try clear hS
                    go_wp2
                    exact Ext.refl _
                  case ha => rfl
                  apply wpLoose_val rfl rfl
                  case hs =>
                    intro w1 hC hd Q1 hQ1
                    obtain ⟨hE, hS⟩ := hC
                    dsimp only [bare]
                    obtain ⟨q1, q2, q3, q4, q5⟩ := hS
                    clear hd hE
                    try clear hS
                    go_wp2
                    exact Ext.refl _
                  case ha => rfl
                  apply wpLoose_val rfl rfl
                  case hs =>
                    intro w1 hC hd Q1 hQ1
                    obtain ⟨hE, hS⟩ := hC
                    dsimp only [bare]
                    obtain ⟨q1, q2, q3, q4, q5⟩ := hS
                    clear hd hE
                    try clear hS
                    go_wp2
                    exact Ext.refl _
                  case ha => rfl
                  apply wpLoose_val rfl rfl
                  case hs =>
                    intro w1 hC hd Q1 hQ1
                    obtain ⟨hE, hS⟩ := hC
                    dsimp only [bare]
                    obtain ⟨q1, q2, q3, q4, q5⟩ := hS
                    clear hd hE
                    try clear hS
                    go_wp2
                    exact Ext.refl _
                  case ha => rfl
                  apply wpLoose_val rfl rfl
                  case hs =>
                    intro w1 hC hd Q1 hQ1
                    obtain ⟨hE, hS⟩ := hC
                    dsimp only [bare]
                    obtain ⟨q1, q2, q3, q4, q5⟩ := hS
                    clear hd hE
                    try clear hS
                    go_wp2
                    exact Ext.refl _
                  case ha => rfl
                  apply wpLoose_val rfl rfl
                  case hs =>
                    intro w1 hC hd Q1 hQ1
                    obtain ⟨hE, hS⟩ := hC
                    dsimp only [bare]
                    obtain ⟨q1, q2, q3, q4, q5⟩ := hS
                    clear hd hE
                    try clear hS
                    go_wp2
                    exact Ext.refl _
                  case ha => rfl
                  refine wpLoose_skip rfl rfl ?_
                  try simp only [Act.put, List.setIfInBounds_toArray, List.set_cons_succ, List.set_cons_zero]
                  refine wpLoose_skip rfl rfl ?_
                  try simp only [Act.put, List.setIfInBounds_toArray, List.set_cons_succ, List.set_cons_zero]
                  refine wpLoose_skip rfl rfl ?_
                  try simp only [Act.put, List.setIfInBounds_toArray, List.set_cons_succ, List.set_cons_zero]
                  refine wpLoose_skip rfl rfl ?_
                  try simp only [Act.put, List.setIfInBounds_toArray, List.set_cons_succ, List.set_cons_zero]
                  refine wpLoose_skip rfl rfl ?_
                  try simp only [Act.put, List.setIfInBounds_toArray, List.set_cons_succ, List.set_cons_zero]
                  refine wpLoose_skip rfl rfl ?_
                  try simp only [Act.put, List.setIfInBounds_toArray, List.set_cons_succ, List.set_cons_zero]
                  refine wpLoose_skip rfl rfl ?_
                  try simp only [Act.put, List.setIfInBounds_toArray, List.set_cons_succ, List.set_cons_zero]
                  refine wpLoose_skip rfl rfl ?_
                  try simp only [Act.put, List.setIfInBounds_toArray, List.set_cons_succ, List.set_cons_zero]
                  refine wpLoose_skip rfl rfl ?_
                  try simp only [Act.put, List.setIfInBounds_toArray, List.set_cons_succ, List.set_cons_zero]
                  refine wpLoose_skip rfl rfl ?_
                  try simp only [Act.put, List.setIfInBounds_toArray, List.set_cons_succ, List.set_cons_zero]
                  refine wpLoose_skip rfl rfl ?_
                  try simp only [Act.put, List.setIfInBounds_toArray, List.set_cons_succ, List.set_cons_zero]
                  refine wpLoose_skip rfl rfl ?_
                  try simp only [Act.put, List.setIfInBounds_toArray, List.set_cons_succ, List.set_cons_zero]
                  refine wpLoose_skip rfl rfl ?_
                  try simp only [Act.put, List.setIfInBounds_toArray, List.set_cons_succ, List.set_cons_zero]
                  refine wpLoose_skip rfl rfl ?_
                  try simp only [Act.put, List.setIfInBounds_toArray, List.set_cons_succ, List.set_cons_zero]
                  apply wpLoose_val rfl rfl
                  case hs =>
                    intro w1 hC hd Q1 hQ1
                    obtain ⟨hE, hS⟩ := hC
                    dsimp only [bare]
                    obtain ⟨q1, q2, q3, q4, q5⟩ := hS
                    clear hd hE
                    try clear hS
                    go_wp2
                    exact Ext.refl _
                  case ha => rfl
                  refine wpLoose_nil ?_
                  intro wa hEa hSa hFa
                  have HX5 : Hid (goneP ls s o p m b ∧ RowF wa g k (fun i => (p i : Int)) ∧ RowF wa gy k (fun i => wayV ls (ls.getD i zeroL).yes) ∧ RowF wa gn k (fun i => wayV ls (ls.getD i zeroL).no) ∧ RowF wa gb k (fun i => (cnt o i : Int)) ∧ Ext w wa) :=
                    ⟨HX.out.1, RowF.ext (w := wr.drew) HX.out.2.1 hEa, RowF.ext (w := wr.drew) HX.out.2.2.1 hEa, RowF.ext (w := wr.drew) HX.out.2.2.2.1 hEa, RowF.ext (w := wr.drew) HX.out.2.2.2.2.1 hEa, HX.out.2.2.2.2.2.drew.trans hEa⟩
                  clear hFa hSa hEa x1 x2 x3 x4 x5 HX
                  obtain ⟨y0, y1⟩ := HX5.out.2.1.2 m hmk
                  dsimp only at y0
                  go_wp2
                  go_roundw
                  case rel =>
                    refine ⟨true, m + 1, setN p m 3, rfl, by go_num, by omega, gone_grow HA.out.2.2.1 HA.out.2.2.2.1 HX5.out.1 (by have := HA.out.2.1; omega) HAK.out H3.out (HFAR.out.2 (by omega)), ?_, HX5.out.2.2.1.far (Ne.symm HG.out.1) _, HX5.out.2.2.2.1.far (Ne.symm HG.out.2.1) _, HX5.out.2.2.2.2.1.far HG4.out.1 _, ?_⟩
                    · refine (HX5.out.2.1.set hmk 3).as fun j hj => ?_
                      unfold setF setN
                      by_cases e : j = m
                      · rw [if_pos e, if_pos e]; rfl
                      · rw [if_neg e, if_neg e]
                    · exact Below.setCell HX5.out.2.2.2.2.2 (show w.heap.size ≤ g from HG.out.2.2.1) _
                  case measure => simp [intOf]; omega
                  case hAa => kernel_rfl
                  case hla => exact ⟨trivial, trivial, trivial, trivial, trivial, trivial, trivial, trivial, trivial, trivial, trivial, trivial, trivial, trivial, trivial, trivial, trivial, trivial, trivial, trivial, trivial, trivial, trivial, trivial, trivial, trivial, trivial, trivial, trivial, trivial, trivial⟩
                · have fd1 : decide (15 < (B1 : Int) - (Bm : Int) - 1) = false := decide_eq_false f1
                  by_cases f2 : 15 < (B2 : Int) - (Bm : Int) - 1
                  · go_wp2_with fail
                    refine (HQ.out _).mono ?_
                    rintro e w5 ⟨rfl, rfl⟩
                    clear HQ c1
                    go_wp2_with fail
                    refine' wp_region_loose (.inl _ :: .inl _ :: .inl _ :: .inl _ :: .inl _ :: .inl _ :: .inl _ :: .inl _ :: .inl _ :: .inl _ :: .inl _ :: .inl _ :: .inl _ :: .inl _ :: .inl _ :: .inl _ :: .inl _ :: .inl _ :: .inl _ :: .inl _ :: .inl _ :: .inl _ :: .inl _ :: .inl _ :: .inl _ :: .inl _ :: .inl _ :: .inl _ :: .inl _ :: .inl _ :: []) (fun w' => w'.cell? ⟨gy, m, none⟩ = some (.int .i64 (p1 : Int)) ∧ w'.cell? ⟨gb, p1, none⟩ = some (.int .i64 (B1 : Int)) ∧ w'.cell? ⟨gb, m, none⟩ = some (.int .i64 (Bm : Int)) ∧ w'.cell? ⟨gn, m, none⟩ = some (.int .i64 (p2 : Int)) ∧ w'.cell? ⟨gb, p2, none⟩ = some (.int .i64 (B2 : Int))) (by kernel_rfl) (by kernel_rfl) (⟨x1, x2, x3, x4, x5⟩) (fun _ _ h hE => ⟨(hE.cell (p := ⟨gy, m, none⟩) (World.block_lt_of_cell? _ _ h.1)).trans h.1, (hE.cell (p := ⟨gb, p1, none⟩) (World.block_lt_of_cell? _ _ h.2.1)).trans h.2.1, (hE.cell (p := ⟨gb, m, none⟩) (World.block_lt_of_cell? _ _ h.2.2.1)).trans h.2.2.1, (hE.cell (p := ⟨gn, m, none⟩) (World.block_lt_of_cell? _ _ h.2.2.2.1)).trans h.2.2.2.1, (hE.cell (p := ⟨gb, p2, none⟩) (World.block_lt_of_cell? _ _ h.2.2.2.2)).trans h.2.2.2.2⟩) ?hAb ?hlb ?hMb
                    case' hMb => skip
                    apply wpLoose_val rfl rfl
                    case hs =>
                      intro w1 hC hd Q1 hQ1
                      obtain ⟨hE, hS⟩ := hC
                      dsimp only [bare]
                      obtain ⟨q1, q2, q3, q4, q5⟩ := hS
                      clear hd hE
                      try clear hS
                      go_wp2
                      exact Ext.refl _
                    case ha => rfl
                    apply wpLoose_val rfl rfl
                    case hs =>
                      intro w1 hC hd Q1 hQ1
                      obtain ⟨hE, hS⟩ := hC
                      dsimp only [bare]
                      obtain ⟨q1, q2, q3, q4, q5⟩ := hS
                      clear hd hE
                      try clear hS
                      go_wp2
                      exact Ext.refl _
                    case ha => rfl
                    apply wpLoose_val rfl rfl
                    case hs =>
                      intro w1 hC hd Q1 hQ1
                      obtain ⟨hE, hS⟩ := hC
                      dsimp only [bare]
                      obtain ⟨q1, q2, q3, q4, q5⟩ := hS
                      clear hd hE
                      try clear hS
                      go_wp2
                      exact Ext.refl _
                    case ha => rfl
                    apply wpLoose_val rfl rfl
                    case hs =>
                      intro w1 hC hd Q1 hQ1
                      obtain ⟨hE, hS⟩ := hC
                      dsimp only [bare]
                      obtain ⟨q1, q2, q3, q4, q5⟩ := hS
                      clear hd hE
                      try clear hS
                      go_wp2
                      exact Ext.refl _
                    case ha => rfl
                    apply wpLoose_val rfl rfl
                    case hs =>
                      intro w1 hC hd Q1 hQ1
                      obtain ⟨hE, hS⟩ := hC
                      dsimp only [bare]
                      obtain ⟨q1, q2, q3, q4, q5⟩ := hS
                      clear hd hE
                      try clear hS
                      go_wp2
                      exact Ext.refl _
                    case ha => rfl
                    apply wpLoose_val rfl rfl
                    case hs =>
                      intro w1 hC hd Q1 hQ1
                      obtain ⟨hE, hS⟩ := hC
                      dsimp only [bare]
                      obtain ⟨q1, q2, q3, q4, q5⟩ := hS
                      clear hd hE
                      try clear hS
                      go_wp2
                      exact Ext.refl _
                    case ha => rfl
                    apply wpLoose_val rfl rfl
                    case hs =>
                      intro w1 hC hd Q1 hQ1
                      obtain ⟨hE, hS⟩ := hC
                      dsimp only [bare]
                      obtain ⟨q1, q2, q3, q4, q5⟩ := hS
                      clear hd hE
                      try clear hS
                      go_wp2
                      exact Ext.refl _
                    case ha => rfl
                    apply wpLoose_val rfl rfl
                    case hs =>
                      intro w1 hC hd Q1 hQ1
                      obtain ⟨hE, hS⟩ := hC
                      dsimp only [bare]
                      obtain ⟨q1, q2, q3, q4, q5⟩ := hS
                      clear hd hE
                      try clear hS
                      go_wp2
                      exact Ext.refl _
                    case ha => rfl
                    apply wpLoose_val rfl rfl
                    case hs =>
                      intro w1 hC hd Q1 hQ1
                      obtain ⟨hE, hS⟩ := hC
                      dsimp only [bare]
                      obtain ⟨q1, q2, q3, q4, q5⟩ := hS
                      clear hd hE
                      try clear hS
                      go_wp2
                      exact Ext.refl _
                    case ha => rfl
                    apply wpLoose_val rfl rfl
                    case hs =>
                      intro w1 hC hd Q1 hQ1
                      obtain ⟨hE, hS⟩ := hC
                      dsimp only [bare]
                      obtain ⟨q1, q2, q3, q4, q5⟩ := hS
                      clear hd hE
                      try clear hS
                      go_wp2
                      exact Ext.refl _
                    case ha => rfl
                    apply wpLoose_val rfl rfl
                    case hs =>
                      intro w1 hC hd Q1 hQ1
                      obtain ⟨hE, hS⟩ := hC
                      dsimp only [bare]
                      obtain ⟨q1, q2, q3, q4, q5⟩ := hS
                      clear hd hE
                      try clear hS
                      go_wp2
                      exact Ext.refl _
                    case ha => rfl
                    apply wpLoose_val rfl rfl
                    case hs =>
                      intro w1 hC hd Q1 hQ1
                      obtain ⟨hE, hS⟩ := hC
                      dsimp only [bare]
                      obtain ⟨q1, q2, q3, q4, q5⟩ := hS
                      clear hd hE
                      try clear hS
                      go_wp2
                      exact Ext.refl _
                    case ha => rfl
                    apply wpLoose_val rfl rfl
                    case hs =>
                      intro w1 hC hd Q1 hQ1
                      obtain ⟨hE, hS⟩ := hC
                      dsimp only [bare]
                      obtain ⟨q1, q2, q3, q4, q5⟩ := hS
                      clear hd hE
                      try clear hS
                      go_wp2
                      exact Ext.refl _
                    case ha => rfl
                    apply wpLoose_val rfl rfl
                    case hs =>
                      intro w1 hC hd Q1 hQ1
                      obtain ⟨hE, hS⟩ := hC
                      dsimp only [bare]
                      obtain ⟨q1, q2, q3, q4, q5⟩ := hS
                      clear hd hE
                      try clear hS
                      go_wp2
                      exact Ext.refl _
                    case ha => rfl
                    apply wpLoose_val rfl rfl
                    case hs =>
                      intro w1 hC hd Q1 hQ1
                      obtain ⟨hE, hS⟩ := hC
                      dsimp only [bare]
                      obtain ⟨q1, q2, q3, q4, q5⟩ := hS
                      clear hd hE
                      try clear hS
                      go_wp2
                      exact Ext.refl _
                    case ha => rfl
                    apply wpLoose_val rfl rfl
                    case hs =>
                      intro w1 hC hd Q1 hQ1
                      obtain ⟨hE, hS⟩ := hC
                      dsimp only [bare]
                      obtain ⟨q1, q2, q3, q4, q5⟩ := hS
                      clear hd hE
                      try clear hS
                      go_wp2
                      exact Ext.refl _
                    case ha => rfl
                    apply wpLoose_val rfl rfl
                    case hs =>
                      intro w1 hC hd Q1 hQ1
                      obtain ⟨hE, hS⟩ := hC
                      dsimp only [bare]
                      obtain ⟨q1, q2, q3, q4, q5⟩ := hS
                      clear hd hE
                      try clear hS
                      go_wp2
                      exact Ext.refl _
                    case ha => rfl
                    apply wpLoose_val rfl rfl
                    case hs =>
                      intro w1 hC hd Q1 hQ1
                      obtain ⟨hE, hS⟩ := hC
                      dsimp only [bare]
                      obtain ⟨q1, q2, q3, q4, q5⟩ := hS
                      clear hd hE
                      try clear hS
                      go_wp2
                      exact Ext.refl _
                    case ha => rfl
                    apply wpLoose_val rfl rfl
                    case hs =>
                      intro w1 hC hd Q1 hQ1
                      obtain ⟨hE, hS⟩ := hC
                      dsimp only [bare]
                      obtain ⟨q1, q2, q3, q4, q5⟩ := hS
                      clear hd hE
                      try clear hS
                      go_wp2
                      exact Ext.refl _
                    case ha => rfl
                    apply wpLoose_val rfl rfl
                    case hs =>
                      intro w1 hC hd Q1 hQ1
                      obtain ⟨hE, hS⟩ := hC
                      dsimp only [bare]
                      obtain ⟨q1, q2, q3, q4, q5⟩ := hS
                      clear hd hE
                      try clear hS
                      go_wp2
                      exact Ext.refl _
                    case ha => rfl
                    apply wpLoose_val rfl rfl
                    case hs =>
                      intro w1 hC hd Q1 hQ1
                      obtain ⟨hE, hS⟩ := hC
                      dsimp only [bare]
                      obtain ⟨q1, q2, q3, q4, q5⟩ := hS
                      clear hd hE
                      try clear hS
                      go_wp2
                      exact Ext.refl _
                    case ha => rfl
                    apply wpLoose_val rfl rfl
                    case hs =>
                      intro w1 hC hd Q1 hQ1
                      obtain ⟨hE, hS⟩ := hC
                      dsimp only [bare]
                      obtain ⟨q1, q2, q3, q4, q5⟩ := hS
                      clear hd hE
                      try clear hS
                      go_wp2
                      exact Ext.refl _
                    case ha => rfl
                    apply wpLoose_val rfl rfl
                    case hs =>
                      intro w1 hC hd Q1 hQ1
                      obtain ⟨hE, hS⟩ := hC
                      dsimp only [bare]
                      obtain ⟨q1, q2, q3, q4, q5⟩ := hS
                      clear hd hE
                      try clear hS
                      go_wp2
                      exact Ext.refl _
                    case ha => rfl
                    apply wpLoose_val rfl rfl
                    case hs =>
                      intro w1 hC hd Q1 hQ1
                      obtain ⟨hE, hS⟩ := hC
                      dsimp only [bare]
                      obtain ⟨q1, q2, q3, q4, q5⟩ := hS
                      clear hd hE
                      try clear hS
                      go_wp2
                      exact Ext.refl _
                    case ha => rfl
                    apply wpLoose_val rfl rfl
                    case hs =>
                      intro w1 hC hd Q1 hQ1
                      obtain ⟨hE, hS⟩ := hC
                      dsimp only [bare]
                      obtain ⟨q1, q2, q3, q4, q5⟩ := hS
                      clear hd hE
                      try clear hS
                      go_wp2
                      exact Ext.refl _
                    case ha => rfl
                    apply wpLoose_val rfl rfl
                    case hs =>
                      intro w1 hC hd Q1 hQ1
                      obtain ⟨hE, hS⟩ := hC
                      dsimp only [bare]
                      obtain ⟨q1, q2, q3, q4, q5⟩ := hS
                      clear hd hE
                      try clear hS
                      go_wp2
                      exact Ext.refl _
                    case ha => rfl
                    apply wpLoose_val rfl rfl
                    case hs =>
                      intro w1 hC hd Q1 hQ1
                      obtain ⟨hE, hS⟩ := hC
                      dsimp only [bare]
                      obtain ⟨q1, q2, q3, q4, q5⟩ := hS
                      clear hd hE
                      try clear hS
                      go_wp2
                      exact Ext.refl _
                    case ha => rfl
                    apply wpLoose_val rfl rfl
                    case hs =>
                      intro w1 hC hd Q1 hQ1
                      obtain ⟨hE, hS⟩ := hC
                      dsimp only [bare]
                      obtain ⟨q1, q2, q3, q4, q5⟩ := hS
                      clear hd hE
                      try clear hS
                      go_wp2
                      exact Ext.refl _
                    case ha => rfl
                    apply wpLoose_val rfl rfl
                    case hs =>
                      intro w1 hC hd Q1 hQ1
                      obtain ⟨hE, hS⟩ := hC
                      dsimp only [bare]
                      obtain ⟨q1, q2, q3, q4, q5⟩ := hS
                      clear hd hE
                      try clear hS
                      go_wp2
                      exact Ext.refl _
                    case ha => rfl
                    apply wpLoose_val rfl rfl
                    case hs =>
                      intro w1 hC hd Q1 hQ1
                      obtain ⟨hE, hS⟩ := hC
                      dsimp only [bare]
                      obtain ⟨q1, q2, q3, q4, q5⟩ := hS
                      clear hd hE
                      try clear hS
                      go_wp2
                      exact Ext.refl _
                    case ha => rfl
                    refine wpLoose_nil ?_
                    intro wb hEb hSb hFb
                    have HX5 : Hid (goneP ls s o p m b ∧ RowF wb g k (fun i => (p i : Int)) ∧ RowF wb gy k (fun i => wayV ls (ls.getD i zeroL).yes) ∧ RowF wb gn k (fun i => wayV ls (ls.getD i zeroL).no) ∧ RowF wb gb k (fun i => (cnt o i : Int)) ∧ Ext w wb) :=
                      ⟨HX.out.1, RowF.ext (w := wr.drew) HX.out.2.1 hEb, RowF.ext (w := wr.drew) HX.out.2.2.1 hEb, RowF.ext (w := wr.drew) HX.out.2.2.2.1 hEb, RowF.ext (w := wr.drew) HX.out.2.2.2.2.1 hEb, HX.out.2.2.2.2.2.drew.trans hEb⟩
                    clear hFb hSb hEb x1 x2 x3 x4 x5 HX
                    obtain ⟨y0, y1⟩ := HX5.out.2.1.2 m hmk
                    dsimp only at y0
                    go_wp2
                    go_roundw
                    case rel =>
                      refine ⟨true, m + 1, setN p m 3, rfl, by go_num, by omega, gone_grow HA.out.2.2.1 HA.out.2.2.2.1 HX5.out.1 (by have := HA.out.2.1; omega) HAK.out H3.out (HFAR.out.2 (by omega)), ?_, HX5.out.2.2.1.far (Ne.symm HG.out.1) _, HX5.out.2.2.2.1.far (Ne.symm HG.out.2.1) _, HX5.out.2.2.2.2.1.far HG4.out.1 _, ?_⟩
                      · refine (HX5.out.2.1.set hmk 3).as fun j hj => ?_
                        unfold setF setN
                        by_cases e : j = m
                        · rw [if_pos e, if_pos e]; rfl
                        · rw [if_neg e, if_neg e]
                      · exact Below.setCell HX5.out.2.2.2.2.2 (show w.heap.size ≤ g from HG.out.2.2.1) _
                    case measure => simp [intOf]; omega
                    case hAb => kernel_rfl
                    case hlb => exact ⟨trivial, trivial, trivial, trivial, trivial, trivial, trivial, trivial, trivial, trivial, trivial, trivial, trivial, trivial, trivial, trivial, trivial, trivial, trivial, trivial, trivial, trivial, trivial, trivial, trivial, trivial, trivial, trivial, trivial, trivial, trivial⟩
                  · go_wp2_with fail
                    refine (HQ.out _).mono ?_
                    rintro e w5 ⟨rfl, rfl⟩
                    clear HQ c1
                    go_wp2_with fail
                    refine' wp_region_loose (.inl _ :: .inl _ :: .inl _ :: .inl _ :: .inl _ :: .inl _ :: .inl _ :: .inl _ :: .inl _ :: .inl _ :: .inl _ :: .inl _ :: .inl _ :: .inl _ :: .inl _ :: .inl _ :: .inl _ :: .inl _ :: .inl _ :: .inl _ :: .inl _ :: .inl _ :: .inl _ :: .inl _ :: .inl _ :: .inl _ :: .inl _ :: .inl _ :: .inl _ :: .inl _ :: []) (fun w' => w'.cell? ⟨gy, m, none⟩ = some (.int .i64 (p1 : Int)) ∧ w'.cell? ⟨gb, p1, none⟩ = some (.int .i64 (B1 : Int)) ∧ w'.cell? ⟨gb, m, none⟩ = some (.int .i64 (Bm : Int)) ∧ w'.cell? ⟨gn, m, none⟩ = some (.int .i64 (p2 : Int)) ∧ w'.cell? ⟨gb, p2, none⟩ = some (.int .i64 (B2 : Int))) (by kernel_rfl) (by kernel_rfl) (⟨x1, x2, x3, x4, x5⟩) (fun _ _ h hE => ⟨(hE.cell (p := ⟨gy, m, none⟩) (World.block_lt_of_cell? _ _ h.1)).trans h.1, (hE.cell (p := ⟨gb, p1, none⟩) (World.block_lt_of_cell? _ _ h.2.1)).trans h.2.1, (hE.cell (p := ⟨gb, m, none⟩) (World.block_lt_of_cell? _ _ h.2.2.1)).trans h.2.2.1, (hE.cell (p := ⟨gn, m, none⟩) (World.block_lt_of_cell? _ _ h.2.2.2.1)).trans h.2.2.2.1, (hE.cell (p := ⟨gb, p2, none⟩) (World.block_lt_of_cell? _ _ h.2.2.2.2)).trans h.2.2.2.2⟩) ?hAc ?hlc ?hMc
                    case' hMc => skip
                    apply wpLoose_val rfl rfl
                    case hs =>
                      intro w1 hC hd Q1 hQ1
                      obtain ⟨hE, hS⟩ := hC
                      dsimp only [bare]
                      obtain ⟨q1, q2, q3, q4, q5⟩ := hS
                      clear hd hE
                      try clear hS
                      go_wp2
                      exact Ext.refl _
                    case ha => rfl
                    apply wpLoose_val rfl rfl
                    case hs =>
                      intro w1 hC hd Q1 hQ1
                      obtain ⟨hE, hS⟩ := hC
                      dsimp only [bare]
                      obtain ⟨q1, q2, q3, q4, q5⟩ := hS
                      clear hd hE
                      try clear hS
                      go_wp2
                      exact Ext.refl _
                    case ha => rfl
                    apply wpLoose_val rfl rfl
                    case hs =>
                      intro w1 hC hd Q1 hQ1
                      obtain ⟨hE, hS⟩ := hC
                      dsimp only [bare]
                      obtain ⟨q1, q2, q3, q4, q5⟩ := hS
                      clear hd hE
                      try clear hS
                      go_wp2
                      exact Ext.refl _
                    case ha => rfl
                    apply wpLoose_val rfl rfl
                    case hs =>
                      intro w1 hC hd Q1 hQ1
                      obtain ⟨hE, hS⟩ := hC
                      dsimp only [bare]
                      obtain ⟨q1, q2, q3, q4, q5⟩ := hS
                      clear hd hE
                      try clear hS
                      go_wp2
                      exact Ext.refl _
                    case ha => rfl
                    apply wpLoose_val rfl rfl
                    case hs =>
                      intro w1 hC hd Q1 hQ1
                      obtain ⟨hE, hS⟩ := hC
                      dsimp only [bare]
                      obtain ⟨q1, q2, q3, q4, q5⟩ := hS
                      clear hd hE
                      try clear hS
                      go_wp2
                      exact Ext.refl _
                    case ha => rfl
                    apply wpLoose_val rfl rfl
                    case hs =>
                      intro w1 hC hd Q1 hQ1
                      obtain ⟨hE, hS⟩ := hC
                      dsimp only [bare]
                      obtain ⟨q1, q2, q3, q4, q5⟩ := hS
                      clear hd hE
                      try clear hS
                      go_wp2
                      exact Ext.refl _
                    case ha => rfl
                    apply wpLoose_val rfl rfl
                    case hs =>
                      intro w1 hC hd Q1 hQ1
                      obtain ⟨hE, hS⟩ := hC
                      dsimp only [bare]
                      obtain ⟨q1, q2, q3, q4, q5⟩ := hS
                      clear hd hE
                      try clear hS
                      go_wp2
                      exact Ext.refl _
                    case ha => rfl
                    apply wpLoose_val rfl rfl
                    case hs =>
                      intro w1 hC hd Q1 hQ1
                      obtain ⟨hE, hS⟩ := hC
                      dsimp only [bare]
                      obtain ⟨q1, q2, q3, q4, q5⟩ := hS
                      clear hd hE
                      try clear hS
                      go_wp2
                      exact Ext.refl _
                    case ha => rfl
                    apply wpLoose_val rfl rfl
                    case hs =>
                      intro w1 hC hd Q1 hQ1
                      obtain ⟨hE, hS⟩ := hC
                      dsimp only [bare]
                      obtain ⟨q1, q2, q3, q4, q5⟩ := hS
                      clear hd hE
                      try clear hS
                      go_wp2
                      exact Ext.refl _
                    case ha => rfl
                    apply wpLoose_val rfl rfl
                    case hs =>
                      intro w1 hC hd Q1 hQ1
                      obtain ⟨hE, hS⟩ := hC
                      dsimp only [bare]
                      obtain ⟨q1, q2, q3, q4, q5⟩ := hS
                      clear hd hE
                      try clear hS
                      go_wp2
                      exact Ext.refl _
                    case ha => rfl
                    apply wpLoose_val rfl rfl
                    case hs =>
                      intro w1 hC hd Q1 hQ1
                      obtain ⟨hE, hS⟩ := hC
                      dsimp only [bare]
                      obtain ⟨q1, q2, q3, q4, q5⟩ := hS
                      clear hd hE
                      try clear hS
                      go_wp2
                      exact Ext.refl _
                    case ha => rfl
                    apply wpLoose_val rfl rfl
                    case hs =>
                      intro w1 hC hd Q1 hQ1
                      obtain ⟨hE, hS⟩ := hC
                      dsimp only [bare]
                      obtain ⟨q1, q2, q3, q4, q5⟩ := hS
                      clear hd hE
                      try clear hS
                      go_wp2
                      exact Ext.refl _
                    case ha => rfl
                    apply wpLoose_val rfl rfl
                    case hs =>
                      intro w1 hC hd Q1 hQ1
                      obtain ⟨hE, hS⟩ := hC
                      dsimp only [bare]
                      obtain ⟨q1, q2, q3, q4, q5⟩ := hS
                      clear hd hE
                      try clear hS
                      go_wp2
                      exact Ext.refl _
                    case ha => rfl
                    apply wpLoose_val rfl rfl
                    case hs =>
                      intro w1 hC hd Q1 hQ1
                      obtain ⟨hE, hS⟩ := hC
                      dsimp only [bare]
                      obtain ⟨q1, q2, q3, q4, q5⟩ := hS
                      clear hd hE
                      try clear hS
                      go_wp2
                      exact Ext.refl _
                    case ha => rfl
                    apply wpLoose_val rfl rfl
                    case hs =>
                      intro w1 hC hd Q1 hQ1
                      obtain ⟨hE, hS⟩ := hC
                      dsimp only [bare]
                      obtain ⟨q1, q2, q3, q4, q5⟩ := hS
                      clear hd hE
                      try clear hS
                      go_wp2
                      exact Ext.refl _
                    case ha => rfl
                    apply wpLoose_val rfl rfl
                    case hs =>
                      intro w1 hC hd Q1 hQ1
                      obtain ⟨hE, hS⟩ := hC
                      dsimp only [bare]
                      obtain ⟨q1, q2, q3, q4, q5⟩ := hS
                      clear hd hE
                      try clear hS
                      go_wp2
                      exact Ext.refl _
                    case ha => rfl
                    apply wpLoose_val rfl rfl
                    case hs =>
                      intro w1 hC hd Q1 hQ1
                      obtain ⟨hE, hS⟩ := hC
                      dsimp only [bare]
                      obtain ⟨q1, q2, q3, q4, q5⟩ := hS
                      clear hd hE
                      try clear hS
                      go_wp2
                      exact Ext.refl _
                    case ha => rfl
                    apply wpLoose_val rfl rfl
                    case hs =>
                      intro w1 hC hd Q1 hQ1
                      obtain ⟨hE, hS⟩ := hC
                      dsimp only [bare]
                      obtain ⟨q1, q2, q3, q4, q5⟩ := hS
                      clear hd hE
                      try clear hS
                      go_wp2
                      exact Ext.refl _
                    case ha => rfl
                    apply wpLoose_val rfl rfl
                    case hs =>
                      intro w1 hC hd Q1 hQ1
                      obtain ⟨hE, hS⟩ := hC
                      dsimp only [bare]
                      obtain ⟨q1, q2, q3, q4, q5⟩ := hS
                      clear hd hE
                      try clear hS
                      go_wp2
                      exact Ext.refl _
                    case ha => rfl
                    apply wpLoose_val rfl rfl
                    case hs =>
                      intro w1 hC hd Q1 hQ1
                      obtain ⟨hE, hS⟩ := hC
                      dsimp only [bare]
                      obtain ⟨q1, q2, q3, q4, q5⟩ := hS
                      clear hd hE
                      try clear hS
                      go_wp2
                      exact Ext.refl _
                    case ha => rfl
                    apply wpLoose_val rfl rfl
                    case hs =>
                      intro w1 hC hd Q1 hQ1
                      obtain ⟨hE, hS⟩ := hC
                      dsimp only [bare]
                      obtain ⟨q1, q2, q3, q4, q5⟩ := hS
                      clear hd hE
                      try clear hS
                      go_wp2
                      exact Ext.refl _
                    case ha => rfl
                    apply wpLoose_val rfl rfl
                    case hs =>
                      intro w1 hC hd Q1 hQ1
                      obtain ⟨hE, hS⟩ := hC
                      dsimp only [bare]
                      obtain ⟨q1, q2, q3, q4, q5⟩ := hS
                      clear hd hE
                      try clear hS
                      go_wp2
                      exact Ext.refl _
                    case ha => rfl
                    apply wpLoose_val rfl rfl
                    case hs =>
                      intro w1 hC hd Q1 hQ1
                      obtain ⟨hE, hS⟩ := hC
                      dsimp only [bare]
                      obtain ⟨q1, q2, q3, q4, q5⟩ := hS
                      clear hd hE
                      try clear hS
                      go_wp2
                      exact Ext.refl _
                    case ha => rfl
                    apply wpLoose_val rfl rfl
                    case hs =>
                      intro w1 hC hd Q1 hQ1
                      obtain ⟨hE, hS⟩ := hC
                      dsimp only [bare]
                      obtain ⟨q1, q2, q3, q4, q5⟩ := hS
                      clear hd hE
                      try clear hS
                      go_wp2
                      exact Ext.refl _
                    case ha => rfl
                    apply wpLoose_val rfl rfl
                    case hs =>
                      intro w1 hC hd Q1 hQ1
                      obtain ⟨hE, hS⟩ := hC
                      dsimp only [bare]
                      obtain ⟨q1, q2, q3, q4, q5⟩ := hS
                      clear hd hE
                      try clear hS
                      go_wp2
                      exact Ext.refl _
                    case ha => rfl
                    apply wpLoose_val rfl rfl
                    case hs =>
                      intro w1 hC hd Q1 hQ1
                      obtain ⟨hE, hS⟩ := hC
                      dsimp only [bare]
                      obtain ⟨q1, q2, q3, q4, q5⟩ := hS
                      clear hd hE
                      try clear hS
                      go_wp2
                      exact Ext.refl _
                    case ha => rfl
                    apply wpLoose_val rfl rfl
                    case hs =>
                      intro w1 hC hd Q1 hQ1
                      obtain ⟨hE, hS⟩ := hC
                      dsimp only [bare]
                      obtain ⟨q1, q2, q3, q4, q5⟩ := hS
                      clear hd hE
                      try clear hS
                      go_wp2
                      exact Ext.refl _
                    case ha => rfl
                    apply wpLoose_val rfl rfl
                    case hs =>
                      intro w1 hC hd Q1 hQ1
                      obtain ⟨hE, hS⟩ := hC
                      dsimp only [bare]
                      obtain ⟨q1, q2, q3, q4, q5⟩ := hS
                      clear hd hE
                      try clear hS
                      go_wp2
                      exact Ext.refl _
                    case ha => rfl
                    apply wpLoose_val rfl rfl
                    case hs =>
                      intro w1 hC hd Q1 hQ1
                      obtain ⟨hE, hS⟩ := hC
                      dsimp only [bare]
                      obtain ⟨q1, q2, q3, q4, q5⟩ := hS
                      clear hd hE
                      try clear hS
                      go_wp2
                      exact Ext.refl _
                    case ha => rfl
                    apply wpLoose_val rfl rfl
                    case hs =>
                      intro w1 hC hd Q1 hQ1
                      obtain ⟨hE, hS⟩ := hC
                      dsimp only [bare]
                      obtain ⟨q1, q2, q3, q4, q5⟩ := hS
                      clear hd hE
                      try clear hS
                      go_wp2
                      exact Ext.refl _
                    case ha => rfl
                    refine wpLoose_nil ?_
                    intro wc hEc hSc hFc
                    have HX5 : Hid (goneP ls s o p m b ∧ RowF wc g k (fun i => (p i : Int)) ∧ RowF wc gy k (fun i => wayV ls (ls.getD i zeroL).yes) ∧ RowF wc gn k (fun i => wayV ls (ls.getD i zeroL).no) ∧ RowF wc gb k (fun i => (cnt o i : Int)) ∧ Ext w wc) :=
                      ⟨HX.out.1, RowF.ext (w := wr.drew) HX.out.2.1 hEc, RowF.ext (w := wr.drew) HX.out.2.2.1 hEc, RowF.ext (w := wr.drew) HX.out.2.2.2.1 hEc, RowF.ext (w := wr.drew) HX.out.2.2.2.2.1 hEc, HX.out.2.2.2.2.2.drew.trans hEc⟩
                    clear hFc hSc hEc x1 x2 x3 x4 x5 HX
                    go_wp2
                    go_roundw
                    case rel => exact ⟨b, m + 1, p, rfl, by go_num, by omega, gone_pass HX5.out.1 (by have := HA.out.2.1; omega) (fun _ => .inr fun hf => by have := HFAR.out.1 hf; omega), HX5.out.2⟩
                    case measure => simp [intOf]; omega
                    case hAc => kernel_rfl
                    case hlc => exact ⟨trivial, trivial, trivial, trivial, trivial, trivial, trivial, trivial, trivial, trivial, trivial, trivial, trivial, trivial, trivial, trivial, trivial, trivial, trivial, trivial, trivial, trivial, trivial, trivial, trivial, trivial, trivial, trivial, trivial, trivial, trivial⟩
          · have hmk' : m = k := by omega
            have bm : ¬ ((m : Int) < (k : Int)) := by omega
            subst hmk'
            cases b with
            | false =>
              have HE : Hid (∀ i, i < m → p i = s i) := by
                show ∀ i, i < m → p i = s i
                have hg := HX.out.1
                have := grow_end HA.out.2.2.1 HA.out.2.2.2.1 hg.1 (fun i hi ha => (hg.2.2.2.1 (by simp)).2 i (by have := HA.out.2.1; omega) ha)
                intro i hi
                rw [(hg.2.2.2.1 (by simp)).1 i (by have := HA.out.2.1; omega)]
                exact this i (by have := HA.out.2.1; omega)
              have HR5 : Hid (w.heap.size ≤ g ∧ RowF wr g m (fun i => (s i : Int)) ∧ Ext w wr) := ⟨HG.out.2.2.1, HX.out.2.1.as fun j hj => by rw [HE.out j hj], HX.out.2.2.2.2.2⟩
              clear HX HE
              go_wp2
              go_ret
              exact ⟨g, ⟨_, rfl⟩, HR5.out⟩
            | true =>
              have HX2 : Hid (growP ls s p ∧ r + 1 ≤ thr p m ∧ RowF wr g m (fun i => (p i : Int)) ∧ RowF wr gy m (fun i => wayV ls (ls.getD i zeroL).yes) ∧ RowF wr gn m (fun i => wayV ls (ls.getD i zeroL).no) ∧ Ext w wr) := by
                have hg := HX.out.1
                have h5 := hg.2.2.2.2.1 (by simp)
                rw [← HA.out.2.1] at h5
                exact ⟨hg.2.1, by have := HO.out.2; omega, HX.out.2.1, HX.out.2.2.1, HX.out.2.2.2.1, HX.out.2.2.2.2.2⟩
              clear HX
              go_wp2
              go_roundw
              case rel => exact ⟨r + 1, p, by go_num, by omega, HX2.out⟩
              case measure => simp [intOf]; omega

end Go.Proofs.Ytakcmiijnckaaaa
