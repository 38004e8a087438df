/- What spec.DrawShaBlock answers: eight numbers (or seven of them) in new memory, and a text of at most 64 bytes. -/
import Derived.Test.YtfbdbeaijkhbfaaDoorBlkD
namespace Go.Proofs.YtfbdbeaijkhbfaaDoor
open Go.RowKit
set_option linter.unusedVariables false

theorem zV_push (zs : List Int) (z : Int) : zV zs ++ [Value.int .i64 z] = zV (zs ++ [z]) := by simp [zV]

/-- What is drawn for one block. -/
def Drawn (w : World) (g : Nat) (v : Value) (zs : List Int) : Prop := (OwnI w g v zs ∧ zs.length = 8) ∨ Seven w g v zs

theorem OwnI.seven {w : World} {g c c' : Nat} {zs : List Int} (h : OwnI w g (.slice (some ⟨g, 0, none⟩) zs.length c) zs) (h8 : zs.length = 8) : Seven w g (.slice (some ⟨g, 1, none⟩) 7 c') (zs.drop 1) := by
  refine ⟨⟨c', rfl⟩, h.2.1, by simp [h8], fun j hj => ?_⟩
  rw [(h.2.2 (1 + j) (by omega)).1]
  congr 2
  simp [List.getD_eq_getElem?_getD, Nat.add_comm 1 j]

theorem OwnI.set {w : World} {g j : Nat} {v : Value} {zs : List Int} (h : OwnI w g v zs) (z : Int) : OwnI (w.setCell ⟨g, j, none⟩ (.int .i64 z)) g v (zs.set j z) := by
  refine ⟨by rw [List.length_set]; exact h.1, by rw [World.size_setCell]; exact h.2.1, fun i hi => ?_⟩
  rw [List.length_set] at hi
  obtain ⟨h1, h2⟩ := h.2.2 i hi
  refine ⟨?_, by rw [World.frozen?_setCell]; exact h2⟩
  by_cases hji : i = j
  · subst hji
    rw [World.cell?_setCell_same _ _ _ h1]
    simp [List.getD_eq_getElem?_getD, List.getElem?_set_self hi]
  · rw [World.cell?_setCell_other _ _ _ _ (fun e => hji (by simpa using (congrArg Addr.off e).symm)), h1]
    simp [List.getD_eq_getElem?_getD, List.getElem?_set_ne (Ne.symm hji)]

theorem OwnI.grown {w w' : World} {g p : Nat} {v : Value} {zs : List Int} (h : OwnI w g v zs) (hg : w.grownBy w' (some p)) (hne : g ≠ p) : OwnI w' g v zs :=
  h.block (hg.block g h.2.1 (fun e => hne (Option.some.inj e))) hg.size

set_option maxRecDepth 100000 in
set_option maxHeartbeats 2000000 in
theorem drawBlk_any (a : Option Addr) (len cap : Nat) (w : World) (hC : Came w a len) :
    Calls Tryd.prog 10 #[.slice a len cap] w fun e w' => ∃ (g : Nat) (v : Value) (zs : List Int) (t : ByteArray), e = .returned (.tuple #[v, .string t]) ∧ t.size ≤ 64 ∧ Drawn w' g v zs ∧ zs.length ≤ 8 ∧ Below w.heap.size w w' := by
  obtain ⟨i0, hi, hz0, hz1, hz2⟩ := info_parts Tryd.infoI
  go_enter Tryd.func10, Tryd.ntmps10
  go_wp2_with fail
  refine (new_any a len cap _ hC).mono ?_
  rintro e w1 ⟨rfl, hc1, hb1⟩
  clear hC
  go_wp2_with fail
  refine (below_any 10 _ a len cap _ hc1 (by omega)).mono ?_
  rintro e w1b ⟨d, hd, _, _, rfl, hc1b, hg1⟩
  have hd10 := hd (by omega)
  have hb1b := below_new hb1 hg1
  clear hd hb1 hg1 hc1
  go_wp2_with fail
  refine (text_any 64 _ a len cap _ hc1b (by omega)).mono ?_
  rintro e w2 ⟨bl, hbl, rfl, hc2, hg2⟩
  have hb2 := below_new hb1b hg2
  obtain ⟨T, hT⟩ : ∃ T : ByteArray, T = ⟨bl.toArray⟩ := ⟨_, rfl⟩
  rw [← hT]
  have hTs : T.size = 64 := by rw [hT]; show bl.toArray.size = 64; rw [List.size_toArray]; exact hbl
  have HB2 : Hid (Below w.heap.size w w2) := hb2
  have hs2 := hb2.size
  have hpl := hc2.lt
  have HCO : Hid (∀ b off, a = some ⟨b, off, none⟩ → 0 < len → b < w2.heap.size) := hc2.code
  have HC2 : Hid (Cur w2 w.heap.size a len cap) := hc2
  clear hb2 hc2 hb1b hg2 hc1b hT hbl
  go_wp2
  go_loopw [7, 8] (fun v i wr => ∃ (k : Nat) (l : List Int), i = .int .i64 k ∧ k ≤ 8 ∧ Hid (l.length = k) ∧ l.length ≤ 8 ∧ ¬ v = .slice none 0 0 ∧ wr.ownsRow w2.heap.size 3 1 v l.length (zV l) ∧ Cur wr w.heap.size a len cap ∧ w2.grownBy wr (some w.heap.size)) (fun _ i _ => 8 - (intOf i).toNat)
  case atStart =>
    refine ⟨0, [], rfl, by omega, rfl, by simp, (fun h => by cases h), World.ownsRow_lit (e := 3) (size := 1) w2 #[] 0 (Nat.le_refl _) (by decide) rfl, HC2.out.grown (World.grownBy_alloc w2 _ none) hpl HCO.out (by simp), ?_⟩
    exact World.grownBy_alloc w2 _ _
  case round =>
    obtain ⟨k, l, rfl, hk, hlk, hln, hnil, hown, hcur, hg⟩ := hrel
    have hgs := hg.size
    by_cases hlt : k < 8
    · have hcl := hcur.lt
      have hco := hcur.code
      have HK : Hid (Cur wr w.heap.size a len cap ∧ ∀ b off, a = some ⟨b, off, none⟩ → 0 < len → b < wr.heap.size) := ⟨hcur, hco⟩
      clear hcur hco
      go_wp2_with fail
      refine (pick_at 5 _ wr.heap.size w.heap.size a len cap _ [0, 1, 4294967295, 2147483648, 12345678] (HK.out.1.grown (World.grownBy_alloc wr _ none) hcl HK.out.2 (by simp)) (heap_alloc_new wr _) (by omega) (by omega) (by omega) ?_).mono ?_
      · intro j hj
        have : j = 0 ∨ j = 1 ∨ j = 2 ∨ j = 3 ∨ j = 4 := by omega
        rcases this with rfl | rfl | rfl | rfl | rfl
        all_goals exact ⟨_, by decide, rfl⟩
      rintro e w3 ⟨z, hz, rfl, hc3, hg3⟩
      have hzb : 0 ≤ z ∧ z ≤ 4294967295 := by simp at hz; omega
      obtain ⟨x, rfl⟩ : ∃ x : Nat, z = (x : Int) := ⟨z.toNat, by omega⟩
      have hown1 := (hown.alloc (.cells #[.int .i64 0, .int .i64 1, .int .i64 4294967295, .int .i64 2147483648, .int .i64 12345678] 3)).kept hg3 (by
        right
        intro e2
        have := hown.lt w.heap.size e2
        omega)
      have hg4 : w2.grownBy w3 (some w.heap.size) := grown_trans (grown_trans hg (World.grownBy_alloc wr _ _)) hg3
      have hgs3 := hg4.size
      clear hg3 hown hg hz hnil
      go_wp2_with (at_builtin; refine wpList_append_own _ rfl _ _ 26 rfl w2.heap.size 3 i0 (.int .i64 0) 1 8 Tryd.underlying26 hi hz0 hz1 hz2 rfl (by decide) _ _ _ rfl (hown1.alloc _) ⟨w3.heap.size, 0, none⟩ 1 1 [.int .i64 (x : Int)] rfl rfl ?c1 ?c2 ?c3 ?c4 ?c5 ?_)
      case c1 => exact cell_one_new _ _ _
      case c2 => intro u hu; simp at hu; subst hu; rfl
      case c3 => unfold maxLen; omega
      case c4 => omega
      case c5 => simp; omega
      · intro v' w4 hown' hgrow hnil'
        rw [zV_push l (x : Int)] at hown'
        have hn' : ¬ v' = .slice none 0 0 := hnil'
        have hlo := fun y hy => (hown1.lt y hy).1
        have hc4 : Cur w4 w.heap.size a len cap := (hc3.grown (World.grownBy_alloc w3 _ none) (B := w2.heap.size) hpl HCO.out (by simp)).grown hgrow hpl HCO.out hlo
        have hg5 : w2.grownBy w4 (some w.heap.size) := grown_own (grown_trans hg4 (World.grownBy_alloc w3 _ _)) hgrow hlo
        clear hgrow hown1 hc3 hg4 hlo hnil'
        go_wp2
        go_roundw
        case rel => first | exact ⟨k + 1, l ++ [(x : Int)], by go_num, by omega, by have := hlk.out; unfold Hid; simp; omega, by have := hlk.out; simp; omega, hn', by simpa using hown', hc4, hg5⟩ | ((repeat apply Exists.intro); exact ⟨⟨k + 1, l ++ [(x : Int)], by go_num, by omega, by have := hlk.out; unfold Hid; simp; omega, by have := hlk.out; simp; omega, hn', by simpa using hown', hc4, hg5⟩, rfl⟩)
        case measure => simp [intOf]; omega
    · have hl8 : l.length = 8 := by have := hlk.out; omega
      have hb := below_new HB2.out hg
      obtain ⟨q, hq, ho⟩ := OwnI.ofOwns (zs := l) hown hnil
      obtain ⟨c, hv⟩ := ho.1
      have hqw : q ≠ w.heap.size := by omega
      have HO : Hid (OwnI wr q (.slice (some ⟨q, 0, none⟩) l.length c) l ∧ l.length = 8 ∧ Below w.heap.size w wr ∧ Cur wr w.heap.size a len cap ∧ w.heap.size < q) := ⟨by rw [← hv]; exact ho, hl8, hb, hcur, by omega⟩
      rw [hl8] at hv
      have hc8 : 8 ≤ c := by
        rcases hown.2 with ⟨h0, _⟩ | ⟨g, cap', cur, h1, _, _, h2, _⟩
        · exact absurd h0 hnil
        · have h3 := hv.symm.trans h1
          simp at h3
          omega
      obtain ⟨c', rfl⟩ : ∃ c', c = c' + 8 := ⟨c - 8, by omega⟩
      have hq1 := ho.2.1
      have hcl := hcur.lt
      have HCW : Hid (∀ b off, a = some ⟨b, off, none⟩ → 0 < len → b < wr.heap.size) := hcur.code
      clear hown hnil ho hb hcur hg hlk hln hk hgs hc8
      subst hv
      by_cases e0 : d = 0
      · subst e0
        go_wp2
        go_ret2
        exact ⟨q, _, l.drop 1, _, rfl, by omega, .inr (HO.out.1.seven HO.out.2.1), by have := HO.out.2.1; simp; omega, HO.out.2.2.1⟩
      · have q0 : ((d : Int) == 0) = false := by simp; omega
        by_cases e1 : d = 1
        · have q1 : ((d : Int) == 1) = true := by simp; omega
          have hT1 : (1 : Int) ≤ (T.size : Int) := by omega
          clear e0 e1
          go_wp2
          go_ret2
          exact ⟨q, _, l, _, rfl, by rw [ByteArray.size_extract]; omega, .inl ⟨by have := HO.out.1; rw [HO.out.2.1] at this; exact this, HO.out.2.1⟩, by have := HO.out.2.1; omega, HO.out.2.2.1⟩
        · have q1 : ((d : Int) == 1) = false := by simp; omega
          by_cases e2 : d = 2
          · have q2 : ((d : Int) == 2) = true := by simp; omega
            clear e0 e1 e2
            go_wp2_with fail
            refine (pick_at 3 _ wr.heap.size w.heap.size a len cap _ [-1, 4294967296, 9223372036854775807] (HO.out.2.2.2.1.grown (World.grownBy_alloc wr _ none) hcl HCW.out (by simp)) (heap_alloc_new wr _) (by omega) (by omega) (by omega) ?_).mono ?_
            · intro j hj
              have : j = 0 ∨ j = 1 ∨ j = 2 := by omega
              rcases this with rfl | rfl | rfl
              all_goals exact ⟨_, by decide, rfl⟩
            rintro e w3 ⟨z, hz, rfl, hc3, hg3⟩
            have o3 : OwnI w3 q (.slice (some ⟨q, 0, none⟩) l.length (c' + 8)) l := (HO.out.1.alloc _).grown hg3 hqw
            have b3 : Below w.heap.size w w3 := (HO.out.2.2.1.alloc HO.out.2.2.1.size _).grown hg3 (by have := HO.out.2.2.1.size; simp only [sz_alloc]; omega) (fun k hk => by have := Option.some.inj hk; omega)
            obtain ⟨cc, cf⟩ := o3.2.2 3 (by have := HO.out.2.1; omega)
            obtain ⟨y, hy⟩ : ∃ y, y = l.getD 3 0 := ⟨_, rfl⟩
            rw [← hy] at cc
            have HF : Hid (OwnI w3 q (.slice (some ⟨q, 0, none⟩) l.length (c' + 8)) l ∧ Below w.heap.size w w3) := ⟨o3, b3⟩
            clear hc3 hg3 o3 b3 hy hz
            go_wp2
            go_ret2
            refine ⟨q, _, l.set 3 z, _, rfl, by omega, .inl ⟨?_, by rw [List.length_set]; exact HO.out.2.1⟩, by have := HO.out.2.1; rw [List.length_set]; omega, HF.out.2.setCell (by have := HO.out.2.2.2.2; show w.heap.size ≤ q; omega) _⟩
            have := HF.out.1.set (j := 3) z
            rw [HO.out.2.1] at this
            exact this
          · have q2 : ((d : Int) == 2) = false := by simp; omega
            by_cases e3 : d = 3
            · have q3 : ((d : Int) == 3) = true := by simp; omega
              clear e0 e1 e2 e3
              go_wp2_with fail
              refine (sStart_any _).mono ?_
              rintro e w3 ⟨g', v', rfl, hg', o3, b3⟩
              have c3 := HO.out.2.2.1.trans (b3.mono HO.out.2.2.1.size)
              have HF : Hid (OwnI w3 g' v' (toZ begin8.list)) := o3
              clear o3 b3 hg'
              go_wp2
              go_ret2
              exact ⟨g', _, _, _, rfl, by omega, .inl ⟨HF.out, rfl⟩, by decide, c3⟩
            · have q3 : ((d : Int) == 3) = false := by simp; omega
              clear e0 e1 e2 e3
              go_wp2
              go_ret2
              exact ⟨q, _, l, _, rfl, by omega, .inl ⟨by have := HO.out.1; rw [HO.out.2.1] at this; exact this, HO.out.2.1⟩, by have := HO.out.2.1; omega, HO.out.2.2.1⟩

end Go.Proofs.YtfbdbeaijkhbfaaDoor
