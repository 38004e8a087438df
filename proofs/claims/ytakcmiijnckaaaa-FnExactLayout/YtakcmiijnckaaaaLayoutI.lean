/- What impl's Layout answers: the words that lines become. -/
import Derived.Test.YtakcmiijnckaaaaWordsOfI
import Derived.Test.YtakcmiijnckaaaaOwnWords
import Derived.Laws.AppendOwnNone
namespace Go.Proofs.Ytakcmiijnckaaaa
open Go.RowKit
set_option linter.unusedVariables false

set_option maxRecDepth 100000 in
set_option maxHeartbeats 4000000 in
theorem iLayout_no (a : Option Addr) (cap : Nat) (ls : List Ln) (w : World) (hl : ls.length ≤ 1048576) (ht : TextsP ls) (h : Lns w a ls) (hn : ¬ linesP ls) :
    Calls Try.prog 11 #[.slice a ls.length cap] w fun e w' => e = .returned (.tuple #[.slice none 0 0, .bool false]) ∧ Ext w w' := by
  have HL : Hid (Calls Try.prog 16 #[.slice a ls.length cap] w fun e w' => e = .returned (.bool false) ∧ Ext w w') := iLines_any a cap ls false w hl ht h (by simp [hn])
  generalize ls.length = n at *
  clear h hn hl ht
  go_enter Try.func11, Try.ntmps11
  go_wp2_with fail
  refine HL.out.mono ?_
  rintro e w2 ⟨rfl, e2⟩
  go_wp2
  go_ret2
  exact ⟨rfl, e2⟩

theorem flat_cells {W : World} {g : Nat} {ws : List Wd} (h : Words W (some ⟨g, 0, none⟩) ws) : ∀ j u, (flatI ws)[j]? = some u → W.cell? ⟨g, j, none⟩ = some u := fun j u hu => by
  have hj : j < ws.length * 4 := by
    have := (List.getElem?_eq_some_iff.1 hu).1
    rw [flatI_length] at this
    exact this
  obtain ⟨b, off, hb, hq⟩ := h (by omega)
  injection hb with hb
  injection hb with h1 h2
  subst h1
  subst h2
  obtain ⟨q0, q1, q2, q3⟩ := hq (j / 4) (by omega)
  obtain ⟨e0, e1, e2, e3⟩ := flatI_at ws (j / 4) (by omega)
  simp only [Nat.zero_add] at q0 q1 q2 q3
  have hr : j = j / 4 * 4 ∨ j = j / 4 * 4 + 1 ∨ j = j / 4 * 4 + 2 ∨ j = j / 4 * 4 + 3 := by omega
  rcases hr with e | e | e | e
  · rw [e] at hu ⊢
    rw [e0] at hu
    rw [← hu]; exact q0
  · rw [e] at hu ⊢
    rw [e1] at hu
    rw [← hu]; exact q1
  · rw [e] at hu ⊢
    rw [e2] at hu
    rw [← hu]; exact q2
  · rw [e] at hu ⊢
    rw [e3] at hu
    rw [← hu]; exact q3

/-- There are 1 to 400 words. -/
def fewP (ls : List Ln) (s : Nat → Nat) : Bool := inB (cnt s ls.length) 1 400

set_option maxRecDepth 100000 in
set_option maxHeartbeats 8000000 in
theorem iLayout_yes (a : Option Addr) (cap : Nat) (ls : List Ln) (s : Nat → Nat) (w : World) (hl : linesP ls) (hs : sizesP ls s) (ht : TextsP ls) (h : Lns w a ls) :
    Calls Try.prog 11 #[.slice a ls.length cap] w fun e w' => ∃ v, e = .returned (.tuple #[v, .bool (fewP ls s)]) ∧ Own4 w' w.heap.size v (if fewP ls s = true then layL ls s ls.length else []) ∧ Ext w w' := by
  obtain ⟨i0, hi, hz0, hz1, hz2⟩ := info_parts Try.infoN
  obtain ⟨n, hn⟩ : ∃ n, n = ls.length := ⟨_, rfl⟩
  have hn6 : n ≤ 600 := by have := hl.1; omega
  have hn1 : 1 ≤ n := by have := hl.1; omega
  have HA : Hid (Lns w a ls ∧ n = ls.length ∧ linesP ls ∧ sizesP ls s ∧ TextsP ls) := ⟨h, hn, hl, hs, ht⟩
  have HL : Hid (Calls Try.prog 16 #[.slice a n cap] w fun e w' => e = .returned (.bool true) ∧ Ext w w') := by rw [hn]; exact iLines_any a cap ls true w (by omega) ht h (by simp [hl])
  have HPL : Hid (∀ w1, Ext w w1 → Calls Try.prog 38 #[.slice a n cap] w1 fun e w' => ∃ B g, e = .returned (.agg #[.map (some B), .slice (some ⟨g, 0, none⟩) (n + 1) (n + 1)]) ∧ PlanP w' ls s B g 0 ∧ Ext w1 w') := fun w1 hE => by rw [hn]; exact planOf_any a cap ls s w1 hl hs ht (h.ext hE)
  obtain ⟨z, hz⟩ : ∃ z, z = fewP ls s := ⟨_, rfl⟩
  have hcn : cnt s n ≤ 1800 := by have := cnt_le hs (n := n) (by omega); omega
  have HZ : Hid (z = inB (cnt s n) 1 400) := by show _ = _; rw [hz]; unfold fewP; rw [hn]
  have hlay : ∃ lay : List Wd, lay = if z = true then layL ls s ls.length else [] := ⟨_, rfl⟩
  obtain ⟨lay, hlay⟩ := hlay
  rw [← hz, ← hlay, ← hn]
  have HLY : Hid (lay = if z = true then layL ls s n else []) := by rw [hn]; exact hlay
  clear h hn hl hs ht hz hlay
  go_enter Try.func11, Try.ntmps11
  go_wp2_with fail
  refine HL.out.mono ?_
  rintro e w2 ⟨rfl, e2⟩
  have X2 : Hid (Ext w w2) := e2
  clear e2 HL
  go_wp2_with fail
  refine (HPL.out _ X2.out).mono ?_
  rintro e w3 ⟨B, g, rfl, hp3, e3⟩
  obtain ⟨W4, hW4⟩ : ∃ W, W = w3.alloc (.cells #[.map (some B), .slice (some ⟨g, 0, none⟩) (n + 1) (n + 1)] 61) := ⟨_, rfl⟩
  have HX : Hid (PlanP W4 ls s B g 0 ∧ Two W4 w3.heap.size (.map (some B)) (.slice (some ⟨g, 0, none⟩) (n + 1) (n + 1)) ∧ Ext w W4) := by
    rw [hW4]
    exact ⟨hp3.ext (Ext.one _ _), ⟨by simp, by simp [go_sem], by simp [go_sem], by simp [go_sem], by simp [go_sem]⟩, (X2.out.trans e3).alloc _⟩
  have x0 : W4.cell? ⟨g, 0, none⟩ = some (.int .i64 (cnt s n : Int)) := by
    obtain ⟨_, f, r1, r2⟩ := HX.out.1
    have := (r1.2 0 (by omega)).1
    rw [r2 0 (Nat.le_refl _) (by omega)] at this
    have h0 : cnt s 0 = 0 := rfl
    rw [h0, ← HA.out.2.1] at this
    simpa using this
  obtain ⟨_, t6, t7, _, _⟩ := HX.out.2.1
  have HS4 : Hid (W4.heap.size = w3.heap.size + 1) := by show _ = _; rw [hW4]; simp
  have hW4' := hW4
  rw [hW4] at x0 t6 t7
  generalize cnt s n = cn at *
  have HFT : Hid (∀ w1, Calls Try.prog 39 #[.int .i64 (cn : Int)] w1 fun e w' => e = .returned (.bool z) ∧ w1 = w') := fun w1 => by rw [HZ.out]; exact fits_any _ w1
  have hp3' := hp3
  clear hp3 e3 HPL X2 hW4'
  cases z with
  | false =>
    have HR : Hid (lay = []) := HLY.out
    go_wp2_with fail
    refine (HFT.out _).mono ?_
    rintro e w5 ⟨rfl, rfl⟩
    rw [← hW4]
    have X4 : Hid (Ext w W4) := HX.out.2.2
    clear x0 t6 t7 HX hW4 hp3'
    go_wp2
    go_ret2
    refine ⟨_, rfl, ?_, X4.out⟩
    rw [HR.out]
    exact Own4.nil _ _
  | true =>
    have HR : Hid (lay = layL ls s n) := HLY.out
    go_wp2_with fail
    refine (HFT.out _).mono ?_
    rintro e w5 ⟨rfl, rfl⟩
    go_wp2_with (at_make; rw [← hW4]; refine wpList_make_own _ rfl _ _ 30 rfl W4.heap.size 35 i0 (.agg #[.int .i64 0, .int .i64 0, .int .i64 0, .int .i64 0]) 4 Try.underlying30 hi hz0 hz1 _ _ _ cn rfl rfl (by omega) (by rw [hz2]; omega) (by unfold maxLen; omega) (Nat.le_refl _) ?_; intro w6 hown6 hgrow6)
    have x6 : Ext W4 w6 := (Ext.refl W4).grown hgrow6 (Nat.le_refl _) (fun k hk => by cases hk)
    generalize hbp : w3.heap.size = bp at *
    have HX6 : Hid (PlanP w6 ls s B g 0 ∧ Two w6 bp (.map (some B)) (.slice (some ⟨g, 0, none⟩) (n + 1) (n + 1)) ∧ Ext w w6 ∧ Own4 w6 w.heap.size (.slice (some ⟨bp + 1, 0, none⟩) 0 cn) (layL ls s 0)) := ⟨HX.out.1.ext x6, HX.out.2.1.ext x6, HX.out.2.2.trans x6, by have h := own_lower hown6 HX.out.2.2.size; rw [HS4.out] at h; exact h⟩
    have HLT : Hid (B < bp ∧ g < bp) := by
      obtain ⟨hm, f, hr, _⟩ := hp3'
      rw [← hbp]
      exact ⟨hm.lt, hr.1⟩
    have HWO : Hid (∀ (i : Nat) (lab yes no : ByteArray) (o kk y nn : Int) (w1 : World), PlanP w1 ls s B g 0 → i < n → Ln.mk lab (o, kk, y, nn) yes no = ls.getD i zeroL → Calls Try.prog 40 #[.agg #[.map (some B), .slice (some ⟨g, 0, none⟩) (n + 1) (n + 1)], .int .i64 (i : Int), .agg #[.string lab, .int .i64 o, .int .i64 kk, .int .i64 y, .int .i64 nn, .string yes, .string no]] w1 fun e w' => ∃ u, e = .returned u ∧ WordsV w' u (wordsL ls s i) ∧ Ext w1 w') := fun i lab yes no o kk y nn w1 h1 h2 h3 => by
      have ht := HA.out.2.2.2.2 i (by have := HA.out.2.1; omega)
      rw [← h3] at ht
      have := wordsOf_any ls s B g (n + 1) i lab yes no o kk y nn w1 HA.out.2.2.1 HA.out.2.2.2.1 h1 (by have := HA.out.2.1; omega) h3 ht.2
      rw [← HA.out.2.1] at this
      exact this
    have HLL : Hid (∀ k, k ≤ n → (layL ls s k).length ≤ 1800) := fun k hk => by
      have h0 := HA.out.2.1
      rw [layL_length HA.out.2.2.2.1 (by omega)]
      have := cnt_le HA.out.2.2.2.1 (n := k) (by omega)
      omega
    clear x0 t6 t7 HX x6 hown6 hgrow6 hbp HS4 HZ HFT hp3'
    go_loopw [5, 26] (fun ov iv wr => ∃ k : Nat, iv = .int .i64 k ∧ k ≤ n ∧ Hid (PlanP wr ls s B g 0 ∧ Two wr bp (.map (some B)) (.slice (some ⟨g, 0, none⟩) (n + 1) (n + 1)) ∧ Ext w wr ∧ Own4 wr w.heap.size ov (layL ls s k) ∧ ∀ x, ov.ownBlock = some x → bp < x)) (fun _ iv _ => n - (intOf iv).toNat)
    case atStart => exact ⟨0, rfl, by omega, HX6.out.1, HX6.out.2.1, HX6.out.2.2.1, HX6.out.2.2.2, fun x hx => by have : bp + 1 = x := Option.some.inj hx; omega⟩
    case round =>
      obtain ⟨k, rfl, hk, HX⟩ := hrel
      clear HX6
      by_cases hlt : k < n
      · have bk : (k : Int) < (n : Int) := by omega
        obtain ⟨⟨lab, ⟨o, kk, y, nn⟩, yes, no⟩, hp⟩ : ∃ p, p = ls.getD k zeroL := ⟨_, rfl⟩
        obtain ⟨b, off, rfl, hq⟩ := (HA.out.1.ext HX.out.2.2.1).hept (k := k) (by have := HA.out.2.1; omega) hp
        obtain ⟨c0, c1, c2, c3, c4, c5, c6⟩ := hq
        simp only at c0 c1 c2 c3 c4 c5 c6
        have HP : Hid (Ln.mk lab (o, kk, y, nn) yes no = ls.getD k zeroL) := hp
        obtain ⟨_, y6, y7, _, _⟩ := HX.out.2.1.ext (Ext.one wr (.cells #[.string lab, .int .i64 o, .int .i64 kk, .int .i64 y, .int .i64 nn, .string yes, .string no] 37))
        have hlay : (layL ls s k).length ≤ 1800 := HLL.out k hk
        clear hp
        go_wp2_with fail
        refine (HWO.out k lab yes no o kk y nn _ (HX.out.1.ext (Ext.one _ _)) hlt HP.out).mono ?_
        rintro e w7 ⟨u, rfl, hu, e7⟩
        have HX7 : Hid (PlanP w7 ls s B g 0 ∧ Two w7 bp (.map (some B)) (.slice (some ⟨g, 0, none⟩) (n + 1) (n + 1)) ∧ Ext w w7) := ⟨(HX.out.1.ext (Ext.one _ _)).ext e7, (HX.out.2.1.ext (Ext.one _ _)).ext e7, (HX.out.2.2.1.alloc _).trans e7⟩
        have hown : w7.ownsRow w.heap.size 35 4 u5 (layL ls s k).length (flatI (layL ls s k)) := (HX.out.2.2.2.1.alloc _).ext e7
        have HOB : Hid (∀ x, u5.ownBlock = some x → bp < x) := HX.out.2.2.2.2
        have hz4 : w.heap.size ≤ w7.heap.size := HX7.out.2.2.size
        have HN : Hid (layL ls s (k + 1) = layL ls s k ++ wordsL ls s k) := rfl
        have hw18 : (wordsL ls s k).length ≤ 3 := by
          have h0 := HA.out.2.1
          rw [wordsL_length HA.out.2.2.2.1 (by omega)]
          exact size_le HA.out.2.2.2.1 (by omega)
        clear c0 c1 c2 c3 c4 c5 c6 y6 y7 e7 HX HWO
        generalize wordsL ls s k = ws at *
        generalize layL ls s k = l at *
        rcases hu with ⟨rfl, rfl⟩ | ⟨gw, cw, rfl, hne, hwr⟩
        · go_wp2_with (at_builtin; refine wpList_append_own_none rfl _ _ 30 rfl w.heap.size 35 i0 4 Try.underlying30 hi _ l.length _ rfl hown rfl ?_)
          go_roundw
          case rel => exact ⟨k + 1, by go_num, by omega, HX7.out.1, HX7.out.2.1, HX7.out.2.2, by rw [HN.out, List.append_nil]; exact hown, HOB.out⟩
          case measure => simp [intOf]; omega
        · have hwl : 0 < ws.length := List.length_pos_iff.2 hne
          have HNW := flat_cells hwr
          generalize hlw : ws.length = lw at *
          have hfl : (flatI ws).length = lw * 4 := by rw [flatI_length, hlw]
          have h1c : ∀ u ∈ flatI ws, u.oneCell' = true := fun u hu => by
            unfold flatI at hu
            obtain ⟨p, _, hp⟩ := List.mem_flatMap.1 hu
            simp [ints4] at hp
            rcases hp with rfl | rfl | rfl | rfl <;> rfl
          have hl0 : (layL ls s (k + 1)).length = (layL ls s (k + 1)).length := rfl
          go_wp2_with (at_builtin; refine wpList_append_lies _ rfl _ _ 30 rfl w.heap.size 35 i0 (.agg #[.int .i64 0, .int .i64 0, .int .i64 0, .int .i64 0]) 4 32 Try.underlying30 hi hz0 hz1 hz2 rfl (by decide) _ l.length _ rfl hown ⟨gw, 0, none⟩ lw cw (flatI ws) rfl hfl ?c1 h1c hwl ?c3 ?c4 hz4 _ rfl ?_)
          case c1 =>
            intro j u hu
            rw [Addr.add_lit, Nat.zero_add]
            exact HNW j u hu
          case c3 => unfold maxLen; omega
          case c4 => omega
          · intro v' d8 w8 hown8 hgrow8 lie8 lt8
            have HX8 : Hid (PlanP w8 ls s B g 0 ∧ Two w8 bp (.map (some B)) (.slice (some ⟨g, 0, none⟩) (n + 1) (n + 1)) ∧ Ext w w8 ∧ Own4 w8 w.heap.size (.slice (some ⟨v', 0, none⟩) (l.length + lw) d8) (l ++ ws) ∧ ∀ x, (Value.slice (some ⟨v', 0, none⟩) (l.length + lw) d8).ownBlock = some x → bp < x) := by
              obtain ⟨hp7, ht7, hx7⟩ := HX7.out
              have hb7 : Below (bp + 1) w7 w8 := ⟨hgrow8.os, hgrow8.tape, hgrow8.output, hgrow8.size, fun i hi => hgrow8.block i (Nat.lt_of_lt_of_le hi (Nat.succ_le_of_lt ht7.1)) (fun e => by have := HOB.out i e.symm; omega)⟩
              obtain ⟨⟨hm, f, hr, hf⟩, ht, _⟩ := HX7.out
              have hlt := HLT.out
              refine ⟨⟨hm.below hb7 (by omega), f, hr.below hb7 (by omega), hf⟩, ?_, ext_row hx7 hgrow8 (fun x hx => own_from hown hx), ?_, ?_⟩
              · exact ⟨Nat.lt_of_lt_of_le ht.1 hgrow8.size, (hb7.cell (p := ⟨bp, 0, none⟩) (Nat.lt_succ_self _)).trans ht.2.1, (hb7.cell (p := ⟨bp, 1, none⟩) (Nat.lt_succ_self _)).trans ht.2.2.1, (hb7.frozen (p := ⟨bp, 0, none⟩) (Nat.lt_succ_self _)).trans ht.2.2.2.1, (hb7.frozen (p := ⟨bp, 1, none⟩) (Nat.lt_succ_self _)).trans ht.2.2.2.2⟩
              · have e : flatI l ++ flatI ws = flatI (l ++ ws) := by simp [flatI]
                rw [e] at hown8
                unfold Own4
                rw [List.length_append, hlw]
                exact hown8
              · intro x hx
                have hxe : v' = x := Option.some.inj hx
                rcases lie8 with h | h
                · exact HOB.out x (by rw [h, hxe])
                · have := ht7.1
                  omega
            clear hgrow8 hown8 hown hwr HNW h1c lie8 lt8
            go_wp2
            go_roundw
            case rel => exact ⟨k + 1, by go_num, by omega, HX8.out.1, HX8.out.2.1, HX8.out.2.2.1, by rw [HN.out]; exact HX8.out.2.2.2.1, HX8.out.2.2.2.2⟩
            case measure => simp [intOf]; omega
      · have hkn : k = n := by omega
        have bk : ¬ ((k : Int) < (n : Int)) := by omega
        have HE : Hid (Own4 wr w.heap.size u5 lay ∧ Ext w wr) := ⟨by rw [HR.out, ← hkn]; exact HX.out.2.2.2.1, HX.out.2.2.1⟩
        clear HX hkn
        go_wp2
        go_ret2
        exact ⟨_, rfl, HE.out⟩

end Go.Proofs.Ytakcmiijnckaaaa
