/- Both Layouts in one; what the laws' helpers over words answer of what they give. -/
import Derived.Test.YtakcmiijnckaaaaLtPack19
import Derived.Test.YtakcmiijnckaaaaLtPack16
import Derived.Laws.AppendOwnNone
import Derived.Deep.Cut
/- What impl's Layout answers: the words that lines become. -/
namespace Go.Proofs.Ytakcmiijnckaaaa
open Go.RowKit
set_option linter.unusedVariables false

set_option maxRecDepth 100000 in
set_option maxHeartbeats 4000000 in
theorem iLayout_no (a : Option Addr) (cap : Nat) (ls : List Ln) (w : World) (hl : ls.length ≤ 1048576) (ht : TextsP ls) (h : Lns w a ls) (hn : ¬ linesP ls) :
    Calls Try.prog 11 #[.slice a ls.length cap] w fun e w' => e = .returned (.tuple #[.slice none 0 0, .bool false]) ∧ Ext w w' := by
  have HL : Hid (Calls Try.prog 16 #[.slice a ls.length cap] w fun e w' => e = .returned (.bool false) ∧ Ext w w') := iLines_any a cap ls false w hl ht h (by simp [hn])
  generalize ls.length = n at *
  clear h hn hl ht
  go_enter Try.func11, Try.ntmps11
  go_wp2_with fail
  refine HL.out.mono ?_
  rintro e w2 ⟨rfl, e2⟩
  go_wp2
  go_ret2
  exact ⟨rfl, e2⟩

theorem flat_cells {W : World} {g : Nat} {ws : List Wd} (h : Words W (some ⟨g, 0, none⟩) ws) : ∀ j u, (flatI ws)[j]? = some u → W.cell? ⟨g, j, none⟩ = some u := fun j u hu => by
  have hj : j < ws.length * 4 := by
    have := (List.getElem?_eq_some_iff.1 hu).1
    rw [flatI_length] at this
    exact this
  obtain ⟨b, off, hb, hq⟩ := h (by omega)
  injection hb with hb
  injection hb with h1 h2
  subst h1
  subst h2
  obtain ⟨q0, q1, q2, q3⟩ := hq (j / 4) (by omega)
  obtain ⟨e0, e1, e2, e3⟩ := flatI_at ws (j / 4) (by omega)
  simp only [Nat.zero_add] at q0 q1 q2 q3
  have hr : j = j / 4 * 4 ∨ j = j / 4 * 4 + 1 ∨ j = j / 4 * 4 + 2 ∨ j = j / 4 * 4 + 3 := by omega
  rcases hr with e | e | e | e
  · rw [e] at hu ⊢
    rw [e0] at hu
    rw [← hu]; exact q0
  · rw [e] at hu ⊢
    rw [e1] at hu
    rw [← hu]; exact q1
  · rw [e] at hu ⊢
    rw [e2] at hu
    rw [← hu]; exact q2
  · rw [e] at hu ⊢
    rw [e3] at hu
    rw [← hu]; exact q3

/-- There are 1 to 400 words. -/
def fewP (ls : List Ln) (s : Nat → Nat) : Bool := inB (cnt s ls.length) 1 400

set_option maxRecDepth 100000 in
set_option maxHeartbeats 8000000 in
theorem iLayout_yes (a : Option Addr) (cap : Nat) (ls : List Ln) (s : Nat → Nat) (w : World) (hl : linesP ls) (hs : sizesP ls s) (ht : TextsP ls) (h : Lns w a ls) :
    Calls Try.prog 11 #[.slice a ls.length cap] w fun e w' => ∃ v, e = .returned (.tuple #[v, .bool (fewP ls s)]) ∧ Own4 w' w.heap.size v (if fewP ls s = true then layL ls s ls.length else []) ∧ Ext w w' := by
  obtain ⟨i0, hi, hz0, hz1, hz2⟩ := info_parts Try.infoN
  obtain ⟨n, hn⟩ : ∃ n, n = ls.length := ⟨_, rfl⟩
  have hn6 : n ≤ 600 := by have := hl.1; omega
  have hn1 : 1 ≤ n := by have := hl.1; omega
  have HA : Hid (Lns w a ls ∧ n = ls.length ∧ linesP ls ∧ sizesP ls s ∧ TextsP ls) := ⟨h, hn, hl, hs, ht⟩
  have HL : Hid (Calls Try.prog 16 #[.slice a n cap] w fun e w' => e = .returned (.bool true) ∧ Ext w w') := by rw [hn]; exact iLines_any a cap ls true w (by omega) ht h (by simp [hl])
  have HPL : Hid (∀ w1, Ext w w1 → Calls Try.prog 38 #[.slice a n cap] w1 fun e w' => ∃ B g, e = .returned (.agg #[.map (some B), .slice (some ⟨g, 0, none⟩) (n + 1) (n + 1)]) ∧ PlanP w' ls s B g 0 ∧ Ext w1 w') := fun w1 hE => by rw [hn]; exact planOf_any a cap ls s w1 hl hs ht (h.ext hE)
  obtain ⟨z, hz⟩ : ∃ z, z = fewP ls s := ⟨_, rfl⟩
  have hcn : cnt s n ≤ 1800 := by have := cnt_le hs (n := n) (by omega); omega
  have HZ : Hid (z = inB (cnt s n) 1 400) := by show _ = _; rw [hz]; unfold fewP; rw [hn]
  have hlay : ∃ lay : List Wd, lay = if z = true then layL ls s ls.length else [] := ⟨_, rfl⟩
  obtain ⟨lay, hlay⟩ := hlay
  rw [← hz, ← hlay, ← hn]
  have HLY : Hid (lay = if z = true then layL ls s n else []) := by rw [hn]; exact hlay
  clear h hn hl hs ht hz hlay
  go_enter Try.func11, Try.ntmps11
  go_wp2_with fail
  refine HL.out.mono ?_
  rintro e w2 ⟨rfl, e2⟩
  have X2 : Hid (Ext w w2) := e2
  clear e2 HL
  go_wp2_with fail
  refine (HPL.out _ X2.out).mono ?_
  rintro e w3 ⟨B, g, rfl, hp3, e3⟩
  obtain ⟨W4, hW4⟩ : ∃ W, W = w3.alloc (.cells #[.map (some B), .slice (some ⟨g, 0, none⟩) (n + 1) (n + 1)] 61) := ⟨_, rfl⟩
  have HX : Hid (PlanP W4 ls s B g 0 ∧ Two W4 w3.heap.size (.map (some B)) (.slice (some ⟨g, 0, none⟩) (n + 1) (n + 1)) ∧ Ext w W4) := by
    rw [hW4]
    exact ⟨hp3.ext (Ext.one _ _), ⟨by simp, by simp [go_sem], by simp [go_sem], by simp [go_sem], by simp [go_sem]⟩, (X2.out.trans e3).alloc _⟩
  have x0 : W4.cell? ⟨g, 0, none⟩ = some (.int .i64 (cnt s n : Int)) := by
    obtain ⟨_, f, r1, r2⟩ := HX.out.1
    have := (r1.2 0 (by omega)).1
    rw [r2 0 (Nat.le_refl _) (by omega)] at this
    have h0 : cnt s 0 = 0 := rfl
    rw [h0, ← HA.out.2.1] at this
    simpa using this
  obtain ⟨_, t6, t7, _, _⟩ := HX.out.2.1
  have HS4 : Hid (W4.heap.size = w3.heap.size + 1) := by show _ = _; rw [hW4]; simp
  have hW4' := hW4
  rw [hW4] at x0 t6 t7
  generalize cnt s n = cn at *
  have HFT : Hid (∀ w1, Calls Try.prog 39 #[.int .i64 (cn : Int)] w1 fun e w' => e = .returned (.bool z) ∧ w1 = w') := fun w1 => by rw [HZ.out]; exact fits_any _ w1
  have hp3' := hp3
  clear hp3 e3 HPL X2 hW4'
  cases z with
  | false =>
    have HR : Hid (lay = []) := HLY.out
    go_wp2_with fail
    refine (HFT.out _).mono ?_
    rintro e w5 ⟨rfl, rfl⟩
    rw [← hW4]
    have X4 : Hid (Ext w W4) := HX.out.2.2
    clear x0 t6 t7 HX hW4 hp3'
    go_wp2
    go_ret2
    refine ⟨_, rfl, ?_, X4.out⟩
    rw [HR.out]
    exact Own4.nil _ _
  | true =>
    have HR : Hid (lay = layL ls s n) := HLY.out
    go_wp2_with fail
    refine (HFT.out _).mono ?_
    rintro e w5 ⟨rfl, rfl⟩
    go_wp2_with (at_make; rw [← hW4]; refine wpList_make_own _ rfl _ _ 30 rfl W4.heap.size 35 i0 (.agg #[.int .i64 0, .int .i64 0, .int .i64 0, .int .i64 0]) 4 Try.underlying30 hi hz0 hz1 _ _ _ cn rfl rfl (by omega) (by rw [hz2]; omega) (by unfold maxLen; omega) (Nat.le_refl _) ?_; intro w6 hown6 hgrow6)
    have x6 : Ext W4 w6 := (Ext.refl W4).grown hgrow6 (Nat.le_refl _) (fun k hk => by cases hk)
    generalize hbp : w3.heap.size = bp at *
    have HX6 : Hid (PlanP w6 ls s B g 0 ∧ Two w6 bp (.map (some B)) (.slice (some ⟨g, 0, none⟩) (n + 1) (n + 1)) ∧ Ext w w6 ∧ Own4 w6 w.heap.size (.slice (some ⟨bp + 1, 0, none⟩) 0 cn) (layL ls s 0)) := ⟨HX.out.1.ext x6, HX.out.2.1.ext x6, HX.out.2.2.trans x6, by have h := own_lower hown6 HX.out.2.2.size; rw [HS4.out] at h; exact h⟩
    have HLT : Hid (B < bp ∧ g < bp) := by
      obtain ⟨hm, f, hr, _⟩ := hp3'
      rw [← hbp]
      exact ⟨hm.lt, hr.1⟩
    have HWO : Hid (∀ (i : Nat) (lab yes no : ByteArray) (o kk y nn : Int) (w1 : World), PlanP w1 ls s B g 0 → i < n → Ln.mk lab (o, kk, y, nn) yes no = ls.getD i zeroL → Calls Try.prog 40 #[.agg #[.map (some B), .slice (some ⟨g, 0, none⟩) (n + 1) (n + 1)], .int .i64 (i : Int), .agg #[.string lab, .int .i64 o, .int .i64 kk, .int .i64 y, .int .i64 nn, .string yes, .string no]] w1 fun e w' => ∃ u, e = .returned u ∧ WordsV w' u (wordsL ls s i) ∧ Ext w1 w') := fun i lab yes no o kk y nn w1 h1 h2 h3 => by
      have ht := HA.out.2.2.2.2 i (by have := HA.out.2.1; omega)
      rw [← h3] at ht
      have := wordsOf_any ls s B g (n + 1) i lab yes no o kk y nn w1 HA.out.2.2.1 HA.out.2.2.2.1 h1 (by have := HA.out.2.1; omega) h3 ht.2
      rw [← HA.out.2.1] at this
      exact this
    have HLL : Hid (∀ k, k ≤ n → (layL ls s k).length ≤ 1800) := fun k hk => by
      have h0 := HA.out.2.1
      rw [layL_length HA.out.2.2.2.1 (by omega)]
      have := cnt_le HA.out.2.2.2.1 (n := k) (by omega)
      omega
    clear x0 t6 t7 HX x6 hown6 hgrow6 hbp HS4 HZ HFT hp3'
    go_loopw [5, 26] (fun ov iv wr => ∃ k : Nat, iv = .int .i64 k ∧ k ≤ n ∧ Hid (PlanP wr ls s B g 0 ∧ Two wr bp (.map (some B)) (.slice (some ⟨g, 0, none⟩) (n + 1) (n + 1)) ∧ Ext w wr ∧ Own4 wr w.heap.size ov (layL ls s k) ∧ ∀ x, ov.ownBlock = some x → bp < x)) (fun _ iv _ => n - (intOf iv).toNat)
    case atStart => exact ⟨0, rfl, by omega, HX6.out.1, HX6.out.2.1, HX6.out.2.2.1, HX6.out.2.2.2, fun x hx => by have : bp + 1 = x := Option.some.inj hx; omega⟩
    case round =>
      obtain ⟨k, rfl, hk, HX⟩ := hrel
      clear HX6
      by_cases hlt : k < n
      · have bk : (k : Int) < (n : Int) := by omega
        obtain ⟨⟨lab, ⟨o, kk, y, nn⟩, yes, no⟩, hp⟩ : ∃ p, p = ls.getD k zeroL := ⟨_, rfl⟩
        obtain ⟨b, off, rfl, hq⟩ := (HA.out.1.ext HX.out.2.2.1).hept (k := k) (by have := HA.out.2.1; omega) hp
        obtain ⟨c0, c1, c2, c3, c4, c5, c6⟩ := hq
        simp only at c0 c1 c2 c3 c4 c5 c6
        have HP : Hid (Ln.mk lab (o, kk, y, nn) yes no = ls.getD k zeroL) := hp
        obtain ⟨_, y6, y7, _, _⟩ := HX.out.2.1.ext (Ext.one wr (.cells #[.string lab, .int .i64 o, .int .i64 kk, .int .i64 y, .int .i64 nn, .string yes, .string no] 37))
        have hlay : (layL ls s k).length ≤ 1800 := HLL.out k hk
        clear hp
        go_wp2_with fail
        refine (HWO.out k lab yes no o kk y nn _ (HX.out.1.ext (Ext.one _ _)) hlt HP.out).mono ?_
        rintro e w7 ⟨u, rfl, hu, e7⟩
        have HX7 : Hid (PlanP w7 ls s B g 0 ∧ Two w7 bp (.map (some B)) (.slice (some ⟨g, 0, none⟩) (n + 1) (n + 1)) ∧ Ext w w7) := ⟨(HX.out.1.ext (Ext.one _ _)).ext e7, (HX.out.2.1.ext (Ext.one _ _)).ext e7, (HX.out.2.2.1.alloc _).trans e7⟩
        have hown : w7.ownsRow w.heap.size 35 4 u5 (layL ls s k).length (flatI (layL ls s k)) := (HX.out.2.2.2.1.alloc _).ext e7
        have HOB : Hid (∀ x, u5.ownBlock = some x → bp < x) := HX.out.2.2.2.2
        have hz4 : w.heap.size ≤ w7.heap.size := HX7.out.2.2.size
        have HN : Hid (layL ls s (k + 1) = layL ls s k ++ wordsL ls s k) := rfl
        have hw18 : (wordsL ls s k).length ≤ 3 := by
          have h0 := HA.out.2.1
          rw [wordsL_length HA.out.2.2.2.1 (by omega)]
          exact size_le HA.out.2.2.2.1 (by omega)
        clear c0 c1 c2 c3 c4 c5 c6 y6 y7 e7 HX HWO
        generalize wordsL ls s k = ws at *
        generalize layL ls s k = l at *
        rcases hu with ⟨rfl, rfl⟩ | ⟨gw, cw, rfl, hne, hwr⟩
        · go_wp2_with (at_builtin; refine wpList_append_own_none rfl _ _ 30 rfl w.heap.size 35 i0 4 Try.underlying30 hi _ l.length _ rfl hown rfl ?_)
          go_roundw
          case rel => exact ⟨k + 1, by go_num, by omega, HX7.out.1, HX7.out.2.1, HX7.out.2.2, by rw [HN.out, List.append_nil]; exact hown, HOB.out⟩
          case measure => simp [intOf]; omega
        · have hwl : 0 < ws.length := List.length_pos_iff.2 hne
          have HNW := flat_cells hwr
          generalize hlw : ws.length = lw at *
          have hfl : (flatI ws).length = lw * 4 := by rw [flatI_length, hlw]
          have h1c : ∀ u ∈ flatI ws, u.oneCell' = true := fun u hu => by
            unfold flatI at hu
            obtain ⟨p, _, hp⟩ := List.mem_flatMap.1 hu
            simp [ints4] at hp
            rcases hp with rfl | rfl | rfl | rfl <;> rfl
          have hl0 : (layL ls s (k + 1)).length = (layL ls s (k + 1)).length := rfl
          go_wp2_with (at_builtin; refine wpList_append_lies _ rfl _ _ 30 rfl w.heap.size 35 i0 (.agg #[.int .i64 0, .int .i64 0, .int .i64 0, .int .i64 0]) 4 32 Try.underlying30 hi hz0 hz1 hz2 rfl (by decide) _ l.length _ rfl hown ⟨gw, 0, none⟩ lw cw (flatI ws) rfl hfl ?c1 h1c hwl ?c3 ?c4 hz4 _ rfl ?_)
          case c1 =>
            intro j u hu
            rw [Addr.add_lit, Nat.zero_add]
            exact HNW j u hu
          case c3 => unfold maxLen; omega
          case c4 => omega
          · intro v' d8 w8 hown8 hgrow8 lie8 lt8
            have HX8 : Hid (PlanP w8 ls s B g 0 ∧ Two w8 bp (.map (some B)) (.slice (some ⟨g, 0, none⟩) (n + 1) (n + 1)) ∧ Ext w w8 ∧ Own4 w8 w.heap.size (.slice (some ⟨v', 0, none⟩) (l.length + lw) d8) (l ++ ws) ∧ ∀ x, (Value.slice (some ⟨v', 0, none⟩) (l.length + lw) d8).ownBlock = some x → bp < x) := by
              obtain ⟨hp7, ht7, hx7⟩ := HX7.out
              have hb7 : Below (bp + 1) w7 w8 := ⟨hgrow8.os, hgrow8.tape, hgrow8.output, hgrow8.size, fun i hi => hgrow8.block i (Nat.lt_of_lt_of_le hi (Nat.succ_le_of_lt ht7.1)) (fun e => by have := HOB.out i e.symm; omega)⟩
              obtain ⟨⟨hm, f, hr, hf⟩, ht, _⟩ := HX7.out
              have hlt := HLT.out
              refine ⟨⟨hm.below hb7 (by omega), f, hr.below hb7 (by omega), hf⟩, ?_, ext_row hx7 hgrow8 (fun x hx => own_from hown hx), ?_, ?_⟩
              · exact ⟨Nat.lt_of_lt_of_le ht.1 hgrow8.size, (hb7.cell (p := ⟨bp, 0, none⟩) (Nat.lt_succ_self _)).trans ht.2.1, (hb7.cell (p := ⟨bp, 1, none⟩) (Nat.lt_succ_self _)).trans ht.2.2.1, (hb7.frozen (p := ⟨bp, 0, none⟩) (Nat.lt_succ_self _)).trans ht.2.2.2.1, (hb7.frozen (p := ⟨bp, 1, none⟩) (Nat.lt_succ_self _)).trans ht.2.2.2.2⟩
              · have e : flatI l ++ flatI ws = flatI (l ++ ws) := by simp [flatI]
                rw [e] at hown8
                unfold Own4
                rw [List.length_append, hlw]
                exact hown8
              · intro x hx
                have hxe : v' = x := Option.some.inj hx
                rcases lie8 with h | h
                · exact HOB.out x (by rw [h, hxe])
                · have := ht7.1
                  omega
            clear hgrow8 hown8 hown hwr HNW h1c lie8 lt8
            go_wp2
            go_roundw
            case rel => exact ⟨k + 1, by go_num, by omega, HX8.out.1, HX8.out.2.1, HX8.out.2.2.1, by rw [HN.out]; exact HX8.out.2.2.2.1, HX8.out.2.2.2.2⟩
            case measure => simp [intOf]; omega
      · have hkn : k = n := by omega
        have bk : ¬ ((k : Int) < (n : Int)) := by omega
        have HE : Hid (Own4 wr w.heap.size u5 lay ∧ Ext w wr) := ⟨by rw [HR.out, ← hkn]; exact HX.out.2.2.2.1, HX.out.2.2.1⟩
        clear HX hkn
        go_wp2
        go_ret2
        exact ⟨_, rfl, HE.out⟩

set_option maxRecDepth 100000 in
set_option maxHeartbeats 4000000 in
theorem sLayout_no (a : Option Addr) (cap : Nat) (ls : List Ln) (w : World) (hl : ls.length ≤ 1048576) (h : Lns w a ls) (hn : ¬ linesP ls) :
    Calls Try.prog 20 #[.slice a ls.length cap] w fun e w' => ∃ v, e = .returned (.tuple #[v, .bool false]) ∧ Own4 w' w.heap.size v [] ∧ Ext w w' := by
  have HL : Hid (∀ w1, Ext w w1 → Calls Try.prog 23 #[.slice a ls.length cap] w1 fun e w' => ∃ g, e = .returned (.slice (some ⟨g, 0, none⟩) 0 0) ∧ w1.heap.size ≤ g ∧ g < w'.heap.size ∧ Ext w1 w') := fun w1 hE => sSizes_no a cap ls w1 hl (h.ext hE) hn
  generalize ls.length = n at *
  clear h hn hl
  have HO : Hid (Own4 (w.alloc (.cells #[] 35)) w.heap.size (.slice (some ⟨w.heap.size, 0, none⟩) 0 0) []) := Own4.lit w w.heap.size (Nat.le_refl _)
  go_enter Try.func20, Try.ntmps20
  go_wp2_with fail
  refine (HL.out _ (Ext.one _ _)).mono ?_
  rintro e w2 ⟨g, rfl, h1, h2, e2⟩
  have X2 : Hid (Ext w w2 ∧ Own4 w2 w.heap.size (.slice (some ⟨w.heap.size, 0, none⟩) 0 0) []) := ⟨(Ext.one _ _).trans e2, HO.out.ext e2⟩
  clear h1 h2 e2
  go_wp2
  go_ret2
  exact ⟨_, rfl, X2.out.2, X2.out.1⟩

/-- What is there while the words are laid: sizes, ways, beginnings, all below b0. -/
def LayR (ls : List Ln) (s : Nat → Nat) (n gs gy gn gb b0 : Nat) (w wr : World) : Prop :=
  RowF wr gs n (fun i => (s i : Int)) ∧ RowF wr gy n (fun i => wayV ls (ls.getD i zeroL).yes) ∧ RowF wr gn n (fun i => wayV ls (ls.getD i zeroL).no) ∧ RowF wr gb n (fun i => (cnt s i : Int)) ∧ (gs < b0 ∧ gy < b0 ∧ gn < b0 ∧ gb < b0) ∧ b0 ≤ wr.heap.size ∧ w.heap.size ≤ b0 ∧ Ext w wr

theorem LayR.ext {ls : List Ln} {s : Nat → Nat} {n gs gy gn gb b0 : Nat} {w wr w' : World} (h : LayR ls s n gs gy gn gb b0 w wr) (hE : Ext wr w') : LayR ls s n gs gy gn gb b0 w w' := by
  obtain ⟨h1, h2, h3, h4, h5, h6, h7, h8⟩ := h
  exact ⟨h1.ext hE, h2.ext hE, h3.ext hE, h4.ext hE, h5, Nat.le_trans h6 hE.size, h7, h8.trans hE⟩

theorem LayR.app {ls : List Ln} {s : Nat → Nat} {n gs gy gn gb b0 : Nat} {w wr w' : World} {row : Option Nat} (h : LayR ls s n gs gy gn gb b0 w wr) (hg : wr.grownBy w' row) (hr : ∀ x, row = some x → b0 ≤ x) : LayR ls s n gs gy gn gb b0 w w' := by
  obtain ⟨h1, h2, h3, h4, h5, h6, h7, h8⟩ := h
  have hb : Below b0 wr w' := ⟨hg.os, hg.tape, hg.output, hg.size, fun i hi => hg.block i (Nat.lt_of_lt_of_le hi h6) (fun e => by have := hr i e.symm; omega)⟩
  exact ⟨h1.below hb h5.1, h2.below hb h5.2.1, h3.below hb h5.2.2.1, h4.below hb h5.2.2.2, h5, Nat.le_trans h6 hg.size, h7, ext_row h8 hg fun x hx => Nat.le_trans h7 (hr x hx)⟩

/-- The last line is a word. -/
theorem cnt_pos {ls : List Ln} {s : Nat → Nat} (hl : linesP ls) (hs : sizesP ls s) : 1 ≤ cnt s ls.length := by
  obtain ⟨m, hm⟩ : ∃ m, ls.length = m + 1 := ⟨ls.length - 1, by have := hl.1; omega⟩
  have h8 := hl.2.1
  rw [hm, Nat.add_sub_cancel] at h8
  have h1 : s m = 1 := by
    rcases hs m (by omega) with ⟨a, _⟩ | ⟨a, _⟩ | ⟨a, _⟩ | ⟨_, _, a⟩
    · omega
    · unfold askP at a; omega
    · unfold askP at a; omega
    · exact a
  rw [hm]
  show 1 ≤ cnt s m + s m
  omega

/-- The words of a line by where lines begin. -/
theorem words_three {ls : List Ln} {s : Nat → Nat} (hl : linesP ls) (hs : sizesP ls s) {i : Nat} (hi : i < ls.length) (h3 : s i = 3) {lab yes no : ByteArray} {o kk y nn : Int} (hp : Ln.mk lab (o, kk, y, nn) yes no = ls.getD i zeroL) :
    wordsL ls s i = [(o, kk, y, 1), (7, (cnt s (pos ls yes) : Int) - (cnt s i : Int) - 2, 0, 0), (7, (cnt s (pos ls no) : Int) - (cnt s i : Int) - 3, 0, 0)] ∧ onP ls i yes ∧ onP ls i no := by
  have ha : askP (ls.getD i zeroL).wd.1 := by
    rcases hs i hi with ⟨_, h⟩ | ⟨h, _⟩ | ⟨h, _⟩ | ⟨_, _, h⟩
    · omega
    · exact h
    · exact h
    · omega
  have hon := ask_on hl hi ha
  have hy : (ls.getD i zeroL).wd.2.2.1 = 0 := by
    rcases hl.2.2 i hi with ⟨hz, _⟩ | ⟨_, _, h, _⟩
    · rw [hz]; rfl
    · exact h
  rw [← hp] at hon hy
  simp only at hon hy
  refine ⟨?_, hon⟩
  have hc : cnt s (i + 1) = cnt s i + 3 := by show cnt s i + s i = _; rw [h3]
  have m1 := cnt_mono s (a := i + 1) (b := pos ls yes) hon.1.1
  have m2 := cnt_mono s (a := i + 1) (b := pos ls no) hon.2.1
  unfold wordsL
  rw [if_neg (by omega), if_pos h3, ← hp]
  simp only [overL, hy]
  congr 1
  congr 1
  · simp only [Prod.mk.injEq]
    simp only [and_true, true_and]
    omega
  · congr 1
    simp only [Prod.mk.injEq]
    simp only [and_true, true_and]
    omega

theorem words_ask {ls : List Ln} {s : Nat → Nat} (hl : linesP ls) (hs : sizesP ls s) {i : Nat} (hi : i < ls.length) (h1 : s i = 1) {lab yes no : ByteArray} {o kk y nn : Int} (hp : Ln.mk lab (o, kk, y, nn) yes no = ls.getD i zeroL) (ha : askB o = true) :
    wordsL ls s i = [(o, kk, (cnt s (pos ls yes) : Int) - (cnt s i : Int) - 1, (cnt s (pos ls no) : Int) - (cnt s i : Int) - 1)] ∧ onP ls i yes ∧ onP ls i no := by
  have ha' : askP (ls.getD i zeroL).wd.1 := by rw [← hp]; exact askB_true.1 ha
  have hon := ask_on hl hi ha'
  rw [← hp] at hon
  simp only at hon
  refine ⟨?_, hon⟩
  have hc : cnt s (i + 1) = cnt s i + 1 := by show cnt s i + s i = _; rw [h1]
  have m1 := cnt_mono s (a := i + 1) (b := pos ls yes) hon.1.1
  have m2 := cnt_mono s (a := i + 1) (b := pos ls no) hon.2.1
  unfold wordsL
  rw [if_neg (by omega), if_neg (by omega), ← hp, if_pos ha]
  simp only [overL]
  congr 1
  simp only [Prod.mk.injEq]
  exact ⟨trivial, trivial, by omega, by omega⟩

theorem words_jump {ls : List Ln} {s : Nat → Nat} (hl : linesP ls) (hs : sizesP ls s) {i : Nat} (hi : i < ls.length) (h1 : s i = 1) {lab yes no : ByteArray} {kk y nn : Int} (hp : Ln.mk lab (7, kk, y, nn) yes no = ls.getD i zeroL) :
    wordsL ls s i = [(7, (cnt s (pos ls yes) : Int) - (cnt s i : Int) - 1, y, nn)] ∧ onP ls i yes := by
  have hon := jump_on hl hi (by rw [← hp])
  rw [← hp] at hon
  simp only at hon
  refine ⟨?_, hon⟩
  have hc : cnt s (i + 1) = cnt s i + 1 := by show cnt s i + s i = _; rw [h1]
  have m1 := cnt_mono s (a := i + 1) (b := pos ls yes) hon.1
  unfold wordsL
  rw [if_neg (by omega), if_neg (by omega), ← hp, if_neg (by simp [askB]), if_pos rfl]
  simp only [overL]
  congr 1
  simp only [Prod.mk.injEq]
  simp only [and_true, true_and]
  omega

theorem words_other {ls : List Ln} {s : Nat → Nat} {i : Nat} (h1 : s i = 1) {lab yes no : ByteArray} {o kk y nn : Int} (hp : Ln.mk lab (o, kk, y, nn) yes no = ls.getD i zeroL) (ha : askB o = false) (h7 : o ≠ 7) : wordsL ls s i = [(o, kk, y, nn)] := by
  unfold wordsL
  rw [if_neg (by omega), if_neg (by omega), ← hp, if_neg (by rw [ha]; decide), if_neg h7]

/-- What is there in one round: what LayR says, the words so far, the word in its box. -/
def StL (ls : List Ln) (s : Nat → Nat) (n gs gy gn gb b0 bx : Nat) (w W : World) (ov : Value) (l : List Wd) (q : Wd) : Prop :=
  LayR ls s n gs gy gn gb b0 w W ∧ Own4 W b0 ov l ∧ Own4 W w.heap.size (.slice (some ⟨w.heap.size, 0, none⟩) 0 0) [] ∧ Quad W bx 0 q ∧ (∀ j, W.frozen? ⟨bx, j, none⟩ = false) ∧ (∀ x, ov.ownBlock = some x → x < bx) ∧ b0 ≤ bx ∧ w.heap.size < bx

theorem StL.ext {ls : List Ln} {s : Nat → Nat} {n gs gy gn gb b0 bx : Nat} {w W W' : World} {ov : Value} {l : List Wd} {q : Wd} (h : StL ls s n gs gy gn gb b0 bx w W ov l q) (hE : Ext W W') : StL ls s n gs gy gn gb b0 bx w W' ov l q := by
  obtain ⟨h1, h2, h3, h4, h5, h6, h7, h8⟩ := h
  exact ⟨h1.ext hE, h2.ext hE, h3.ext hE, h4.below hE h4.lt, fun j => (hE.frozen (p := ⟨bx, j, none⟩) h4.lt).trans (h5 j), h6, h7, h8⟩

theorem StL.drew {ls : List Ln} {s : Nat → Nat} {n gs gy gn gb b0 bx : Nat} {w W : World} {ov : Value} {l : List Wd} {q : Wd} (h : StL ls s n gs gy gn gb b0 bx w W ov l q) : StL ls s n gs gy gn gb b0 bx w W.drew ov l q := by
  obtain ⟨⟨g1, g2, g3, g4, g5, g6, g7, g8⟩, h2, h3, h4, h5, h6, h7, h8⟩ := h
  exact ⟨⟨g1, g2, g3, g4, g5, g6, g7, g8.drew⟩, h2, h3, h4, h5, h6, h7, h8⟩

theorem own_set {W : World} {B e size n bx i : Nat} {v u : Value} {xs : List Value} (h : W.ownsRow B e size v n xs) (hne : ∀ x, v.ownBlock = some x → x ≠ bx) : (W.setCell ⟨bx, i, none⟩ u).ownsRow B e size v n xs := by
  refine ⟨h.1, ?_⟩
  rcases h.2 with hn | ⟨g, cap, cur, rfl, hg, hh, rest⟩
  · exact .inl hn
  · exact .inr ⟨g, cap, cur, rfl, hg, (Below.heap_setCell _ _ _ _ (Ne.symm (hne g rfl)).symm).trans hh, rest⟩

theorem StL.put {ls : List Ln} {s : Nat → Nat} {n gs gy gn gb b0 bx : Nat} {w W : World} {ov : Value} {l : List Wd} {q q' : Wd} (h : StL ls s n gs gy gn gb b0 bx w W ov l q) (i : Nat) (v : Int) (hq : q' = (if i = 0 then v else q.1, if i = 1 then v else q.2.1, if i = 2 then v else q.2.2.1, if i = 3 then v else q.2.2.2)) : StL ls s n gs gy gn gb b0 bx w (W.setCell ⟨bx, i, none⟩ (.int .i64 v)) ov l q' := by
  obtain ⟨⟨g1, g2, g3, g4, ⟨g5, g6, g7, g8⟩, g9, g10, g11⟩, h2, h3, h4, h5, h6, h7, h8⟩ := h
  refine ⟨⟨g1.far (by omega) _, g2.far (by omega) _, g3.far (by omega) _, g4.far (by omega) _, ⟨g5, g6, g7, g8⟩, by rw [World.size_setCell]; exact g9, g10, Below.setCell g11 (show w.heap.size ≤ bx by omega) _⟩, own_set h2 (fun x hx => by have := h6 x hx; omega), own_set h3 (fun x hx => by have : w.heap.size = x := Option.some.inj hx; omega), h4.put v hq, fun j => by rw [World.frozen?_setCell]; exact h5 j, h6, h7, h8⟩

theorem quad_box (w : World) (o k y n : Int) : Quad (w.alloc (.cells #[.int .i64 o, .int .i64 k, .int .i64 y, .int .i64 n] 35)) w.heap.size 0 (o, k, y, n) := ⟨by simp [go_sem], by simp [go_sem], by simp [go_sem], by simp [go_sem]⟩

set_option maxRecDepth 100000 in
set_option maxHeartbeats 16000000 in
theorem sLayout_yes (a : Option Addr) (cap : Nat) (ls : List Ln) (s : Nat → Nat) (w : World) (h : Lns w a ls) (hl : linesP ls) (hs : sizesP ls s) :
    Calls Try.prog 20 #[.slice a ls.length cap] w fun e w' => ∃ v, e = .returned (.tuple #[v, .bool (fewP ls s)]) ∧ Own4 w' w.heap.size v (if fewP ls s = true then layL ls s ls.length else []) ∧ Ext w w' := by
  obtain ⟨i0, hi, hz0, hz1, hz2⟩ := info_parts Try.infoN
  obtain ⟨n, hn⟩ : ∃ n, n = ls.length := ⟨_, rfl⟩
  have hn6 : n ≤ 600 := by have := hl.1; omega
  have hn1 : 0 < n := by have := hl.1; omega
  have HA : Hid (Lns w a ls ∧ n = ls.length ∧ linesP ls ∧ sizesP ls s) := ⟨h, hn, hl, hs⟩
  have HS : Hid (∀ w1, Ext w w1 → Calls Try.prog 23 #[.slice a n cap] w1 fun e w' => ∃ q c, e = .returned (.slice (some ⟨q, 0, none⟩) n c) ∧ w1.heap.size ≤ q ∧ RowF w' q n (fun i => (s i : Int)) ∧ Ext w1 w') := fun w1 hE => by rw [hn]; exact sSizes_yes a cap ls s w1 (h.ext hE) hl hs
  have HW : Hid (∀ w1, Ext w w1 → Calls Try.prog 51 #[.slice a n cap] w1 fun e w' => ∃ q c q2 c2, e = .returned (.tuple #[.slice (some ⟨q, 0, none⟩) n c, .slice (some ⟨q2, 0, none⟩) n c2]) ∧ w1.heap.size ≤ q ∧ w1.heap.size ≤ q2 ∧ RowF w' q n (fun i => wayV ls (ls.getD i zeroL).yes) ∧ RowF w' q2 n (fun i => wayV ls (ls.getD i zeroL).no) ∧ Ext w1 w') := fun w1 hE => by rw [hn]; exact ways11_any a cap ls w1 (by have := hl.1; omega) (by have := hl.1; omega) (h.ext hE)
  have HZ : Hid (fewP ls s = inB (cnt s n) 1 400 ∧ 1 ≤ cnt s n ∧ (layL ls s n).length = cnt s n) := ⟨by unfold fewP; rw [hn], by rw [hn]; exact cnt_pos hl hs, by rw [hn]; exact layL_length hs (Nat.le_refl _)⟩
  rw [← hn]
  generalize fewP ls s = z at *
  have HLL : Hid (∀ k, k ≤ n → (layL ls s k).length ≤ 1800) := fun k hk => by
    rw [layL_length hs (by omega)]
    have := cnt_le hs (n := k) (by omega)
    omega
  clear h hn hl hs
  go_enter Try.func20, Try.ntmps20
  have X0 : Hid (Ext w (w.alloc (.cells #[] 35)) ∧ Own4 (w.alloc (.cells #[] 35)) w.heap.size (.slice (some ⟨w.heap.size, 0, none⟩) 0 0) []) := ⟨Ext.one _ _, Own4.lit w w.heap.size (Nat.le_refl _)⟩
  go_wp2_with fail
  refine (HS.out _ X0.out.1).mono ?_
  rintro e w2 ⟨gs, cs, rfl, hgs, rs, e2⟩
  have X2 : Hid (Ext w w2 ∧ Own4 w2 w.heap.size (.slice (some ⟨w.heap.size, 0, none⟩) 0 0) [] ∧ RowF w2 gs n (fun i => (s i : Int))) := ⟨X0.out.1.trans e2, X0.out.2.ext e2, rs⟩
  have q0 : ((n : Int) == 0) = false := by simp; omega
  clear hgs rs e2 X0 HS
  go_wp2_with fail
  refine (HW.out _ X2.out.1).mono ?_
  rintro e w3 ⟨gy, cy, gn, cn, rfl, hgy, hgn, ry, rn, e3⟩
  have X3 : Hid (Ext w w3 ∧ Own4 w3 w.heap.size (.slice (some ⟨w.heap.size, 0, none⟩) 0 0) [] ∧ RowF w3 gs n (fun i => (s i : Int)) ∧ RowF w3 gy n (fun i => wayV ls (ls.getD i zeroL).yes) ∧ RowF w3 gn n (fun i => wayV ls (ls.getD i zeroL).no)) := ⟨X2.out.1.trans e3, X2.out.2.1.ext e3, X2.out.2.2.ext e3, ry, rn⟩
  clear hgy hgn ry rn e3 X2 HW
  go_wp2_with fail
  refine (begins_any gs n cs s _ hn1 hn6 (fun i hi => size_le HA.out.2.2.2 (by have := HA.out.2.1; omega)) X3.out.2.2.1).mono ?_
  rintro e w4 ⟨gb, cb, rfl, hgb, rb, e4⟩
  obtain ⟨b0, hb0⟩ : ∃ b, b = w4.heap.size := ⟨_, rfl⟩
  have X4 : Hid (LayR ls s n gs gy gn gb b0 w (w4.alloc (.cells #[] 35)) ∧ Own4 (w4.alloc (.cells #[] 35)) w.heap.size (.slice (some ⟨w.heap.size, 0, none⟩) 0 0) [] ∧ Own4 (w4.alloc (.cells #[] 35)) b0 (.slice (some ⟨b0, 0, none⟩) 0 0) (layL ls s 0) ∧ w.heap.size < b0) := by
    obtain ⟨h1, h2, h3, h4, h5⟩ := X3.out
    have k1 := (h3.ext e4).1
    have k2 := (h4.ext e4).1
    have k3 := (h5.ext e4).1
    have k4 := rb.1
    have k5 := (h1.trans e4).size
    have hlt : w.heap.size < w4.heap.size := Nat.lt_of_lt_of_le (h2.lt _ rfl).2 e4.size
    refine ⟨LayR.ext ⟨h3.ext e4, h4.ext e4, h5.ext e4, rb, by omega, by omega, by omega, h1.trans e4⟩ (Ext.one _ _), (h2.ext e4).alloc _, ?_, by omega⟩
    rw [hb0]
    exact Own4.lit w4 w4.heap.size (Nat.le_refl _)
  clear hgb rb e4 X3
  go_wp2_with fail
  rw [← hb0]
  generalize w4.alloc (.cells #[] 35) = W4 at *
  clear hb0
  go_loopw [9, 10] (fun ov iv wr => ∃ k : Nat, iv = .int .i64 k ∧ k ≤ n ∧ Hid (LayR ls s n gs gy gn gb b0 w wr ∧ Own4 wr b0 ov (layL ls s k) ∧ Own4 wr w.heap.size (.slice (some ⟨w.heap.size, 0, none⟩) 0 0) [])) (fun _ iv _ => n - (intOf iv).toNat)
  case atStart => exact ⟨0, rfl, by omega, X4.out.1, X4.out.2.2.1, X4.out.2.1⟩
  case round =>
    obtain ⟨k, rfl, hk, HX⟩ := hrel
    by_cases hlt : k < n
    · have bk : (k : Int) < (n : Int) := by omega
      obtain ⟨⟨lab, ⟨o, kk, y, nn⟩, yes, no⟩, hp⟩ : ∃ p, p = ls.getD k zeroL := ⟨_, rfl⟩
      obtain ⟨b, off, rfl, hq⟩ := (HA.out.1.ext HX.out.1.2.2.2.2.2.2.2).hept (k := k) (by have := HA.out.2.1; omega) hp
      obtain ⟨_, c1, c2, c3, c4, _, _⟩ := hq
      simp only at c1 c2 c3 c4
      have HP : Hid (Ln.mk lab (o, kk, y, nn) yes no = ls.getD k zeroL) := hp
      have HKL : Hid (k < ls.length) := by have := HA.out.2.1; unfold Hid; omega
      have HLT : Hid (w.heap.size < b0) := X4.out.2.2.2
      obtain ⟨bx, hbx⟩ : ∃ x, x = wr.heap.size := ⟨_, rfl⟩
      obtain ⟨W5, hW5⟩ : ∃ W, W = wr.alloc (.cells #[.int .i64 o, .int .i64 kk, .int .i64 y, .int .i64 nn] 35) := ⟨_, rfl⟩
      obtain ⟨l, hll⟩ : ∃ l, l = layL ls s k := ⟨_, rfl⟩
      obtain ⟨ws, hws⟩ : ∃ x, x = wordsL ls s k := ⟨_, rfl⟩
      have HN : Hid (layL ls s (k + 1) = l ++ ws) := by rw [hll, hws]; exact rfl
      have hlen : l.length ≤ 1800 := by rw [hll]; exact HLL.out k hk
      have HWS : Hid (ws = wordsL ls s k) := hws
      have HT5 : Hid (StL ls s n gs gy gn gb b0 bx w W5 u9 l (o, kk, y, nn)) := by
        rw [hW5, hbx, hll]
        obtain ⟨h1, h2, h3⟩ := HX.out
        refine ⟨h1.ext (Ext.one _ _), h2.alloc _, h3.alloc _, quad_box wr o kk y nn, fun j => by simp [go_sem], fun x hx => (h2.lt x hx).2, h1.2.2.2.2.2.1, Nat.lt_of_lt_of_le HLT.out h1.2.2.2.2.2.1⟩
      have xs : W5.cell? ⟨gs, k, none⟩ = some (.int .i64 (s k : Int)) := (HT5.out.1.1.2 k hlt).1
      have hc := size_cases HA.out.2.2.2 HKL.out
      have hcb : ∀ j, j < n → cnt s j ≤ 1800 := fun j hj => by have := cnt_le HA.out.2.2.2 (n := j) (by have := HA.out.2.1; omega); omega
      have HCB : Hid (∀ j, j < n → cnt s j ≤ 1800) := hcb
      clear hp hll hws hcb HX X4
      go_upto_region 12 with fail
      rw [← hbx, ← hW5]
      clear hbx hW5 c1 c2 c3 c4
      generalize u9 = ov at *
      rcases hc with h0 | h1 | h3
      · have HWW : Hid (ws = []) := by
          show _ = _
          rw [HWS.out]
          unfold wordsL
          rw [if_pos h0]
        rw [h0] at xs
        go_wp2
        go_roundw
        case rel => exact ⟨k + 1, by go_num, by omega, HT5.out.1, by rw [HN.out, HWW.out, List.append_nil]; exact HT5.out.2.1, HT5.out.2.2.1⟩
        case measure => simp [intOf]; omega
      · rw [h1] at xs
        by_cases h7 : o = 7
        · subst h7
          obtain ⟨hw3, on1⟩ := words_jump HA.out.2.2.1 HA.out.2.2.2 HKL.out h1 HP.out
          have HON : Hid (onP ls k yes) := on1
          have x1 := (HT5.out.1.2.1.2 k hlt).1
          dsimp only at x1
          rw [← HP.out] at x1
          simp only at x1
          rw [wayV_on HA.out.2.2.1 HON.out] at x1
          have hb1 : pos ls yes < n := by have := HA.out.2.1; have := HON.out.2; omega
          have x2 := (HT5.out.1.2.2.2.1.2 _ hb1).1
          have x3 := (HT5.out.1.2.2.2.1.2 _ hlt).1
          dsimp only at x2 x3
          have u1 := HCB.out _ hb1
          have u3 := HCB.out _ hlt
          have HWW : Hid (ws = [(7, (cnt s (pos ls yes) : Int) - (cnt s k : Int) - 1, y, nn)]) := HWS.out.trans hw3
          clear hw3 on1 HON
          generalize pos ls yes = p1 at *
          generalize cnt s p1 = B1 at *
          generalize cnt s k = Bk at *
          have bb1 : (p1 : Int) < (n : Int) := by omega
          obtain ⟨v0, v1, v2, v3⟩ := HT5.out.2.2.2.1
          simp only [Nat.zero_add] at v0 v1 v2 v3
          go_upto_region 17 with fail
          clear v0 v1 v2 v3 xs
          refine' wp_region_loose_tail 14 (.inl _ :: .inl _ :: .inl _ :: .inl _ :: .inl _ :: .inl _ :: .inl _ :: .inl _ :: .inl _ :: .inl _ :: .inl _ :: .inl _ :: .inl _ :: .inl _ :: []) (fun w' => Quad w' bx 0 (7, kk, y, nn) ∧ w'.cell? ⟨gy, k, none⟩ = some (.int .i64 (p1 : Int)) ∧ w'.cell? ⟨gb, p1, none⟩ = some (.int .i64 (B1 : Int)) ∧ w'.cell? ⟨gb, k, none⟩ = some (.int .i64 (Bk : Int))) (by kernel_rfl) (by kernel_rfl) (⟨HT5.out.2.2.2.1, x1, x2, x3⟩) (fun _ _ h hE => ⟨h.1.below hE h.1.lt, (hE.cell (p := ⟨gy, k, none⟩) (World.block_lt_of_cell? _ _ h.2.1)).trans h.2.1, (hE.cell (p := ⟨gb, p1, none⟩) (World.block_lt_of_cell? _ _ h.2.2.1)).trans h.2.2.1, (hE.cell (p := ⟨gb, k, none⟩) (World.block_lt_of_cell? _ _ h.2.2.2)).trans h.2.2.2⟩) ?hAb ?hlb ?hMb
          case' hMb => skip
          simp only [List.take_succ_cons, List.take_zero, List.drop_succ_cons, List.drop_zero]
          apply wpLoose_val rfl rfl
          case hs =>
            intro w1 hC hd Q1 hQ1
            obtain ⟨hE, hS⟩ := hC
            dsimp only [bare]
            obtain ⟨⟨r0, r1, r2, r3⟩, q0, q1, q2⟩ := hS; simp only [Nat.zero_add] at r0 r1 r2 r3
            clear hd hE
            try clear hS
            go_wp2
            exact Ext.refl _
          case ha => rfl
          apply wpLoose_val rfl rfl
          case hs =>
            intro w1 hC hd Q1 hQ1
            obtain ⟨hE, hS⟩ := hC
            dsimp only [bare]
            obtain ⟨⟨r0, r1, r2, r3⟩, q0, q1, q2⟩ := hS; simp only [Nat.zero_add] at r0 r1 r2 r3
            clear hd hE
            try clear hS
            go_wp2
            exact Ext.refl _
          case ha => rfl
          apply wpLoose_val rfl rfl
          case hs =>
            intro w1 hC hd Q1 hQ1
            obtain ⟨hE, hS⟩ := hC
            dsimp only [bare]
            obtain ⟨⟨r0, r1, r2, r3⟩, q0, q1, q2⟩ := hS; simp only [Nat.zero_add] at r0 r1 r2 r3
            clear hd hE
            try clear hS
            go_wp2
            exact Ext.refl _
          case ha => rfl
          apply wpLoose_val rfl rfl
          case hs =>
            intro w1 hC hd Q1 hQ1
            obtain ⟨hE, hS⟩ := hC
            dsimp only [bare]
            obtain ⟨⟨r0, r1, r2, r3⟩, q0, q1, q2⟩ := hS; simp only [Nat.zero_add] at r0 r1 r2 r3
            clear hd hE
            try clear hS
            go_wp2
            exact Ext.refl _
          case ha => rfl
          apply wpLoose_val rfl rfl
          case hs =>
            intro w1 hC hd Q1 hQ1
            obtain ⟨hE, hS⟩ := hC
            dsimp only [bare]
            obtain ⟨⟨r0, r1, r2, r3⟩, q0, q1, q2⟩ := hS; simp only [Nat.zero_add] at r0 r1 r2 r3
            clear hd hE
            try clear hS
            go_wp2
            exact Ext.refl _
          case ha => rfl
          apply wpLoose_val rfl rfl
          case hs =>
            intro w1 hC hd Q1 hQ1
            obtain ⟨hE, hS⟩ := hC
            dsimp only [bare]
            obtain ⟨⟨r0, r1, r2, r3⟩, q0, q1, q2⟩ := hS; simp only [Nat.zero_add] at r0 r1 r2 r3
            clear hd hE
            try clear hS
            go_wp2
            exact Ext.refl _
          case ha => rfl
          apply wpLoose_val rfl rfl
          case hs =>
            intro w1 hC hd Q1 hQ1
            obtain ⟨hE, hS⟩ := hC
            dsimp only [bare]
            obtain ⟨⟨r0, r1, r2, r3⟩, q0, q1, q2⟩ := hS; simp only [Nat.zero_add] at r0 r1 r2 r3
            clear hd hE
            try clear hS
            go_wp2
            exact Ext.refl _
          case ha => rfl
          apply wpLoose_val rfl rfl
          case hs =>
            intro w1 hC hd Q1 hQ1
            obtain ⟨hE, hS⟩ := hC
            dsimp only [bare]
            obtain ⟨⟨r0, r1, r2, r3⟩, q0, q1, q2⟩ := hS; simp only [Nat.zero_add] at r0 r1 r2 r3
            clear hd hE
            try clear hS
            go_wp2
            exact Ext.refl _
          case ha => rfl
          apply wpLoose_val rfl rfl
          case hs =>
            intro w1 hC hd Q1 hQ1
            obtain ⟨hE, hS⟩ := hC
            dsimp only [bare]
            obtain ⟨⟨r0, r1, r2, r3⟩, q0, q1, q2⟩ := hS; simp only [Nat.zero_add] at r0 r1 r2 r3
            clear hd hE
            try clear hS
            go_wp2
            exact Ext.refl _
          case ha => rfl
          apply wpLoose_val rfl rfl
          case hs =>
            intro w1 hC hd Q1 hQ1
            obtain ⟨hE, hS⟩ := hC
            dsimp only [bare]
            obtain ⟨⟨r0, r1, r2, r3⟩, q0, q1, q2⟩ := hS; simp only [Nat.zero_add] at r0 r1 r2 r3
            clear hd hE
            try clear hS
            go_wp2
            exact Ext.refl _
          case ha => rfl
          apply wpLoose_val rfl rfl
          case hs =>
            intro w1 hC hd Q1 hQ1
            obtain ⟨hE, hS⟩ := hC
            dsimp only [bare]
            obtain ⟨⟨r0, r1, r2, r3⟩, q0, q1, q2⟩ := hS; simp only [Nat.zero_add] at r0 r1 r2 r3
            clear hd hE
            try clear hS
            go_wp2
            exact Ext.refl _
          case ha => rfl
          apply wpLoose_val rfl rfl
          case hs =>
            intro w1 hC hd Q1 hQ1
            obtain ⟨hE, hS⟩ := hC
            dsimp only [bare]
            obtain ⟨⟨r0, r1, r2, r3⟩, q0, q1, q2⟩ := hS; simp only [Nat.zero_add] at r0 r1 r2 r3
            clear hd hE
            try clear hS
            go_wp2
            exact Ext.refl _
          case ha => rfl
          apply wpLoose_val rfl rfl
          case hs =>
            intro w1 hC hd Q1 hQ1
            obtain ⟨hE, hS⟩ := hC
            dsimp only [bare]
            obtain ⟨⟨r0, r1, r2, r3⟩, q0, q1, q2⟩ := hS; simp only [Nat.zero_add] at r0 r1 r2 r3
            clear hd hE
            try clear hS
            go_wp2
            exact Ext.refl _
          case ha => rfl
          apply wpLoose_val rfl rfl
          case hs =>
            intro w1 hC hd Q1 hQ1
            obtain ⟨hE, hS⟩ := hC
            dsimp only [bare]
            obtain ⟨⟨r0, r1, r2, r3⟩, q0, q1, q2⟩ := hS; simp only [Nat.zero_add] at r0 r1 r2 r3
            clear hd hE
            try clear hS
            go_wp2
            exact Ext.refl _
          case ha => rfl
          refine wpLoose_nil ?_
          intro wb hEb hSb hFb
          have HT6 : Hid (StL ls s n gs gy gn gb b0 bx w wb ov l (7, kk, y, nn)) := StL.ext HT5.out.drew hEb
          clear hFb hSb hEb x1 x2 x3 HT5
          obtain ⟨v0, v1, v2, v3⟩ := HT6.out.2.2.2.1
          simp only [Nat.zero_add] at v0 v1 v2 v3
          have fz := HT6.out.2.2.2.2.1 1
          go_upto_region 21 with fail
          have HT : Hid (StL ls s n gs gy gn gb b0 bx w (wb.setCell ⟨bx, 1, none⟩ (.int .i64 ((B1 : Int) - (Bk : Int) - 1))) ov l (7, (B1 : Int) - (Bk : Int) - 1, y, nn)) := HT6.out.put 1 _ rfl
          clear v0 v1 v2 v3 fz HT6
          generalize wb.setCell ⟨bx, 1, none⟩ (.int .i64 ((B1 : Int) - (Bk : Int) - 1)) = W7 at *
          obtain ⟨v0, v1, v2, v3⟩ := HT.out.2.2.2.1
          simp only [Nat.zero_add] at v0 v1 v2 v3
          have hown : W7.ownsRow b0 35 4 ov l.length (flatI l) := HT.out.2.1
          have hz4 : b0 ≤ W7.heap.size := HT.out.1.2.2.2.2.2.1
          go_wp2_with (at_builtin; refine wpList_append_own _ rfl _ _ 30 rfl b0 35 i0 (.agg #[.int .i64 0, .int .i64 0, .int .i64 0, .int .i64 0]) 4 32 Try.underlying30 hi hz0 hz1 hz2 rfl (by decide) _ l.length _ rfl (hown.alloc _) ⟨W7.heap.size, 0, none⟩ 1 1 (ints4 7 ((B1 : Int) - (Bk : Int) - 1) y nn) rfl rfl ?c1 ?c2 ?c3 ?c4 ?c5 ?_)
          case c1 =>
            intro j u hu
            have := (CellsAt.new W7 (ints4 7 ((B1 : Int) - (Bk : Int) - 1) y nn) 35).2 j u hu
            first
              | (rw [Addr.add_lit, Nat.zero_add]; exact this)
              | exact hu
              | simpa using hu
          case c2 => intro u hu; simp [ints4] at hu; rcases hu with rfl | rfl | rfl | rfl <;> rfl
          case c3 => unfold maxLen; omega
          case c4 => omega
          case c5 => first | omega | (simp; omega)
          intro v' w8 hown8 hgrow8 _
          have HX8 : Hid (LayR ls s n gs gy gn gb b0 w w8 ∧ Own4 w8 b0 v' (l ++ ws) ∧ Own4 w8 w.heap.size (.slice (some ⟨w.heap.size, 0, none⟩) 0 0) []) := by
            have hxl : w.heap.size < W7.heap.size := (HT.out.2.2.1.lt w.heap.size rfl).2
            have hxn : some w.heap.size ≠ ov.ownBlock := fun e => by
              have h1 : b0 ≤ w.heap.size := own_from hown e.symm
              have h2 := HLT.out
              omega
            refine ⟨(HT.out.1.ext (Ext.one _ _)).app hgrow8 (fun x hx => own_from hown hx), ?_, own_block (HT.out.2.2.1.alloc _) (hgrow8.block w.heap.size (by simp; omega) hxn)⟩
            rw [HWW.out]
            have e : flatI l ++ (ints4 7 ((B1 : Int) - (Bk : Int) - 1) y nn) = flatI (l ++ [(7, ((B1 : Int) - (Bk : Int) - 1), y, nn)]) := by simp [flatI]
            rw [e] at hown8
            unfold Own4
            rw [List.length_append]
            exact hown8
          clear hgrow8 hown8 hown
          go_wp2
          go_roundw
          case rel => exact ⟨k + 1, by go_num, by omega, HX8.out.1, by rw [HN.out]; exact HX8.out.2.1, HX8.out.2.2⟩
          case measure => simp [intOf]; omega
          case hAb => kernel_rfl
          case hlb => exact ⟨trivial, trivial, trivial, trivial, trivial, trivial, trivial, trivial, trivial, trivial, trivial, trivial, trivial, trivial, trivial⟩
        · have q7 : (o == 7) = false := by simpa using h7
          have H7 : Hid (o ≠ 7) := h7
          obtain ⟨z2, hz2e⟩ : ∃ z, z = askB o := ⟨_, rfl⟩
          have HQ : Hid (∀ w, Calls Try.prog 53 #[.int .i64 o] w fun e w' => e = .returned (.bool z2) ∧ w = w') := fun w => by rw [hz2e]; exact ask_any o w
          obtain ⟨v0, v1, v2, v3⟩ := HT5.out.2.2.2.1
          simp only [Nat.zero_add] at v0 v1 v2 v3
          clear h7
          go_wp2_with fail
          refine (HQ.out _).mono ?_
          rintro e w6 ⟨rfl, rfl⟩
          cases z2 with
          | false =>
            have HWW : Hid (ws = [(o, kk, y, nn)]) := HWS.out.trans (words_other h1 HP.out hz2e.symm H7.out)
            have HT : Hid (StL ls s n gs gy gn gb b0 bx w W5 ov l (o, kk, y, nn)) := HT5.out
            clear xs hz2e HT5
            have hown : W5.ownsRow b0 35 4 ov l.length (flatI l) := HT.out.2.1
            have hz4 : b0 ≤ W5.heap.size := HT.out.1.2.2.2.2.2.1
            go_wp2_with (at_builtin; refine wpList_append_own _ rfl _ _ 30 rfl b0 35 i0 (.agg #[.int .i64 0, .int .i64 0, .int .i64 0, .int .i64 0]) 4 32 Try.underlying30 hi hz0 hz1 hz2 rfl (by decide) _ l.length _ rfl (hown.alloc _) ⟨W5.heap.size, 0, none⟩ 1 1 (ints4 o kk y nn) rfl rfl ?c1 ?c2 ?c3 ?c4 ?c5 ?_)
            case c1 =>
              intro j u hu
              have := (CellsAt.new W5 (ints4 o kk y nn) 35).2 j u hu
              first
                | (rw [Addr.add_lit, Nat.zero_add]; exact this)
                | exact hu
                | simpa using hu
            case c2 => intro u hu; simp [ints4] at hu; rcases hu with rfl | rfl | rfl | rfl <;> rfl
            case c3 => unfold maxLen; omega
            case c4 => omega
            case c5 => first | omega | (simp; omega)
            intro v' w8 hown8 hgrow8 _
            have HX8 : Hid (LayR ls s n gs gy gn gb b0 w w8 ∧ Own4 w8 b0 v' (l ++ ws) ∧ Own4 w8 w.heap.size (.slice (some ⟨w.heap.size, 0, none⟩) 0 0) []) := by
              have hxl : w.heap.size < W5.heap.size := (HT.out.2.2.1.lt w.heap.size rfl).2
              have hxn : some w.heap.size ≠ ov.ownBlock := fun e => by
                have h1 : b0 ≤ w.heap.size := own_from hown e.symm
                have h2 := HLT.out
                omega
              refine ⟨(HT.out.1.ext (Ext.one _ _)).app hgrow8 (fun x hx => own_from hown hx), ?_, own_block (HT.out.2.2.1.alloc _) (hgrow8.block w.heap.size (by simp; omega) hxn)⟩
              rw [HWW.out]
              have e : flatI l ++ (ints4 o kk y nn) = flatI (l ++ [(o, kk, y, nn)]) := by simp [flatI]
              rw [e] at hown8
              unfold Own4
              rw [List.length_append]
              exact hown8
            clear hgrow8 hown8 hown
            go_wp2
            go_roundw
            case rel => exact ⟨k + 1, by go_num, by omega, HX8.out.1, by rw [HN.out]; exact HX8.out.2.1, HX8.out.2.2⟩
            case measure => simp [intOf]; omega
          | true =>
            obtain ⟨hw3, on1, on2⟩ := words_ask HA.out.2.2.1 HA.out.2.2.2 HKL.out h1 HP.out hz2e.symm
            have HON : Hid (onP ls k yes) := on1
            have x1 := (HT5.out.1.2.1.2 k hlt).1
            dsimp only at x1
            rw [← HP.out] at x1
            simp only at x1
            rw [wayV_on HA.out.2.2.1 HON.out] at x1
            have hb1 : pos ls yes < n := by have := HA.out.2.1; have := HON.out.2; omega
            have x2 := (HT5.out.1.2.2.2.1.2 _ hb1).1
            have x3 := (HT5.out.1.2.2.2.1.2 _ hlt).1
            dsimp only at x2 x3
            have u1 := HCB.out _ hb1
            have u3 := HCB.out _ hlt
            have HON2 : Hid (onP ls k no) := on2
            have x4 := (HT5.out.1.2.2.1.2 k hlt).1
            dsimp only at x4
            rw [← HP.out] at x4
            simp only at x4
            rw [wayV_on HA.out.2.2.1 HON2.out] at x4
            have hb2 : pos ls no < n := by have := HA.out.2.1; have := HON2.out.2; omega
            have x5 := (HT5.out.1.2.2.2.1.2 _ hb2).1
            dsimp only at x5
            have u2 := HCB.out _ hb2
            have HWW : Hid (ws = [(o, kk, (cnt s (pos ls yes) : Int) - (cnt s k : Int) - 1, (cnt s (pos ls no) : Int) - (cnt s k : Int) - 1)]) := HWS.out.trans hw3
            clear hw3 on1 on2 HON HON2 xs hz2e v0 v1 v2 v3
            generalize pos ls yes = p1 at *
            generalize cnt s p1 = B1 at *
            generalize cnt s k = Bk at *
            have bb1 : (p1 : Int) < (n : Int) := by omega
            generalize pos ls no = p2 at *
            generalize cnt s p2 = B2 at *
            have bb2 : (p2 : Int) < (n : Int) := by omega
            go_wp2_with fail
            refine' wp_region_loose_tail 14 (.inl _ :: .inl _ :: .inl _ :: .inl _ :: .inl _ :: .inl _ :: .inl _ :: .inl _ :: .inl _ :: .inl _ :: .inl _ :: .inl _ :: .inl _ :: .inl _ :: []) (fun w' => Quad w' bx 0 (o, kk, y, nn) ∧ w'.cell? ⟨gy, k, none⟩ = some (.int .i64 (p1 : Int)) ∧ w'.cell? ⟨gb, p1, none⟩ = some (.int .i64 (B1 : Int)) ∧ w'.cell? ⟨gb, k, none⟩ = some (.int .i64 (Bk : Int)) ∧ w'.cell? ⟨gn, k, none⟩ = some (.int .i64 (p2 : Int)) ∧ w'.cell? ⟨gb, p2, none⟩ = some (.int .i64 (B2 : Int))) (by kernel_rfl) (by kernel_rfl) (⟨HT5.out.2.2.2.1, x1, x2, x3, x4, x5⟩) (fun _ _ h hE => ⟨h.1.below hE h.1.lt, (hE.cell (p := ⟨gy, k, none⟩) (World.block_lt_of_cell? _ _ h.2.1)).trans h.2.1, (hE.cell (p := ⟨gb, p1, none⟩) (World.block_lt_of_cell? _ _ h.2.2.1)).trans h.2.2.1, (hE.cell (p := ⟨gb, k, none⟩) (World.block_lt_of_cell? _ _ h.2.2.2.1)).trans h.2.2.2.1, (hE.cell (p := ⟨gn, k, none⟩) (World.block_lt_of_cell? _ _ h.2.2.2.2.1)).trans h.2.2.2.2.1, (hE.cell (p := ⟨gb, p2, none⟩) (World.block_lt_of_cell? _ _ h.2.2.2.2.2)).trans h.2.2.2.2.2⟩) ?hAc ?hlc ?hMc
            case' hMc => skip
            simp only [List.take_succ_cons, List.take_zero, List.drop_succ_cons, List.drop_zero]
            apply wpLoose_val rfl rfl
            case hs =>
              intro w1 hC hd Q1 hQ1
              obtain ⟨hE, hS⟩ := hC
              dsimp only [bare]
              obtain ⟨⟨r0, r1, r2, r3⟩, q0, q1, q2, q3, q4⟩ := hS; simp only [Nat.zero_add] at r0 r1 r2 r3
              clear hd hE
              try clear hS
              go_wp2
              exact Ext.refl _
            case ha => rfl
            apply wpLoose_val rfl rfl
            case hs =>
              intro w1 hC hd Q1 hQ1
              obtain ⟨hE, hS⟩ := hC
              dsimp only [bare]
              obtain ⟨⟨r0, r1, r2, r3⟩, q0, q1, q2, q3, q4⟩ := hS; simp only [Nat.zero_add] at r0 r1 r2 r3
              clear hd hE
              try clear hS
              go_wp2
              exact Ext.refl _
            case ha => rfl
            apply wpLoose_val rfl rfl
            case hs =>
              intro w1 hC hd Q1 hQ1
              obtain ⟨hE, hS⟩ := hC
              dsimp only [bare]
              obtain ⟨⟨r0, r1, r2, r3⟩, q0, q1, q2, q3, q4⟩ := hS; simp only [Nat.zero_add] at r0 r1 r2 r3
              clear hd hE
              try clear hS
              go_wp2
              exact Ext.refl _
            case ha => rfl
            apply wpLoose_val rfl rfl
            case hs =>
              intro w1 hC hd Q1 hQ1
              obtain ⟨hE, hS⟩ := hC
              dsimp only [bare]
              obtain ⟨⟨r0, r1, r2, r3⟩, q0, q1, q2, q3, q4⟩ := hS; simp only [Nat.zero_add] at r0 r1 r2 r3
              clear hd hE
              try clear hS
              go_wp2
              exact Ext.refl _
            case ha => rfl
            apply wpLoose_val rfl rfl
            case hs =>
              intro w1 hC hd Q1 hQ1
              obtain ⟨hE, hS⟩ := hC
              dsimp only [bare]
              obtain ⟨⟨r0, r1, r2, r3⟩, q0, q1, q2, q3, q4⟩ := hS; simp only [Nat.zero_add] at r0 r1 r2 r3
              clear hd hE
              try clear hS
              go_wp2
              exact Ext.refl _
            case ha => rfl
            apply wpLoose_val rfl rfl
            case hs =>
              intro w1 hC hd Q1 hQ1
              obtain ⟨hE, hS⟩ := hC
              dsimp only [bare]
              obtain ⟨⟨r0, r1, r2, r3⟩, q0, q1, q2, q3, q4⟩ := hS; simp only [Nat.zero_add] at r0 r1 r2 r3
              clear hd hE
              try clear hS
              go_wp2
              exact Ext.refl _
            case ha => rfl
            apply wpLoose_val rfl rfl
            case hs =>
              intro w1 hC hd Q1 hQ1
              obtain ⟨hE, hS⟩ := hC
              dsimp only [bare]
              obtain ⟨⟨r0, r1, r2, r3⟩, q0, q1, q2, q3, q4⟩ := hS; simp only [Nat.zero_add] at r0 r1 r2 r3
              clear hd hE
              try clear hS
              go_wp2
              exact Ext.refl _
            case ha => rfl
            apply wpLoose_val rfl rfl
            case hs =>
              intro w1 hC hd Q1 hQ1
              obtain ⟨hE, hS⟩ := hC
              dsimp only [bare]
              obtain ⟨⟨r0, r1, r2, r3⟩, q0, q1, q2, q3, q4⟩ := hS; simp only [Nat.zero_add] at r0 r1 r2 r3
              clear hd hE
              try clear hS
              go_wp2
              exact Ext.refl _
            case ha => rfl
            apply wpLoose_val rfl rfl
            case hs =>
              intro w1 hC hd Q1 hQ1
              obtain ⟨hE, hS⟩ := hC
              dsimp only [bare]
              obtain ⟨⟨r0, r1, r2, r3⟩, q0, q1, q2, q3, q4⟩ := hS; simp only [Nat.zero_add] at r0 r1 r2 r3
              clear hd hE
              try clear hS
              go_wp2
              exact Ext.refl _
            case ha => rfl
            apply wpLoose_val rfl rfl
            case hs =>
              intro w1 hC hd Q1 hQ1
              obtain ⟨hE, hS⟩ := hC
              dsimp only [bare]
              obtain ⟨⟨r0, r1, r2, r3⟩, q0, q1, q2, q3, q4⟩ := hS; simp only [Nat.zero_add] at r0 r1 r2 r3
              clear hd hE
              try clear hS
              go_wp2
              exact Ext.refl _
            case ha => rfl
            apply wpLoose_val rfl rfl
            case hs =>
              intro w1 hC hd Q1 hQ1
              obtain ⟨hE, hS⟩ := hC
              dsimp only [bare]
              obtain ⟨⟨r0, r1, r2, r3⟩, q0, q1, q2, q3, q4⟩ := hS; simp only [Nat.zero_add] at r0 r1 r2 r3
              clear hd hE
              try clear hS
              go_wp2
              exact Ext.refl _
            case ha => rfl
            apply wpLoose_val rfl rfl
            case hs =>
              intro w1 hC hd Q1 hQ1
              obtain ⟨hE, hS⟩ := hC
              dsimp only [bare]
              obtain ⟨⟨r0, r1, r2, r3⟩, q0, q1, q2, q3, q4⟩ := hS; simp only [Nat.zero_add] at r0 r1 r2 r3
              clear hd hE
              try clear hS
              go_wp2
              exact Ext.refl _
            case ha => rfl
            apply wpLoose_val rfl rfl
            case hs =>
              intro w1 hC hd Q1 hQ1
              obtain ⟨hE, hS⟩ := hC
              dsimp only [bare]
              obtain ⟨⟨r0, r1, r2, r3⟩, q0, q1, q2, q3, q4⟩ := hS; simp only [Nat.zero_add] at r0 r1 r2 r3
              clear hd hE
              try clear hS
              go_wp2
              exact Ext.refl _
            case ha => rfl
            apply wpLoose_val rfl rfl
            case hs =>
              intro w1 hC hd Q1 hQ1
              obtain ⟨hE, hS⟩ := hC
              dsimp only [bare]
              obtain ⟨⟨r0, r1, r2, r3⟩, q0, q1, q2, q3, q4⟩ := hS; simp only [Nat.zero_add] at r0 r1 r2 r3
              clear hd hE
              try clear hS
              go_wp2
              exact Ext.refl _
            case ha => rfl
            refine wpLoose_nil ?_
            intro wc hEc hSc hFc
            have HT6 : Hid (StL ls s n gs gy gn gb b0 bx w wc ov l (o, kk, y, nn)) := StL.ext HT5.out.drew hEc
            have X6 : Hid (wc.cell? ⟨gy, k, none⟩ = some (.int .i64 (p1 : Int)) ∧ wc.cell? ⟨gb, p1, none⟩ = some (.int .i64 (B1 : Int)) ∧ wc.cell? ⟨gb, k, none⟩ = some (.int .i64 (Bk : Int)) ∧ wc.cell? ⟨gn, k, none⟩ = some (.int .i64 (p2 : Int)) ∧ wc.cell? ⟨gb, p2, none⟩ = some (.int .i64 (B2 : Int))) := hSc.2
            clear hFc hSc hEc x1 x2 x3 x4 x5 HT5
            obtain ⟨v0, v1, v2, v3⟩ := HT6.out.2.2.2.1
            simp only [Nat.zero_add] at v0 v1 v2 v3
            have fz := HT6.out.2.2.2.2.1 2
            go_upto_region 20 with fail
            have HT7 : Hid (StL ls s n gs gy gn gb b0 bx w (wc.setCell ⟨bx, 2, none⟩ (.int .i64 ((B1 : Int) - (Bk : Int) - 1))) ov l (o, kk, (B1 : Int) - (Bk : Int) - 1, nn)) := HT6.out.put 2 _ rfl
            have X7 : Hid ((wc.setCell ⟨bx, 2, none⟩ (.int .i64 ((B1 : Int) - (Bk : Int) - 1))).cell? ⟨gy, k, none⟩ = some (.int .i64 (p1 : Int)) ∧ (wc.setCell ⟨bx, 2, none⟩ (.int .i64 ((B1 : Int) - (Bk : Int) - 1))).cell? ⟨gb, p1, none⟩ = some (.int .i64 (B1 : Int)) ∧ (wc.setCell ⟨bx, 2, none⟩ (.int .i64 ((B1 : Int) - (Bk : Int) - 1))).cell? ⟨gb, k, none⟩ = some (.int .i64 (Bk : Int)) ∧ (wc.setCell ⟨bx, 2, none⟩ (.int .i64 ((B1 : Int) - (Bk : Int) - 1))).cell? ⟨gn, k, none⟩ = some (.int .i64 (p2 : Int)) ∧ (wc.setCell ⟨bx, 2, none⟩ (.int .i64 ((B1 : Int) - (Bk : Int) - 1))).cell? ⟨gb, p2, none⟩ = some (.int .i64 (B2 : Int))) := by
              obtain ⟨g5, g6, g7, g8⟩ := HT6.out.1.2.2.2.2.1
              have hbx := HT6.out.2.2.2.2.2.2.1
              obtain ⟨e1, e2, e3, e4, e5⟩ := X6.out
              exact ⟨(set_far (fun e => by injection e with e; omega)).trans e1, (set_far (fun e => by injection e with e; omega)).trans e2, (set_far (fun e => by injection e with e; omega)).trans e3, (set_far (fun e => by injection e with e; omega)).trans e4, (set_far (fun e => by injection e with e; omega)).trans e5⟩
            clear v0 v1 v2 v3 fz HT6 X6
            generalize wc.setCell ⟨bx, 2, none⟩ (.int .i64 ((B1 : Int) - (Bk : Int) - 1)) = W7 at *
            obtain ⟨x1, x2, x3, x4, x5⟩ := X7.out
            refine' wp_region_loose_tail 14 (.inl _ :: .inl _ :: .inl _ :: .inl _ :: .inl _ :: .inl _ :: .inl _ :: .inl _ :: .inl _ :: .inl _ :: .inl _ :: .inl _ :: .inl _ :: .inl _ :: []) (fun w' => Quad w' bx 0 (o, kk, (B1 : Int) - (Bk : Int) - 1, nn) ∧ w'.cell? ⟨gy, k, none⟩ = some (.int .i64 (p1 : Int)) ∧ w'.cell? ⟨gb, p1, none⟩ = some (.int .i64 (B1 : Int)) ∧ w'.cell? ⟨gb, k, none⟩ = some (.int .i64 (Bk : Int)) ∧ w'.cell? ⟨gn, k, none⟩ = some (.int .i64 (p2 : Int)) ∧ w'.cell? ⟨gb, p2, none⟩ = some (.int .i64 (B2 : Int))) (by kernel_rfl) (by kernel_rfl) (⟨HT7.out.2.2.2.1, x1, x2, x3, x4, x5⟩) (fun _ _ h hE => ⟨h.1.below hE h.1.lt, (hE.cell (p := ⟨gy, k, none⟩) (World.block_lt_of_cell? _ _ h.2.1)).trans h.2.1, (hE.cell (p := ⟨gb, p1, none⟩) (World.block_lt_of_cell? _ _ h.2.2.1)).trans h.2.2.1, (hE.cell (p := ⟨gb, k, none⟩) (World.block_lt_of_cell? _ _ h.2.2.2.1)).trans h.2.2.2.1, (hE.cell (p := ⟨gn, k, none⟩) (World.block_lt_of_cell? _ _ h.2.2.2.2.1)).trans h.2.2.2.2.1, (hE.cell (p := ⟨gb, p2, none⟩) (World.block_lt_of_cell? _ _ h.2.2.2.2.2)).trans h.2.2.2.2.2⟩) ?hAd ?hld ?hMd
            case' hMd => skip
            simp only [List.take_succ_cons, List.take_zero, List.drop_succ_cons, List.drop_zero]
            apply wpLoose_val rfl rfl
            case hs =>
              intro w1 hC hd Q1 hQ1
              obtain ⟨hE, hS⟩ := hC
              dsimp only [bare]
              obtain ⟨⟨r0, r1, r2, r3⟩, q0, q1, q2, q3, q4⟩ := hS; simp only [Nat.zero_add] at r0 r1 r2 r3
              clear hd hE
              try clear hS
              go_wp2
              exact Ext.refl _
            case ha => rfl
            apply wpLoose_val rfl rfl
            case hs =>
              intro w1 hC hd Q1 hQ1
              obtain ⟨hE, hS⟩ := hC
              dsimp only [bare]
              obtain ⟨⟨r0, r1, r2, r3⟩, q0, q1, q2, q3, q4⟩ := hS; simp only [Nat.zero_add] at r0 r1 r2 r3
              clear hd hE
              try clear hS
              go_wp2
              exact Ext.refl _
            case ha => rfl
            apply wpLoose_val rfl rfl
            case hs =>
              intro w1 hC hd Q1 hQ1
              obtain ⟨hE, hS⟩ := hC
              dsimp only [bare]
              obtain ⟨⟨r0, r1, r2, r3⟩, q0, q1, q2, q3, q4⟩ := hS; simp only [Nat.zero_add] at r0 r1 r2 r3
              clear hd hE
              try clear hS
              go_wp2
              exact Ext.refl _
            case ha => rfl
            apply wpLoose_val rfl rfl
            case hs =>
              intro w1 hC hd Q1 hQ1
              obtain ⟨hE, hS⟩ := hC
              dsimp only [bare]
              obtain ⟨⟨r0, r1, r2, r3⟩, q0, q1, q2, q3, q4⟩ := hS; simp only [Nat.zero_add] at r0 r1 r2 r3
              clear hd hE
              try clear hS
              go_wp2
              exact Ext.refl _
            case ha => rfl
            apply wpLoose_val rfl rfl
            case hs =>
              intro w1 hC hd Q1 hQ1
              obtain ⟨hE, hS⟩ := hC
              dsimp only [bare]
              obtain ⟨⟨r0, r1, r2, r3⟩, q0, q1, q2, q3, q4⟩ := hS; simp only [Nat.zero_add] at r0 r1 r2 r3
              clear hd hE
              try clear hS
              go_wp2
              exact Ext.refl _
            case ha => rfl
            apply wpLoose_val rfl rfl
            case hs =>
              intro w1 hC hd Q1 hQ1
              obtain ⟨hE, hS⟩ := hC
              dsimp only [bare]
              obtain ⟨⟨r0, r1, r2, r3⟩, q0, q1, q2, q3, q4⟩ := hS; simp only [Nat.zero_add] at r0 r1 r2 r3
              clear hd hE
              try clear hS
              go_wp2
              exact Ext.refl _
            case ha => rfl
            apply wpLoose_val rfl rfl
            case hs =>
              intro w1 hC hd Q1 hQ1
              obtain ⟨hE, hS⟩ := hC
              dsimp only [bare]
              obtain ⟨⟨r0, r1, r2, r3⟩, q0, q1, q2, q3, q4⟩ := hS; simp only [Nat.zero_add] at r0 r1 r2 r3
              clear hd hE
              try clear hS
              go_wp2
              exact Ext.refl _
            case ha => rfl
            apply wpLoose_val rfl rfl
            case hs =>
              intro w1 hC hd Q1 hQ1
              obtain ⟨hE, hS⟩ := hC
              dsimp only [bare]
              obtain ⟨⟨r0, r1, r2, r3⟩, q0, q1, q2, q3, q4⟩ := hS; simp only [Nat.zero_add] at r0 r1 r2 r3
              clear hd hE
              try clear hS
              go_wp2
              exact Ext.refl _
            case ha => rfl
            apply wpLoose_val rfl rfl
            case hs =>
              intro w1 hC hd Q1 hQ1
              obtain ⟨hE, hS⟩ := hC
              dsimp only [bare]
              obtain ⟨⟨r0, r1, r2, r3⟩, q0, q1, q2, q3, q4⟩ := hS; simp only [Nat.zero_add] at r0 r1 r2 r3
              clear hd hE
              try clear hS
              go_wp2
              exact Ext.refl _
            case ha => rfl
            apply wpLoose_val rfl rfl
            case hs =>
              intro w1 hC hd Q1 hQ1
              obtain ⟨hE, hS⟩ := hC
              dsimp only [bare]
              obtain ⟨⟨r0, r1, r2, r3⟩, q0, q1, q2, q3, q4⟩ := hS; simp only [Nat.zero_add] at r0 r1 r2 r3
              clear hd hE
              try clear hS
              go_wp2
              exact Ext.refl _
            case ha => rfl
            apply wpLoose_val rfl rfl
            case hs =>
              intro w1 hC hd Q1 hQ1
              obtain ⟨hE, hS⟩ := hC
              dsimp only [bare]
              obtain ⟨⟨r0, r1, r2, r3⟩, q0, q1, q2, q3, q4⟩ := hS; simp only [Nat.zero_add] at r0 r1 r2 r3
              clear hd hE
              try clear hS
              go_wp2
              exact Ext.refl _
            case ha => rfl
            apply wpLoose_val rfl rfl
            case hs =>
              intro w1 hC hd Q1 hQ1
              obtain ⟨hE, hS⟩ := hC
              dsimp only [bare]
              obtain ⟨⟨r0, r1, r2, r3⟩, q0, q1, q2, q3, q4⟩ := hS; simp only [Nat.zero_add] at r0 r1 r2 r3
              clear hd hE
              try clear hS
              go_wp2
              exact Ext.refl _
            case ha => rfl
            apply wpLoose_val rfl rfl
            case hs =>
              intro w1 hC hd Q1 hQ1
              obtain ⟨hE, hS⟩ := hC
              dsimp only [bare]
              obtain ⟨⟨r0, r1, r2, r3⟩, q0, q1, q2, q3, q4⟩ := hS; simp only [Nat.zero_add] at r0 r1 r2 r3
              clear hd hE
              try clear hS
              go_wp2
              exact Ext.refl _
            case ha => rfl
            apply wpLoose_val rfl rfl
            case hs =>
              intro w1 hC hd Q1 hQ1
              obtain ⟨hE, hS⟩ := hC
              dsimp only [bare]
              obtain ⟨⟨r0, r1, r2, r3⟩, q0, q1, q2, q3, q4⟩ := hS; simp only [Nat.zero_add] at r0 r1 r2 r3
              clear hd hE
              try clear hS
              go_wp2
              exact Ext.refl _
            case ha => rfl
            refine wpLoose_nil ?_
            intro wd hEd hSd hFd
            have HT8 : Hid (StL ls s n gs gy gn gb b0 bx w wd ov l (o, kk, (B1 : Int) - (Bk : Int) - 1, nn)) := StL.ext HT7.out.drew hEd
            clear hFd hSd hEd x1 x2 x3 x4 x5 HT7 X7
            obtain ⟨v0, v1, v2, v3⟩ := HT8.out.2.2.2.1
            simp only [Nat.zero_add] at v0 v1 v2 v3
            have fz := HT8.out.2.2.2.2.1 3
            go_upto_region 21 with fail
            have HT : Hid (StL ls s n gs gy gn gb b0 bx w (wd.setCell ⟨bx, 3, none⟩ (.int .i64 ((B2 : Int) - (Bk : Int) - 1))) ov l (o, kk, (B1 : Int) - (Bk : Int) - 1, (B2 : Int) - (Bk : Int) - 1)) := HT8.out.put 3 _ rfl
            clear v0 v1 v2 v3 fz HT8
            generalize wd.setCell ⟨bx, 3, none⟩ (.int .i64 ((B2 : Int) - (Bk : Int) - 1)) = W9 at *
            obtain ⟨v0, v1, v2, v3⟩ := HT.out.2.2.2.1
            simp only [Nat.zero_add] at v0 v1 v2 v3
            have hown : W9.ownsRow b0 35 4 ov l.length (flatI l) := HT.out.2.1
            have hz4 : b0 ≤ W9.heap.size := HT.out.1.2.2.2.2.2.1
            go_wp2_with (at_builtin; refine wpList_append_own _ rfl _ _ 30 rfl b0 35 i0 (.agg #[.int .i64 0, .int .i64 0, .int .i64 0, .int .i64 0]) 4 32 Try.underlying30 hi hz0 hz1 hz2 rfl (by decide) _ l.length _ rfl (hown.alloc _) ⟨W9.heap.size, 0, none⟩ 1 1 (ints4 o kk ((B1 : Int) - (Bk : Int) - 1) ((B2 : Int) - (Bk : Int) - 1)) rfl rfl ?c1 ?c2 ?c3 ?c4 ?c5 ?_)
            case c1 =>
              intro j u hu
              have := (CellsAt.new W9 (ints4 o kk ((B1 : Int) - (Bk : Int) - 1) ((B2 : Int) - (Bk : Int) - 1)) 35).2 j u hu
              first
                | (rw [Addr.add_lit, Nat.zero_add]; exact this)
                | exact hu
                | simpa using hu
            case c2 => intro u hu; simp [ints4] at hu; rcases hu with rfl | rfl | rfl | rfl <;> rfl
            case c3 => unfold maxLen; omega
            case c4 => omega
            case c5 => first | omega | (simp; omega)
            intro v' w8 hown8 hgrow8 _
            have HX8 : Hid (LayR ls s n gs gy gn gb b0 w w8 ∧ Own4 w8 b0 v' (l ++ ws) ∧ Own4 w8 w.heap.size (.slice (some ⟨w.heap.size, 0, none⟩) 0 0) []) := by
              have hxl : w.heap.size < W9.heap.size := (HT.out.2.2.1.lt w.heap.size rfl).2
              have hxn : some w.heap.size ≠ ov.ownBlock := fun e => by
                have h1 : b0 ≤ w.heap.size := own_from hown e.symm
                have h2 := HLT.out
                omega
              refine ⟨(HT.out.1.ext (Ext.one _ _)).app hgrow8 (fun x hx => own_from hown hx), ?_, own_block (HT.out.2.2.1.alloc _) (hgrow8.block w.heap.size (by simp; omega) hxn)⟩
              rw [HWW.out]
              have e : flatI l ++ (ints4 o kk ((B1 : Int) - (Bk : Int) - 1) ((B2 : Int) - (Bk : Int) - 1)) = flatI (l ++ [(o, kk, ((B1 : Int) - (Bk : Int) - 1), ((B2 : Int) - (Bk : Int) - 1))]) := by simp [flatI]
              rw [e] at hown8
              unfold Own4
              rw [List.length_append]
              exact hown8
            clear hgrow8 hown8 hown
            go_wp2
            go_roundw
            case rel => exact ⟨k + 1, by go_num, by omega, HX8.out.1, by rw [HN.out]; exact HX8.out.2.1, HX8.out.2.2⟩
            case measure => simp [intOf]; omega
            case hAd => kernel_rfl
            case hld => exact ⟨trivial, trivial, trivial, trivial, trivial, trivial, trivial, trivial, trivial, trivial, trivial, trivial, trivial, trivial, trivial⟩
            case hAc => kernel_rfl
            case hlc => exact ⟨trivial, trivial, trivial, trivial, trivial, trivial, trivial, trivial, trivial, trivial, trivial, trivial, trivial, trivial, trivial⟩
      · obtain ⟨hw3, on1, on2⟩ := words_three HA.out.2.2.1 HA.out.2.2.2 HKL.out h3 HP.out
        rw [h3] at xs
        obtain ⟨v0, v1, v2, v3⟩ := HT5.out.2.2.2.1
        simp only [Nat.zero_add] at v0 v1 v2 v3
        have fz := HT5.out.2.2.2.2.1 3
        go_upto_region 15 with fail
        clear v0 v1 v2 v3 fz
        have HT6 : Hid (StL ls s n gs gy gn gb b0 bx w (W5.setCell ⟨bx, 3, none⟩ (.int .i64 1)) ov l (o, kk, y, 1)) := HT5.out.put 3 1 rfl
        clear HT5 xs
        generalize W5.setCell ⟨bx, 3, none⟩ (.int .i64 1) = W6 at *
        go_wp2_with fail
        have HON : Hid (onP ls k yes) := on1
        have x1 := (HT6.out.1.2.1.2 k hlt).1
        dsimp only at x1
        rw [← HP.out] at x1
        simp only at x1
        rw [wayV_on HA.out.2.2.1 HON.out] at x1
        have hb1 : pos ls yes < n := by have := HA.out.2.1; have := HON.out.2; omega
        have x2 := (HT6.out.1.2.2.2.1.2 _ hb1).1
        have x3 := (HT6.out.1.2.2.2.1.2 _ hlt).1
        dsimp only at x2 x3
        have u1 := HCB.out _ hb1
        have u3 := HCB.out _ hlt
        have HON2 : Hid (onP ls k no) := on2
        have x4 := (HT6.out.1.2.2.1.2 k hlt).1
        dsimp only at x4
        rw [← HP.out] at x4
        simp only at x4
        rw [wayV_on HA.out.2.2.1 HON2.out] at x4
        have hb2 : pos ls no < n := by have := HA.out.2.1; have := HON2.out.2; omega
        have x5 := (HT6.out.1.2.2.2.1.2 _ hb2).1
        dsimp only at x5
        have u2 := HCB.out _ hb2
        have HWW0 : Hid (ws = [(o, kk, y, 1), (7, (cnt s (pos ls yes) : Int) - (cnt s k : Int) - 2, 0, 0), (7, (cnt s (pos ls no) : Int) - (cnt s k : Int) - 3, 0, 0)]) := HWS.out.trans hw3
        have HWW : Hid (ws = [(o, kk, y, 1), (7, (cnt s (pos ls yes) : Int) - (cnt s k : Int) - 2, 0, 0), (7, (cnt s (pos ls no) : Int) - (cnt s k : Int) - 3, 0, 0)]) := HWW0.out
        clear HWW0 hw3 on1 on2 HON HON2
        generalize pos ls yes = p1 at *
        generalize cnt s p1 = B1 at *
        generalize cnt s k = Bk at *
        have bb1 : (p1 : Int) < (n : Int) := by omega
        generalize pos ls no = p2 at *
        generalize cnt s p2 = B2 at *
        have bb2 : (p2 : Int) < (n : Int) := by omega
        refine' wp_region_loose_tail 31 (.inl _ :: .inl _ :: .inl _ :: .inl _ :: .inl _ :: .inl _ :: .inl _ :: .inl _ :: .inl _ :: .inl _ :: .inl _ :: .inl _ :: .inl _ :: .inl _ :: .inl _ :: .inl _ :: .inl _ :: .inl _ :: .inl _ :: .inl _ :: .inl _ :: .inl _ :: .inl _ :: .inl _ :: .inl _ :: .inl _ :: .inl _ :: .inl _ :: .inl _ :: .inl _ :: .inr (fun v w' => ∃ g, v = .slice (some ⟨g, 0, none⟩) 3 3 ∧ CellsAt w' g (ints4 o kk y 1 ++ ints4 7 ((B1 : Int) - (Bk : Int) - 2) 0 0 ++ ints4 7 ((B2 : Int) - (Bk : Int) - 3) 0 0)) :: []) (fun w' => Quad w' bx 0 (o, kk, y, 1) ∧ w'.cell? ⟨gy, k, none⟩ = some (.int .i64 (p1 : Int)) ∧ w'.cell? ⟨gb, p1, none⟩ = some (.int .i64 (B1 : Int)) ∧ w'.cell? ⟨gb, k, none⟩ = some (.int .i64 (Bk : Int)) ∧ w'.cell? ⟨gn, k, none⟩ = some (.int .i64 (p2 : Int)) ∧ w'.cell? ⟨gb, p2, none⟩ = some (.int .i64 (B2 : Int))) (by kernel_rfl) (by kernel_rfl) (⟨HT6.out.2.2.2.1, x1, x2, x3, x4, x5⟩) (fun _ _ h hE => ⟨h.1.below hE h.1.lt, (hE.cell (p := ⟨gy, k, none⟩) (World.block_lt_of_cell? _ _ h.2.1)).trans h.2.1, (hE.cell (p := ⟨gb, p1, none⟩) (World.block_lt_of_cell? _ _ h.2.2.1)).trans h.2.2.1, (hE.cell (p := ⟨gb, k, none⟩) (World.block_lt_of_cell? _ _ h.2.2.2.1)).trans h.2.2.2.1, (hE.cell (p := ⟨gn, k, none⟩) (World.block_lt_of_cell? _ _ h.2.2.2.2.1)).trans h.2.2.2.2.1, (hE.cell (p := ⟨gb, p2, none⟩) (World.block_lt_of_cell? _ _ h.2.2.2.2.2)).trans h.2.2.2.2.2⟩) ?hAa ?hla ?hMa
        case' hMa => skip
        simp only [List.take_succ_cons, List.take_zero, List.drop_succ_cons, List.drop_zero]
        apply wpLoose_val rfl rfl
        case hs =>
          intro w1 hC hd Q1 hQ1
          obtain ⟨hE, hS⟩ := hC
          dsimp only [bare]
          obtain ⟨⟨r0, r1, r2, r3⟩, q0, q1, q2, q3, q4⟩ := hS; simp only [Nat.zero_add] at r0 r1 r2 r3
          clear hd hE
          try clear hS
          go_wp2
          exact Ext.refl _
        case ha => rfl
        apply wpLoose_val rfl rfl
        case hs =>
          intro w1 hC hd Q1 hQ1
          obtain ⟨hE, hS⟩ := hC
          dsimp only [bare]
          obtain ⟨⟨r0, r1, r2, r3⟩, q0, q1, q2, q3, q4⟩ := hS; simp only [Nat.zero_add] at r0 r1 r2 r3
          clear hd hE
          try clear hS
          go_wp2
          exact Ext.refl _
        case ha => rfl
        apply wpLoose_val rfl rfl
        case hs =>
          intro w1 hC hd Q1 hQ1
          obtain ⟨hE, hS⟩ := hC
          dsimp only [bare]
          obtain ⟨⟨r0, r1, r2, r3⟩, q0, q1, q2, q3, q4⟩ := hS; simp only [Nat.zero_add] at r0 r1 r2 r3
          clear hd hE
          try clear hS
          go_wp2
          exact Ext.refl _
        case ha => rfl
        apply wpLoose_val rfl rfl
        case hs =>
          intro w1 hC hd Q1 hQ1
          obtain ⟨hE, hS⟩ := hC
          dsimp only [bare]
          obtain ⟨⟨r0, r1, r2, r3⟩, q0, q1, q2, q3, q4⟩ := hS; simp only [Nat.zero_add] at r0 r1 r2 r3
          clear hd hE
          try clear hS
          go_wp2
          exact Ext.refl _
        case ha => rfl
        apply wpLoose_val rfl rfl
        case hs =>
          intro w1 hC hd Q1 hQ1
          obtain ⟨hE, hS⟩ := hC
          dsimp only [bare]
          obtain ⟨⟨r0, r1, r2, r3⟩, q0, q1, q2, q3, q4⟩ := hS; simp only [Nat.zero_add] at r0 r1 r2 r3
          clear hd hE
          try clear hS
          go_wp2
          exact Ext.refl _
        case ha => rfl
        apply wpLoose_val rfl rfl
        case hs =>
          intro w1 hC hd Q1 hQ1
          obtain ⟨hE, hS⟩ := hC
          dsimp only [bare]
          obtain ⟨⟨r0, r1, r2, r3⟩, q0, q1, q2, q3, q4⟩ := hS; simp only [Nat.zero_add] at r0 r1 r2 r3
          clear hd hE
          try clear hS
          go_wp2
          exact Ext.refl _
        case ha => rfl
        apply wpLoose_val rfl rfl
        case hs =>
          intro w1 hC hd Q1 hQ1
          obtain ⟨hE, hS⟩ := hC
          dsimp only [bare]
          obtain ⟨⟨r0, r1, r2, r3⟩, q0, q1, q2, q3, q4⟩ := hS; simp only [Nat.zero_add] at r0 r1 r2 r3
          clear hd hE
          try clear hS
          go_wp2
          exact Ext.refl _
        case ha => rfl
        apply wpLoose_val rfl rfl
        case hs =>
          intro w1 hC hd Q1 hQ1
          obtain ⟨hE, hS⟩ := hC
          dsimp only [bare]
          obtain ⟨⟨r0, r1, r2, r3⟩, q0, q1, q2, q3, q4⟩ := hS; simp only [Nat.zero_add] at r0 r1 r2 r3
          clear hd hE
          try clear hS
          go_wp2
          exact Ext.refl _
        case ha => rfl
        apply wpLoose_val rfl rfl
        case hs =>
          intro w1 hC hd Q1 hQ1
          obtain ⟨hE, hS⟩ := hC
          dsimp only [bare]
          obtain ⟨⟨r0, r1, r2, r3⟩, q0, q1, q2, q3, q4⟩ := hS; simp only [Nat.zero_add] at r0 r1 r2 r3
          clear hd hE
          try clear hS
          go_wp2
          exact Ext.refl _
        case ha => rfl
        apply wpLoose_val rfl rfl
        case hs =>
          intro w1 hC hd Q1 hQ1
          obtain ⟨hE, hS⟩ := hC
          dsimp only [bare]
          obtain ⟨⟨r0, r1, r2, r3⟩, q0, q1, q2, q3, q4⟩ := hS; simp only [Nat.zero_add] at r0 r1 r2 r3
          clear hd hE
          try clear hS
          go_wp2
          exact Ext.refl _
        case ha => rfl
        apply wpLoose_val rfl rfl
        case hs =>
          intro w1 hC hd Q1 hQ1
          obtain ⟨hE, hS⟩ := hC
          dsimp only [bare]
          obtain ⟨⟨r0, r1, r2, r3⟩, q0, q1, q2, q3, q4⟩ := hS; simp only [Nat.zero_add] at r0 r1 r2 r3
          clear hd hE
          try clear hS
          go_wp2
          exact Ext.refl _
        case ha => rfl
        apply wpLoose_val rfl rfl
        case hs =>
          intro w1 hC hd Q1 hQ1
          obtain ⟨hE, hS⟩ := hC
          dsimp only [bare]
          obtain ⟨⟨r0, r1, r2, r3⟩, q0, q1, q2, q3, q4⟩ := hS; simp only [Nat.zero_add] at r0 r1 r2 r3
          clear hd hE
          try clear hS
          go_wp2
          exact Ext.refl _
        case ha => rfl
        apply wpLoose_val rfl rfl
        case hs =>
          intro w1 hC hd Q1 hQ1
          obtain ⟨hE, hS⟩ := hC
          dsimp only [bare]
          obtain ⟨⟨r0, r1, r2, r3⟩, q0, q1, q2, q3, q4⟩ := hS; simp only [Nat.zero_add] at r0 r1 r2 r3
          clear hd hE
          try clear hS
          go_wp2
          exact Ext.refl _
        case ha => rfl
        apply wpLoose_val rfl rfl
        case hs =>
          intro w1 hC hd Q1 hQ1
          obtain ⟨hE, hS⟩ := hC
          dsimp only [bare]
          obtain ⟨⟨r0, r1, r2, r3⟩, q0, q1, q2, q3, q4⟩ := hS; simp only [Nat.zero_add] at r0 r1 r2 r3
          clear hd hE
          try clear hS
          go_wp2
          exact Ext.refl _
        case ha => rfl
        apply wpLoose_val rfl rfl
        case hs =>
          intro w1 hC hd Q1 hQ1
          obtain ⟨hE, hS⟩ := hC
          dsimp only [bare]
          obtain ⟨⟨r0, r1, r2, r3⟩, q0, q1, q2, q3, q4⟩ := hS; simp only [Nat.zero_add] at r0 r1 r2 r3
          clear hd hE
          try clear hS
          go_wp2
          exact Ext.refl _
        case ha => rfl
        apply wpLoose_val rfl rfl
        case hs =>
          intro w1 hC hd Q1 hQ1
          obtain ⟨hE, hS⟩ := hC
          dsimp only [bare]
          obtain ⟨⟨r0, r1, r2, r3⟩, q0, q1, q2, q3, q4⟩ := hS; simp only [Nat.zero_add] at r0 r1 r2 r3
          clear hd hE
          try clear hS
          go_wp2
          exact Ext.refl _
        case ha => rfl
        apply wpLoose_val rfl rfl
        case hs =>
          intro w1 hC hd Q1 hQ1
          obtain ⟨hE, hS⟩ := hC
          dsimp only [bare]
          obtain ⟨⟨r0, r1, r2, r3⟩, q0, q1, q2, q3, q4⟩ := hS; simp only [Nat.zero_add] at r0 r1 r2 r3
          clear hd hE
          try clear hS
          go_wp2
          exact Ext.refl _
        case ha => rfl
        apply wpLoose_val rfl rfl
        case hs =>
          intro w1 hC hd Q1 hQ1
          obtain ⟨hE, hS⟩ := hC
          dsimp only [bare]
          obtain ⟨⟨r0, r1, r2, r3⟩, q0, q1, q2, q3, q4⟩ := hS; simp only [Nat.zero_add] at r0 r1 r2 r3
          clear hd hE
          try clear hS
          go_wp2
          exact Ext.refl _
        case ha => rfl
        apply wpLoose_val rfl rfl
        case hs =>
          intro w1 hC hd Q1 hQ1
          obtain ⟨hE, hS⟩ := hC
          dsimp only [bare]
          obtain ⟨⟨r0, r1, r2, r3⟩, q0, q1, q2, q3, q4⟩ := hS; simp only [Nat.zero_add] at r0 r1 r2 r3
          clear hd hE
          try clear hS
          go_wp2
          exact Ext.refl _
        case ha => rfl
        apply wpLoose_val rfl rfl
        case hs =>
          intro w1 hC hd Q1 hQ1
          obtain ⟨hE, hS⟩ := hC
          dsimp only [bare]
          obtain ⟨⟨r0, r1, r2, r3⟩, q0, q1, q2, q3, q4⟩ := hS; simp only [Nat.zero_add] at r0 r1 r2 r3
          clear hd hE
          try clear hS
          go_wp2
          exact Ext.refl _
        case ha => rfl
        apply wpLoose_val rfl rfl
        case hs =>
          intro w1 hC hd Q1 hQ1
          obtain ⟨hE, hS⟩ := hC
          dsimp only [bare]
          obtain ⟨⟨r0, r1, r2, r3⟩, q0, q1, q2, q3, q4⟩ := hS; simp only [Nat.zero_add] at r0 r1 r2 r3
          clear hd hE
          try clear hS
          go_wp2
          exact Ext.refl _
        case ha => rfl
        apply wpLoose_val rfl rfl
        case hs =>
          intro w1 hC hd Q1 hQ1
          obtain ⟨hE, hS⟩ := hC
          dsimp only [bare]
          obtain ⟨⟨r0, r1, r2, r3⟩, q0, q1, q2, q3, q4⟩ := hS; simp only [Nat.zero_add] at r0 r1 r2 r3
          clear hd hE
          try clear hS
          go_wp2
          exact Ext.refl _
        case ha => rfl
        apply wpLoose_val rfl rfl
        case hs =>
          intro w1 hC hd Q1 hQ1
          obtain ⟨hE, hS⟩ := hC
          dsimp only [bare]
          obtain ⟨⟨r0, r1, r2, r3⟩, q0, q1, q2, q3, q4⟩ := hS; simp only [Nat.zero_add] at r0 r1 r2 r3
          clear hd hE
          try clear hS
          go_wp2
          exact Ext.refl _
        case ha => rfl
        apply wpLoose_val rfl rfl
        case hs =>
          intro w1 hC hd Q1 hQ1
          obtain ⟨hE, hS⟩ := hC
          dsimp only [bare]
          obtain ⟨⟨r0, r1, r2, r3⟩, q0, q1, q2, q3, q4⟩ := hS; simp only [Nat.zero_add] at r0 r1 r2 r3
          clear hd hE
          try clear hS
          go_wp2
          exact Ext.refl _
        case ha => rfl
        apply wpLoose_val rfl rfl
        case hs =>
          intro w1 hC hd Q1 hQ1
          obtain ⟨hE, hS⟩ := hC
          dsimp only [bare]
          obtain ⟨⟨r0, r1, r2, r3⟩, q0, q1, q2, q3, q4⟩ := hS; simp only [Nat.zero_add] at r0 r1 r2 r3
          clear hd hE
          try clear hS
          go_wp2
          exact Ext.refl _
        case ha => rfl
        apply wpLoose_val rfl rfl
        case hs =>
          intro w1 hC hd Q1 hQ1
          obtain ⟨hE, hS⟩ := hC
          dsimp only [bare]
          obtain ⟨⟨r0, r1, r2, r3⟩, q0, q1, q2, q3, q4⟩ := hS; simp only [Nat.zero_add] at r0 r1 r2 r3
          clear hd hE
          try clear hS
          go_wp2
          exact Ext.refl _
        case ha => rfl
        apply wpLoose_val rfl rfl
        case hs =>
          intro w1 hC hd Q1 hQ1
          obtain ⟨hE, hS⟩ := hC
          dsimp only [bare]
          obtain ⟨⟨r0, r1, r2, r3⟩, q0, q1, q2, q3, q4⟩ := hS; simp only [Nat.zero_add] at r0 r1 r2 r3
          clear hd hE
          try clear hS
          go_wp2
          exact Ext.refl _
        case ha => rfl
        apply wpLoose_val rfl rfl
        case hs =>
          intro w1 hC hd Q1 hQ1
          obtain ⟨hE, hS⟩ := hC
          dsimp only [bare]
          obtain ⟨⟨r0, r1, r2, r3⟩, q0, q1, q2, q3, q4⟩ := hS; simp only [Nat.zero_add] at r0 r1 r2 r3
          clear hd hE
          try clear hS
          go_wp2
          exact Ext.refl _
        case ha => rfl
        apply wpLoose_val rfl rfl
        case hs =>
          intro w1 hC hd Q1 hQ1
          obtain ⟨hE, hS⟩ := hC
          dsimp only [bare]
          obtain ⟨⟨r0, r1, r2, r3⟩, q0, q1, q2, q3, q4⟩ := hS; simp only [Nat.zero_add] at r0 r1 r2 r3
          clear hd hE
          try clear hS
          go_wp2
          exact Ext.refl _
        case ha => rfl
        apply wpLoose_val rfl rfl
        case hs =>
          intro w1 hC hd Q1 hQ1
          obtain ⟨hE, hS⟩ := hC
          dsimp only [bare]
          obtain ⟨⟨r0, r1, r2, r3⟩, q0, q1, q2, q3, q4⟩ := hS; simp only [Nat.zero_add] at r0 r1 r2 r3
          clear hd hE
          try clear hS
          go_wp2
          exact Ext.refl _
        case ha => rfl
        refine wpLoose_rel rfl rfl ?_ (fun va_30 => ?_)
        · intro w1 hC hd Q1 hQ1
          obtain ⟨hE, hS⟩ := hC
          dsimp only [bare]
          clear hd hS hE
          go_wp2
          exact hQ1 _ _ ((Below.refl _ _).alloc (Nat.le_refl _) _) ⟨_, rfl, CellsAt.new _ (ints4 o kk y 1 ++ ints4 7 ((B1 : Int) - (Bk : Int) - 2) 0 0 ++ ints4 7 ((B2 : Int) - (Bk : Int) - 3) 0 0) _⟩
        refine wpLoose_nil ?_
        intro wa hEa hSa hFa
        obtain ⟨gq, rfl, hcq⟩ := hFa 30 _ rfl (by decide) (by simp [Act.put])
        have HT : Hid (StL ls s n gs gy gn gb b0 bx w wa ov l (o, kk, y, 1)) := StL.ext HT6.out.drew hEa
        clear hFa hSa hEa x1 x2 x3 x4 x5 HT6
        simp only [Act.put]
        have hown : wa.ownsRow b0 35 4 ov l.length (flatI l) := HT.out.2.1
        have hz4 : b0 ≤ wa.heap.size := HT.out.1.2.2.2.2.2.1
        go_wp2_with (at_builtin; refine wpList_append_own _ rfl _ _ 30 rfl b0 35 i0 (.agg #[.int .i64 0, .int .i64 0, .int .i64 0, .int .i64 0]) 4 32 Try.underlying30 hi hz0 hz1 hz2 rfl (by decide) _ l.length _ rfl hown ⟨gq, 0, none⟩ 3 3 (ints4 o kk y 1 ++ ints4 7 ((B1 : Int) - (Bk : Int) - 2) 0 0 ++ ints4 7 ((B2 : Int) - (Bk : Int) - 3) 0 0) rfl rfl ?c1 ?c2 ?c3 ?c4 ?c5 ?_)
        case c1 =>
          intro j u hu
          have := hcq.2 j u hu
          first
            | (rw [Addr.add_lit, Nat.zero_add]; exact this)
            | exact hu
            | simpa using hu
        case c2 => intro u hu; simp [ints4] at hu; rcases hu with rfl | rfl | rfl | rfl | rfl | rfl | rfl | rfl | rfl | rfl | rfl | rfl <;> rfl
        case c3 => unfold maxLen; omega
        case c4 => omega
        case c5 => first | omega | (simp; omega)
        intro v' w8 hown8 hgrow8 _
        have HX8 : Hid (LayR ls s n gs gy gn gb b0 w w8 ∧ Own4 w8 b0 v' (l ++ ws) ∧ Own4 w8 w.heap.size (.slice (some ⟨w.heap.size, 0, none⟩) 0 0) []) := by
          have hxl : w.heap.size < wa.heap.size := (HT.out.2.2.1.lt w.heap.size rfl).2
          have hxn : some w.heap.size ≠ ov.ownBlock := fun e => by
            have h1 : b0 ≤ w.heap.size := own_from hown e.symm
            have h2 := HLT.out
            omega
          refine ⟨HT.out.1.app hgrow8 (fun x hx => own_from hown hx), ?_, own_block HT.out.2.2.1 (hgrow8.block w.heap.size hxl hxn)⟩
          rw [HWW.out]
          have e : flatI l ++ (ints4 o kk y 1 ++ (ints4 7 ((B1 : Int) - (Bk : Int) - 2) 0 0 ++ ints4 7 ((B2 : Int) - (Bk : Int) - 3) 0 0)) = flatI (l ++ [(o, kk, y, 1), (7, ((B1 : Int) - (Bk : Int) - 2), 0, 0), (7, ((B2 : Int) - (Bk : Int) - 3), 0, 0)]) := by simp [flatI]
          rw [e] at hown8
          unfold Own4
          rw [List.length_append]
          exact hown8
        clear hgrow8 hown8 hown
        go_wp2
        go_roundw
        case rel => exact ⟨k + 1, by go_num, by omega, HX8.out.1, by rw [HN.out]; exact HX8.out.2.1, HX8.out.2.2⟩
        case measure => simp [intOf]; omega
        case hAa => kernel_rfl
        case hla => exact ⟨trivial, trivial, trivial, trivial, trivial, trivial, trivial, trivial, trivial, trivial, trivial, trivial, trivial, trivial, trivial, trivial, trivial, trivial, trivial, trivial, trivial, trivial, trivial, trivial, trivial, trivial, trivial, trivial, trivial, trivial, fun _ _ _ ⟨g, hv, h⟩ hE => ⟨g, hv, h.step hE⟩, trivial⟩
    · have hkn : k = n := by omega
      have bk : ¬ ((k : Int) < (n : Int)) := by omega
      subst hkn
      obtain ⟨ao, co, hv⟩ := own_slice HX.out.2.1
      rw [HZ.out.2.2] at hv
      subst hv
      have hck := HZ.out.2.1
      by_cases h4 : 400 < (cnt s k : Int)
      · have HE : Hid (z = false) := by show _ = _; rw [HZ.out.1, inB_false]; omega
        have HR : Hid (Ext w wr ∧ Own4 wr w.heap.size (.slice (some ⟨w.heap.size, 0, none⟩) 0 0) []) := ⟨HX.out.1.2.2.2.2.2.2.2, HX.out.2.2⟩
        clear HX X4
        generalize cnt s k = c at *
        obtain rfl : z = _ := HE.out
        go_wp2
        go_ret2
        exact ⟨_, rfl, HR.out.2, HR.out.1⟩
      · have HE : Hid (z = true) := by show _ = _; rw [HZ.out.1, inB_true]; omega
        have HR : Hid (Ext w wr ∧ Own4 wr w.heap.size (.slice ao (cnt s k) co) (layL ls s k)) := ⟨HX.out.1.2.2.2.2.2.2.2, own_lower HX.out.2.1 HX.out.1.2.2.2.2.2.2.1⟩
        clear HX X4
        generalize cnt s k = c at *
        obtain rfl : z = _ := HE.out
        go_wp2
        go_ret2
        exact ⟨_, rfl, HR.out.2, HR.out.1⟩

theorem layout_both (ls : List Ln) (hl : ls.length ≤ 1048576) (ht : TextsP ls) : ∃ (ws : List Wd) (z : Bool), ws.length ≤ 400 ∧
    (∀ a cap w, Lns w a ls → Calls Try.prog 20 #[.slice a ls.length cap] w fun e w' => ∃ v, e = .returned (.tuple #[v, .bool z]) ∧ Own4 w' w.heap.size v ws ∧ Ext w w') ∧
    (∀ a cap w, Lns w a ls → Calls Try.prog 11 #[.slice a ls.length cap] w fun e w' => ∃ v, e = .returned (.tuple #[v, .bool z]) ∧ Own4 w' w.heap.size v ws ∧ Ext w w') := by
  by_cases hp : linesP ls
  · obtain ⟨s, hs⟩ := sizes_some hp
    refine ⟨if fewP ls s = true then layL ls s ls.length else [], fewP ls s, ?_, fun a cap w h => sLayout_yes a cap ls s w h hp hs, fun a cap w h => iLayout_yes a cap ls s w hp hs ht h⟩
    by_cases hf : fewP ls s = true
    · rw [if_pos hf, layL_length hs (Nat.le_refl _)]
      unfold fewP at hf
      rw [inB_true] at hf
      omega
    · rw [if_neg hf]; simp
  · refine ⟨[], false, by simp, fun a cap w h => sLayout_no a cap ls w hl h hp, fun a cap w h => ?_⟩
    refine (iLayout_no a cap ls w hl ht h hp).mono ?_
    rintro e w' ⟨rfl, h3⟩
    exact ⟨_, rfl, Own4.nil _ _, h3⟩

/-- Words of a row are kept where its own block is. -/
theorem Own4.grown {w w' : World} {B g : Nat} {v : Value} {ws : List Wd} (h : Own4 w B v ws) (hg : w.grownBy w' (some g)) (hne : ∀ x, v.ownBlock = some x → x ≠ g) : Own4 w' B v ws := by
  refine ⟨h.1, ?_⟩
  rcases h.2 with hn | ⟨q, cap, cur, rfl, hq, hh, rest⟩
  · exact .inl hn
  · exact .inr ⟨q, cap, cur, rfl, hq, (hg.block q (Array.getElem?_eq_some_iff.1 hh).1 (fun e => hne q rfl (Option.some.inj e))).trans hh, rest⟩

end Go.Proofs.Ytakcmiijnckaaaa
