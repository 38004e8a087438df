/- What lines do their words do: in plain numbers. -/
import Derived.Test.YtakcmiijnckaaaaLlPack22
import Derived.Test.YtakcmiijnckaaaaLlPack18
import Derived.Laws.AppendOwnNone
/- What impl's Layout answers: the words that lines become. -/
namespace Go.Proofs.Ytakcmiijnckaaaa
open Go.RowKit
set_option linter.unusedVariables false

theorem flat_cells {W : World} {g : Nat} {ws : List Wd} (h : Words W (some ⟨g, 0, none⟩) ws) : ∀ j u, (flatI ws)[j]? = some u → W.cell? ⟨g, j, none⟩ = some u := fun j u hu => by
  have hj : j < ws.length * 4 := by
    have := (List.getElem?_eq_some_iff.1 hu).1
    rw [flatI_length] at this
    exact this
  obtain ⟨b, off, hb, hq⟩ := h (by omega)
  injection hb with hb
  injection hb with h1 h2
  subst h1
  subst h2
  obtain ⟨q0, q1, q2, q3⟩ := hq (j / 4) (by omega)
  obtain ⟨e0, e1, e2, e3⟩ := flatI_at ws (j / 4) (by omega)
  simp only [Nat.zero_add] at q0 q1 q2 q3
  have hr : j = j / 4 * 4 ∨ j = j / 4 * 4 + 1 ∨ j = j / 4 * 4 + 2 ∨ j = j / 4 * 4 + 3 := by omega
  rcases hr with e | e | e | e
  · rw [e] at hu ⊢
    rw [e0] at hu
    rw [← hu]; exact q0
  · rw [e] at hu ⊢
    rw [e1] at hu
    rw [← hu]; exact q1
  · rw [e] at hu ⊢
    rw [e2] at hu
    rw [← hu]; exact q2
  · rw [e] at hu ⊢
    rw [e3] at hu
    rw [← hu]; exact q3

/-- There are 1 to 400 words. -/
def fewP (ls : List Ln) (s : Nat → Nat) : Bool := inB (cnt s ls.length) 1 400

set_option maxRecDepth 100000 in
set_option maxHeartbeats 8000000 in
theorem iLayout_yes (a : Option Addr) (cap : Nat) (ls : List Ln) (s : Nat → Nat) (w : World) (hl : linesP ls) (hs : sizesP ls s) (ht : TextsP ls) (h : Lns w a ls) :
    Calls Try.prog 11 #[.slice a ls.length cap] w fun e w' => ∃ v, e = .returned (.tuple #[v, .bool (fewP ls s)]) ∧ Own4 w' w.heap.size v (if fewP ls s = true then layL ls s ls.length else []) ∧ Ext w w' := by
  obtain ⟨i0, hi, hz0, hz1, hz2⟩ := info_parts Try.infoN
  obtain ⟨n, hn⟩ : ∃ n, n = ls.length := ⟨_, rfl⟩
  have hn6 : n ≤ 600 := by have := hl.1; omega
  have hn1 : 1 ≤ n := by have := hl.1; omega
  have HA : Hid (Lns w a ls ∧ n = ls.length ∧ linesP ls ∧ sizesP ls s ∧ TextsP ls) := ⟨h, hn, hl, hs, ht⟩
  have HL : Hid (Calls Try.prog 16 #[.slice a n cap] w fun e w' => e = .returned (.bool true) ∧ Ext w w') := by rw [hn]; exact iLines_any a cap ls true w (by omega) ht h (by simp [hl])
  have HPL : Hid (∀ w1, Ext w w1 → Calls Try.prog 38 #[.slice a n cap] w1 fun e w' => ∃ B g, e = .returned (.agg #[.map (some B), .slice (some ⟨g, 0, none⟩) (n + 1) (n + 1)]) ∧ PlanP w' ls s B g 0 ∧ Ext w1 w') := fun w1 hE => by rw [hn]; exact planOf_any a cap ls s w1 hl hs ht (h.ext hE)
  obtain ⟨z, hz⟩ : ∃ z, z = fewP ls s := ⟨_, rfl⟩
  have hcn : cnt s n ≤ 1800 := by have := cnt_le hs (n := n) (by omega); omega
  have HZ : Hid (z = inB (cnt s n) 1 400) := by show _ = _; rw [hz]; unfold fewP; rw [hn]
  have hlay : ∃ lay : List Wd, lay = if z = true then layL ls s ls.length else [] := ⟨_, rfl⟩
  obtain ⟨lay, hlay⟩ := hlay
  rw [← hz, ← hlay, ← hn]
  have HLY : Hid (lay = if z = true then layL ls s n else []) := by rw [hn]; exact hlay
  clear h hn hl hs ht hz hlay
  go_enter Try.func11, Try.ntmps11
  go_wp2_with fail
  refine HL.out.mono ?_
  rintro e w2 ⟨rfl, e2⟩
  have X2 : Hid (Ext w w2) := e2
  clear e2 HL
  go_wp2_with fail
  refine (HPL.out _ X2.out).mono ?_
  rintro e w3 ⟨B, g, rfl, hp3, e3⟩
  obtain ⟨W4, hW4⟩ : ∃ W, W = w3.alloc (.cells #[.map (some B), .slice (some ⟨g, 0, none⟩) (n + 1) (n + 1)] 61) := ⟨_, rfl⟩
  have HX : Hid (PlanP W4 ls s B g 0 ∧ Two W4 w3.heap.size (.map (some B)) (.slice (some ⟨g, 0, none⟩) (n + 1) (n + 1)) ∧ Ext w W4) := by
    rw [hW4]
    exact ⟨hp3.ext (Ext.one _ _), ⟨by simp, by simp [go_sem], by simp [go_sem], by simp [go_sem], by simp [go_sem]⟩, (X2.out.trans e3).alloc _⟩
  have x0 : W4.cell? ⟨g, 0, none⟩ = some (.int .i64 (cnt s n : Int)) := by
    obtain ⟨_, f, r1, r2⟩ := HX.out.1
    have := (r1.2 0 (by omega)).1
    rw [r2 0 (Nat.le_refl _) (by omega)] at this
    have h0 : cnt s 0 = 0 := rfl
    rw [h0, ← HA.out.2.1] at this
    simpa using this
  obtain ⟨_, t6, t7, _, _⟩ := HX.out.2.1
  have HS4 : Hid (W4.heap.size = w3.heap.size + 1) := by show _ = _; rw [hW4]; simp
  have hW4' := hW4
  rw [hW4] at x0 t6 t7
  generalize cnt s n = cn at *
  have HFT : Hid (∀ w1, Calls Try.prog 39 #[.int .i64 (cn : Int)] w1 fun e w' => e = .returned (.bool z) ∧ w1 = w') := fun w1 => by rw [HZ.out]; exact fits_any _ w1
  have hp3' := hp3
  clear hp3 e3 HPL X2 hW4'
  cases z with
  | false =>
    have HR : Hid (lay = []) := HLY.out
    go_wp2_with fail
    refine (HFT.out _).mono ?_
    rintro e w5 ⟨rfl, rfl⟩
    rw [← hW4]
    have X4 : Hid (Ext w W4) := HX.out.2.2
    clear x0 t6 t7 HX hW4 hp3'
    go_wp2
    go_ret2
    refine ⟨_, rfl, ?_, X4.out⟩
    rw [HR.out]
    exact Own4.nil _ _
  | true =>
    have HR : Hid (lay = layL ls s n) := HLY.out
    go_wp2_with fail
    refine (HFT.out _).mono ?_
    rintro e w5 ⟨rfl, rfl⟩
    go_wp2_with (at_make; rw [← hW4]; refine wpList_make_own _ rfl _ _ 30 rfl W4.heap.size 35 i0 (.agg #[.int .i64 0, .int .i64 0, .int .i64 0, .int .i64 0]) 4 Try.underlying30 hi hz0 hz1 _ _ _ cn rfl rfl (by omega) (by rw [hz2]; omega) (by unfold maxLen; omega) (Nat.le_refl _) ?_; intro w6 hown6 hgrow6)
    have x6 : Ext W4 w6 := (Ext.refl W4).grown hgrow6 (Nat.le_refl _) (fun k hk => by cases hk)
    generalize hbp : w3.heap.size = bp at *
    have HX6 : Hid (PlanP w6 ls s B g 0 ∧ Two w6 bp (.map (some B)) (.slice (some ⟨g, 0, none⟩) (n + 1) (n + 1)) ∧ Ext w w6 ∧ Own4 w6 w.heap.size (.slice (some ⟨bp + 1, 0, none⟩) 0 cn) (layL ls s 0)) := ⟨HX.out.1.ext x6, HX.out.2.1.ext x6, HX.out.2.2.trans x6, by have h := own_lower hown6 HX.out.2.2.size; rw [HS4.out] at h; exact h⟩
    have HLT : Hid (B < bp ∧ g < bp) := by
      obtain ⟨hm, f, hr, _⟩ := hp3'
      rw [← hbp]
      exact ⟨hm.lt, hr.1⟩
    have HWO : Hid (∀ (i : Nat) (lab yes no : ByteArray) (o kk y nn : Int) (w1 : World), PlanP w1 ls s B g 0 → i < n → Ln.mk lab (o, kk, y, nn) yes no = ls.getD i zeroL → Calls Try.prog 40 #[.agg #[.map (some B), .slice (some ⟨g, 0, none⟩) (n + 1) (n + 1)], .int .i64 (i : Int), .agg #[.string lab, .int .i64 o, .int .i64 kk, .int .i64 y, .int .i64 nn, .string yes, .string no]] w1 fun e w' => ∃ u, e = .returned u ∧ WordsV w' u (wordsL ls s i) ∧ Ext w1 w') := fun i lab yes no o kk y nn w1 h1 h2 h3 => by
      have ht := HA.out.2.2.2.2 i (by have := HA.out.2.1; omega)
      rw [← h3] at ht
      have := wordsOf_any ls s B g (n + 1) i lab yes no o kk y nn w1 HA.out.2.2.1 HA.out.2.2.2.1 h1 (by have := HA.out.2.1; omega) h3 ht.2
      rw [← HA.out.2.1] at this
      exact this
    have HLL : Hid (∀ k, k ≤ n → (layL ls s k).length ≤ 1800) := fun k hk => by
      have h0 := HA.out.2.1
      rw [layL_length HA.out.2.2.2.1 (by omega)]
      have := cnt_le HA.out.2.2.2.1 (n := k) (by omega)
      omega
    clear x0 t6 t7 HX x6 hown6 hgrow6 hbp HS4 HZ HFT hp3'
    go_loopw [5, 26] (fun ov iv wr => ∃ k : Nat, iv = .int .i64 k ∧ k ≤ n ∧ Hid (PlanP wr ls s B g 0 ∧ Two wr bp (.map (some B)) (.slice (some ⟨g, 0, none⟩) (n + 1) (n + 1)) ∧ Ext w wr ∧ Own4 wr w.heap.size ov (layL ls s k) ∧ ∀ x, ov.ownBlock = some x → bp < x)) (fun _ iv _ => n - (intOf iv).toNat)
    case atStart => exact ⟨0, rfl, by omega, HX6.out.1, HX6.out.2.1, HX6.out.2.2.1, HX6.out.2.2.2, fun x hx => by have : bp + 1 = x := Option.some.inj hx; omega⟩
    case round =>
      obtain ⟨k, rfl, hk, HX⟩ := hrel
      clear HX6
      by_cases hlt : k < n
      · have bk : (k : Int) < (n : Int) := by omega
        obtain ⟨⟨lab, ⟨o, kk, y, nn⟩, yes, no⟩, hp⟩ : ∃ p, p = ls.getD k zeroL := ⟨_, rfl⟩
        obtain ⟨b, off, rfl, hq⟩ := (HA.out.1.ext HX.out.2.2.1).hept (k := k) (by have := HA.out.2.1; omega) hp
        obtain ⟨c0, c1, c2, c3, c4, c5, c6⟩ := hq
        simp only at c0 c1 c2 c3 c4 c5 c6
        have HP : Hid (Ln.mk lab (o, kk, y, nn) yes no = ls.getD k zeroL) := hp
        obtain ⟨_, y6, y7, _, _⟩ := HX.out.2.1.ext (Ext.one wr (.cells #[.string lab, .int .i64 o, .int .i64 kk, .int .i64 y, .int .i64 nn, .string yes, .string no] 37))
        have hlay : (layL ls s k).length ≤ 1800 := HLL.out k hk
        clear hp
        go_wp2_with fail
        refine (HWO.out k lab yes no o kk y nn _ (HX.out.1.ext (Ext.one _ _)) hlt HP.out).mono ?_
        rintro e w7 ⟨u, rfl, hu, e7⟩
        have HX7 : Hid (PlanP w7 ls s B g 0 ∧ Two w7 bp (.map (some B)) (.slice (some ⟨g, 0, none⟩) (n + 1) (n + 1)) ∧ Ext w w7) := ⟨(HX.out.1.ext (Ext.one _ _)).ext e7, (HX.out.2.1.ext (Ext.one _ _)).ext e7, (HX.out.2.2.1.alloc _).trans e7⟩
        have hown : w7.ownsRow w.heap.size 35 4 u5 (layL ls s k).length (flatI (layL ls s k)) := (HX.out.2.2.2.1.alloc _).ext e7
        have HOB : Hid (∀ x, u5.ownBlock = some x → bp < x) := HX.out.2.2.2.2
        have hz4 : w.heap.size ≤ w7.heap.size := HX7.out.2.2.size
        have HN : Hid (layL ls s (k + 1) = layL ls s k ++ wordsL ls s k) := rfl
        have hw18 : (wordsL ls s k).length ≤ 3 := by
          have h0 := HA.out.2.1
          rw [wordsL_length HA.out.2.2.2.1 (by omega)]
          exact size_le HA.out.2.2.2.1 (by omega)
        clear c0 c1 c2 c3 c4 c5 c6 y6 y7 e7 HX HWO
        generalize wordsL ls s k = ws at *
        generalize layL ls s k = l at *
        rcases hu with ⟨rfl, rfl⟩ | ⟨gw, cw, rfl, hne, hwr⟩
        · go_wp2_with (at_builtin; refine wpList_append_own_none rfl _ _ 30 rfl w.heap.size 35 i0 4 Try.underlying30 hi _ l.length _ rfl hown rfl ?_)
          go_roundw
          case rel => exact ⟨k + 1, by go_num, by omega, HX7.out.1, HX7.out.2.1, HX7.out.2.2, by rw [HN.out, List.append_nil]; exact hown, HOB.out⟩
          case measure => simp [intOf]; omega
        · have hwl : 0 < ws.length := List.length_pos_iff.2 hne
          have HNW := flat_cells hwr
          generalize hlw : ws.length = lw at *
          have hfl : (flatI ws).length = lw * 4 := by rw [flatI_length, hlw]
          have h1c : ∀ u ∈ flatI ws, u.oneCell' = true := fun u hu => by
            unfold flatI at hu
            obtain ⟨p, _, hp⟩ := List.mem_flatMap.1 hu
            simp [ints4] at hp
            rcases hp with rfl | rfl | rfl | rfl <;> rfl
          have hl0 : (layL ls s (k + 1)).length = (layL ls s (k + 1)).length := rfl
          go_wp2_with (at_builtin; refine wpList_append_lies _ rfl _ _ 30 rfl w.heap.size 35 i0 (.agg #[.int .i64 0, .int .i64 0, .int .i64 0, .int .i64 0]) 4 32 Try.underlying30 hi hz0 hz1 hz2 rfl (by decide) _ l.length _ rfl hown ⟨gw, 0, none⟩ lw cw (flatI ws) rfl hfl ?c1 h1c hwl ?c3 ?c4 hz4 _ rfl ?_)
          case c1 =>
            intro j u hu
            rw [Addr.add_lit, Nat.zero_add]
            exact HNW j u hu
          case c3 => unfold maxLen; omega
          case c4 => omega
          · intro v' d8 w8 hown8 hgrow8 lie8 lt8
            have HX8 : Hid (PlanP w8 ls s B g 0 ∧ Two w8 bp (.map (some B)) (.slice (some ⟨g, 0, none⟩) (n + 1) (n + 1)) ∧ Ext w w8 ∧ Own4 w8 w.heap.size (.slice (some ⟨v', 0, none⟩) (l.length + lw) d8) (l ++ ws) ∧ ∀ x, (Value.slice (some ⟨v', 0, none⟩) (l.length + lw) d8).ownBlock = some x → bp < x) := by
              obtain ⟨hp7, ht7, hx7⟩ := HX7.out
              have hb7 : Below (bp + 1) w7 w8 := ⟨hgrow8.os, hgrow8.tape, hgrow8.output, hgrow8.size, fun i hi => hgrow8.block i (Nat.lt_of_lt_of_le hi (Nat.succ_le_of_lt ht7.1)) (fun e => by have := HOB.out i e.symm; omega)⟩
              obtain ⟨⟨hm, f, hr, hf⟩, ht, _⟩ := HX7.out
              have hlt := HLT.out
              refine ⟨⟨hm.below hb7 (by omega), f, hr.below hb7 (by omega), hf⟩, ?_, ext_row hx7 hgrow8 (fun x hx => own_from hown hx), ?_, ?_⟩
              · exact ⟨Nat.lt_of_lt_of_le ht.1 hgrow8.size, (hb7.cell (p := ⟨bp, 0, none⟩) (Nat.lt_succ_self _)).trans ht.2.1, (hb7.cell (p := ⟨bp, 1, none⟩) (Nat.lt_succ_self _)).trans ht.2.2.1, (hb7.frozen (p := ⟨bp, 0, none⟩) (Nat.lt_succ_self _)).trans ht.2.2.2.1, (hb7.frozen (p := ⟨bp, 1, none⟩) (Nat.lt_succ_self _)).trans ht.2.2.2.2⟩
              · have e : flatI l ++ flatI ws = flatI (l ++ ws) := by simp [flatI]
                rw [e] at hown8
                unfold Own4
                rw [List.length_append, hlw]
                exact hown8
              · intro x hx
                have hxe : v' = x := Option.some.inj hx
                rcases lie8 with h | h
                · exact HOB.out x (by rw [h, hxe])
                · have := ht7.1
                  omega
            clear hgrow8 hown8 hown hwr HNW h1c lie8 lt8
            go_wp2
            go_roundw
            case rel => exact ⟨k + 1, by go_num, by omega, HX8.out.1, HX8.out.2.1, HX8.out.2.2.1, by rw [HN.out]; exact HX8.out.2.2.2.1, HX8.out.2.2.2.2⟩
            case measure => simp [intOf]; omega
      · have hkn : k = n := by omega
        have bk : ¬ ((k : Int) < (n : Int)) := by omega
        have HE : Hid (Own4 wr w.heap.size u5 lay ∧ Ext w wr) := ⟨by rw [HR.out, ← hkn]; exact HX.out.2.2.2.1, HX.out.2.2.1⟩
        clear HX hkn
        go_wp2
        go_ret2
        exact ⟨_, rfl, HE.out⟩

/-- What is there while the words are laid: sizes, ways, beginnings, all below b0. -/
def LayR (ls : List Ln) (s : Nat → Nat) (n gs gy gn gb b0 : Nat) (w wr : World) : Prop :=
  RowF wr gs n (fun i => (s i : Int)) ∧ RowF wr gy n (fun i => wayV ls (ls.getD i zeroL).yes) ∧ RowF wr gn n (fun i => wayV ls (ls.getD i zeroL).no) ∧ RowF wr gb n (fun i => (cnt s i : Int)) ∧ (gs < b0 ∧ gy < b0 ∧ gn < b0 ∧ gb < b0) ∧ b0 ≤ wr.heap.size ∧ w.heap.size ≤ b0 ∧ Ext w wr

theorem LayR.ext {ls : List Ln} {s : Nat → Nat} {n gs gy gn gb b0 : Nat} {w wr w' : World} (h : LayR ls s n gs gy gn gb b0 w wr) (hE : Ext wr w') : LayR ls s n gs gy gn gb b0 w w' := by
  obtain ⟨h1, h2, h3, h4, h5, h6, h7, h8⟩ := h
  exact ⟨h1.ext hE, h2.ext hE, h3.ext hE, h4.ext hE, h5, Nat.le_trans h6 hE.size, h7, h8.trans hE⟩

/-- The last line is a word. -/
theorem cnt_pos {ls : List Ln} {s : Nat → Nat} (hl : linesP ls) (hs : sizesP ls s) : 1 ≤ cnt s ls.length := by
  obtain ⟨m, hm⟩ : ∃ m, ls.length = m + 1 := ⟨ls.length - 1, by have := hl.1; omega⟩
  have h8 := hl.2.1
  rw [hm, Nat.add_sub_cancel] at h8
  have h1 : s m = 1 := by
    rcases hs m (by omega) with ⟨a, _⟩ | ⟨a, _⟩ | ⟨a, _⟩ | ⟨_, _, a⟩
    · omega
    · unfold askP at a; omega
    · unfold askP at a; omega
    · exact a
  rw [hm]
  show 1 ≤ cnt s m + s m
  omega

/-- The words of a line by where lines begin. -/
theorem words_three {ls : List Ln} {s : Nat → Nat} (hl : linesP ls) (hs : sizesP ls s) {i : Nat} (hi : i < ls.length) (h3 : s i = 3) {lab yes no : ByteArray} {o kk y nn : Int} (hp : Ln.mk lab (o, kk, y, nn) yes no = ls.getD i zeroL) :
    wordsL ls s i = [(o, kk, y, 1), (7, (cnt s (pos ls yes) : Int) - (cnt s i : Int) - 2, 0, 0), (7, (cnt s (pos ls no) : Int) - (cnt s i : Int) - 3, 0, 0)] ∧ onP ls i yes ∧ onP ls i no := by
  have ha : askP (ls.getD i zeroL).wd.1 := by
    rcases hs i hi with ⟨_, h⟩ | ⟨h, _⟩ | ⟨h, _⟩ | ⟨_, _, h⟩
    · omega
    · exact h
    · exact h
    · omega
  have hon := ask_on hl hi ha
  have hy : (ls.getD i zeroL).wd.2.2.1 = 0 := by
    rcases hl.2.2 i hi with ⟨hz, _⟩ | ⟨_, _, h, _⟩
    · rw [hz]; rfl
    · exact h
  rw [← hp] at hon hy
  simp only at hon hy
  refine ⟨?_, hon⟩
  have hc : cnt s (i + 1) = cnt s i + 3 := by show cnt s i + s i = _; rw [h3]
  have m1 := cnt_mono s (a := i + 1) (b := pos ls yes) hon.1.1
  have m2 := cnt_mono s (a := i + 1) (b := pos ls no) hon.2.1
  unfold wordsL
  rw [if_neg (by omega), if_pos h3, ← hp]
  simp only [overL, hy]
  congr 1
  congr 1
  · simp only [Prod.mk.injEq]
    simp only [and_true, true_and]
    omega
  · congr 1
    simp only [Prod.mk.injEq]
    simp only [and_true, true_and]
    omega

theorem words_ask {ls : List Ln} {s : Nat → Nat} (hl : linesP ls) (hs : sizesP ls s) {i : Nat} (hi : i < ls.length) (h1 : s i = 1) {lab yes no : ByteArray} {o kk y nn : Int} (hp : Ln.mk lab (o, kk, y, nn) yes no = ls.getD i zeroL) (ha : askB o = true) :
    wordsL ls s i = [(o, kk, (cnt s (pos ls yes) : Int) - (cnt s i : Int) - 1, (cnt s (pos ls no) : Int) - (cnt s i : Int) - 1)] ∧ onP ls i yes ∧ onP ls i no := by
  have ha' : askP (ls.getD i zeroL).wd.1 := by rw [← hp]; exact askB_true.1 ha
  have hon := ask_on hl hi ha'
  rw [← hp] at hon
  simp only at hon
  refine ⟨?_, hon⟩
  have hc : cnt s (i + 1) = cnt s i + 1 := by show cnt s i + s i = _; rw [h1]
  have m1 := cnt_mono s (a := i + 1) (b := pos ls yes) hon.1.1
  have m2 := cnt_mono s (a := i + 1) (b := pos ls no) hon.2.1
  unfold wordsL
  rw [if_neg (by omega), if_neg (by omega), ← hp, if_pos ha]
  simp only [overL]
  congr 1
  simp only [Prod.mk.injEq]
  exact ⟨trivial, trivial, by omega, by omega⟩

theorem words_jump {ls : List Ln} {s : Nat → Nat} (hl : linesP ls) (hs : sizesP ls s) {i : Nat} (hi : i < ls.length) (h1 : s i = 1) {lab yes no : ByteArray} {kk y nn : Int} (hp : Ln.mk lab (7, kk, y, nn) yes no = ls.getD i zeroL) :
    wordsL ls s i = [(7, (cnt s (pos ls yes) : Int) - (cnt s i : Int) - 1, y, nn)] ∧ onP ls i yes := by
  have hon := jump_on hl hi (by rw [← hp])
  rw [← hp] at hon
  simp only at hon
  refine ⟨?_, hon⟩
  have hc : cnt s (i + 1) = cnt s i + 1 := by show cnt s i + s i = _; rw [h1]
  have m1 := cnt_mono s (a := i + 1) (b := pos ls yes) hon.1
  unfold wordsL
  rw [if_neg (by omega), if_neg (by omega), ← hp, if_neg (by simp [askB]), if_pos rfl]
  simp only [overL]
  congr 1
  simp only [Prod.mk.injEq]
  simp only [and_true, true_and]
  omega

theorem words_other {ls : List Ln} {s : Nat → Nat} {i : Nat} (h1 : s i = 1) {lab yes no : ByteArray} {o kk y nn : Int} (hp : Ln.mk lab (o, kk, y, nn) yes no = ls.getD i zeroL) (ha : askB o = false) (h7 : o ≠ 7) : wordsL ls s i = [(o, kk, y, nn)] := by
  unfold wordsL
  rw [if_neg (by omega), if_neg (by omega), ← hp, if_neg (by rw [ha]; decide), if_neg h7]

theorem getW_left {l m : List Wd} {i : Nat} (h : i < l.length) : (l ++ m).getD i zeroW = l.getD i zeroW := by
  simp only [List.getD_eq_getElem?_getD]
  rw [List.getElem?_append_left h]

theorem getW_right {l m : List Wd} {i : Nat} : (l ++ m).getD (l.length + i) zeroW = m.getD i zeroW := by
  simp only [List.getD_eq_getElem?_getD]
  rw [List.getElem?_append_right (by omega), Nat.add_sub_cancel_left]

/-- The words of line i stand where it begins. -/
theorem lay_at {ls : List Ln} {s : Nat → Nat} (hs : sizesP ls s) : ∀ {n : Nat}, n ≤ ls.length → ∀ {i q : Nat}, i < n → q < s i → (layL ls s n).getD (cnt s i + q) zeroW = (wordsL ls s i).getD q zeroW
  | 0, _, i, q, hi, _ => by omega
  | n + 1, hn, i, q, hi, hq => by
    show (layL ls s n ++ wordsL ls s n).getD _ _ = _
    have hl := layL_length hs (n := n) (by omega)
    rcases Nat.lt_or_ge i n with h | h
    · have hc : cnt s i + s i = cnt s (i + 1) := rfl
      have := cnt_mono s (a := i + 1) (b := n) (by omega)
      rw [getW_left (by omega), lay_at hs (by omega) h hq]
    · obtain rfl : i = n := by omega
      rw [← hl, getW_right]

theorem cnt_find (s : Nat → Nat) : ∀ {n j : Nat}, j < cnt s n → ∃ i q, i < n ∧ q < s i ∧ j = cnt s i + q
  | 0, j, h => by simp [cnt] at h
  | n + 1, j, h => by
    rcases Nat.lt_or_ge j (cnt s n) with h1 | h1
    · obtain ⟨i, q, a, b, c⟩ := cnt_find s h1
      exact ⟨i, q, by omega, b, c⟩
    · have : cnt s n + s n = cnt s (n + 1) := rfl
      exact ⟨n, j - cnt s n, by omega, by omega, by omega⟩

/-- Behind a line that is not the last there is a word more. -/
theorem cnt_lt {ls : List Ln} {s : Nat → Nat} (hl : linesP ls) (hs : sizesP ls s) {i : Nat} (hi : i + 1 < ls.length) : cnt s (i + 1) < cnt s ls.length := by
  obtain ⟨m, hm⟩ : ∃ m, ls.length = m + 1 := ⟨ls.length - 1, by omega⟩
  have h8 := hl.2.1
  rw [hm, Nat.add_sub_cancel] at h8
  have h1 : s m = 1 := by
    rcases hs m (by omega) with ⟨a, _⟩ | ⟨a, _⟩ | ⟨a, _⟩ | ⟨_, _, a⟩
    · omega
    · unfold askP at a; omega
    · unfold askP at a; omega
    · exact a
  have := cnt_mono s (a := i + 1) (b := m) (by omega)
  have hc : cnt s (m + 1) = cnt s m + s m := rfl
  rw [hm]
  omega

theorem last_op {ls : List Ln} (hl : linesP ls) {i : Nat} (hi : i < ls.length) (h8 : (ls.getD i zeroL).wd.1 ≠ 8) : i + 1 < ls.length := by
  rcases Nat.lt_or_ge (i + 1) ls.length with h | h
  · exact h
  · exact absurd (by rw [show i = ls.length - 1 by omega]; exact hl.2.1) h8

/-- A label's place is not the last line. -/
theorem pos_lt {ls : List Ln} {s : Nat → Nat} (hl : linesP ls) (hs : sizesP ls s) {i : Nat} {lab : ByteArray} (h : onP ls i lab) : cnt s (pos ls lab) < cnt s ls.length ∧ (ls.getD (pos ls lab) zeroL).wd.1 = 0 ∧ cnt s (i + 1) ≤ cnt s (pos ls lab) := by
  have h0 := (isAt_op (pos_at h.2)).1
  have hp := last_op hl h.2 (by rw [h0]; decide)
  have h1 := cnt_lt hl hs hp
  have h2 := cnt_mono s (a := pos ls lab) (b := pos ls lab + 1) (by omega)
  exact ⟨by omega, h0, cnt_mono s h.1⟩

theorem line_ok {ls : List Ln} (hl : linesP ls) {i : Nat} (hi : i < ls.length) (h0 : (ls.getD i zeroL).wd.1 ≠ 0) : okW (ls.getD i zeroL).wd = true ∧ (ls.getD i zeroL).wd.2.2.1 = 0 ∧ (ls.getD i zeroL).wd.2.2.2 = 0 := by
  rcases hl.2.2 i hi with ⟨hz, _⟩ | ⟨_, _, a, b, _, hk, _⟩
  · exact absurd (by rw [hz]; rfl) h0
  · exact ⟨hk, a, b⟩

/-- The words are a program that is let by. -/
theorem check_lay {ls : List Ln} {s : Nat → Nat} (hl : linesP ls) (hs : sizesP ls s) (h4 : cnt s ls.length ≤ 400) : checkP (layL ls s ls.length) = true := by
  have hlen := layL_length hs (Nat.le_refl ls.length)
  have hpos := cnt_pos hl hs
  rw [checkP_true]
  refine ⟨⟨by omega, by omega⟩, fun j hj => ?_, ?_⟩
  · rw [hlen] at hj ⊢
    obtain ⟨i, q, hi, hq, rfl⟩ := cnt_find s hj
    rw [lay_at hs (Nat.le_refl _) hi hq]
    have hc1 : cnt s (i + 1) = cnt s i + s i := rfl
    obtain ⟨⟨lab, ⟨o, k, y, nn⟩, yes, no⟩, hp⟩ : ∃ p, p = ls.getD i zeroL := ⟨_, rfl⟩
    rcases size_cases hs hi with h | h | h
    · omega
    · obtain rfl : q = 0 := by omega
      rw [Nat.add_zero]
      have h0 : (ls.getD i zeroL).wd.1 ≠ 0 := by
        intro h0
        rcases hs i hi with ⟨_, a⟩ | ⟨a, _⟩ | ⟨a, _⟩ | ⟨a, _⟩
        · omega
        · unfold askP at a; omega
        · unfold askP at a; omega
        · exact a h0
      obtain ⟨hk, hy, hno⟩ := line_ok hl hi h0
      rw [← hp] at hk hy hno h0
      simp only at hy hno h0
      subst hy
      subst hno
      rw [okW_P] at hk
      have hk' : insP o k 0 0 := hk
      unfold insP at hk'
      cases ha : askB o with
      | true =>
        obtain ⟨hw, on1, on2⟩ := words_ask hl hs hi h hp ha
        have hao := askB_true.1 ha
        have p1 := pos_lt hl hs on1
        have p2 := pos_lt hl hs on2
        have hnf : ¬ farL ls s i := by
          rcases hs i hi with ⟨a, _⟩ | ⟨_, _, c⟩ | ⟨_, b, _⟩ | ⟨_, b, _⟩
          · rw [← hp] at a; exact absurd a h0
          · omega
          · exact b
          · rw [← hp] at b; exact absurd hao b
        unfold farL overL at hnf
        rw [← hp] at hnf
        simp only at hnf
        rw [hw]
        unfold askP at hao
        refine ⟨?_, .inr ?_⟩
        · rw [okW_P]
          show insP o k ((cnt s (pos ls yes) : Int) - (cnt s i : Int) - 1) ((cnt s (pos ls no) : Int) - (cnt s i : Int) - 1)
          exact ⟨by omega, by omega, by omega, by omega, by omega, by omega, by omega, by omega, .inl hao, fun h => by omega, fun h => by omega⟩
        · show (cnt s i : Int) + 1 + farW (o, k, ((cnt s (pos ls yes) : Int) - (cnt s i : Int) - 1), ((cnt s (pos ls no) : Int) - (cnt s i : Int) - 1)) < (cnt s ls.length : Int)
          unfold farW
          simp only
          rw [if_neg (by omega)]
          split <;> omega
      | false =>
        have hna := askB_false.1 ha
        by_cases h7 : o = 7
        · subst h7
          obtain ⟨hw, on1⟩ := words_jump hl hs hi h hp
          have p1 := pos_lt hl hs on1
          rw [hw]
          refine ⟨?_, .inr ?_⟩
          · rw [okW_P]
            show insP 7 ((cnt s (pos ls yes) : Int) - (cnt s i : Int) - 1) 0 0
            exact ⟨by omega, by omega, by omega, by omega, by omega, by omega, by omega, by omega, .inr ⟨rfl, rfl⟩, fun h => by omega, fun h => by omega⟩
          · show (cnt s i : Int) + 1 + farW (7, ((cnt s (pos ls yes) : Int) - (cnt s i : Int) - 1), 0, 0) < (cnt s ls.length : Int)
            unfold farW
            simp only
            rw [if_pos trivial]
            omega
        · rw [words_other h hp ha h7]
          refine ⟨?_, ?_⟩
          · rw [okW_P]
            exact hk
          · by_cases h8 : o = 8
            · exact .inl h8
            · refine .inr ?_
              have := cnt_lt hl hs (last_op hl hi (by rw [← hp]; exact h8))
              show (cnt s i : Int) + 1 + farW (o, k, 0, 0) < (cnt s ls.length : Int)
              unfold farW
              simp only
              rw [if_neg h7, if_neg (by omega)]
              omega
    · obtain ⟨hw, on1, on2⟩ := words_three hl hs hi h hp
      have p1 := pos_lt hl hs on1
      have p2 := pos_lt hl hs on2
      have ha : askP (ls.getD i zeroL).wd.1 := by
        rcases hs i hi with ⟨_, c⟩ | ⟨a, _⟩ | ⟨a, _⟩ | ⟨_, _, c⟩
        · omega
        · exact a
        · exact a
        · omega
      have hao : askP o := by rw [← hp] at ha; exact ha
      unfold askP at hao
      obtain ⟨hk, hy, hno⟩ := line_ok hl hi (by unfold askP at ha; omega)
      rw [← hp] at hk hy
      simp only at hy
      subst hy
      rw [okW_P] at hk
      have hk' : insP o k 0 nn := hk
      unfold insP at hk'
      rw [hw]
      have hq3 : q = 0 ∨ q = 1 ∨ q = 2 := by omega
      rcases hq3 with rfl | rfl | rfl
      · refine ⟨?_, .inr ?_⟩
        · rw [okW_P]
          show insP o k 0 1
          exact ⟨by omega, by omega, by omega, by omega, by omega, by omega, by omega, by omega, .inl hao, fun h => by omega, fun h => by omega⟩
        · show ((cnt s i + 0 : Nat) : Int) + 1 + farW (o, k, 0, 1) < (cnt s ls.length : Int)
          unfold farW
          simp only
          rw [if_neg (by omega), if_neg (by omega)]
          omega
      · refine ⟨?_, .inr ?_⟩
        · rw [okW_P]
          show insP 7 ((cnt s (pos ls yes) : Int) - (cnt s i : Int) - 2) 0 0
          exact ⟨by omega, by omega, by omega, by omega, by omega, by omega, by omega, by omega, .inr ⟨rfl, rfl⟩, fun h => by omega, fun h => by omega⟩
        · show ((cnt s i + 1 : Nat) : Int) + 1 + farW (7, ((cnt s (pos ls yes) : Int) - (cnt s i : Int) - 2), 0, 0) < (cnt s ls.length : Int)
          unfold farW
          simp only
          rw [if_pos trivial]
          omega
      · refine ⟨?_, .inr ?_⟩
        · rw [okW_P]
          show insP 7 ((cnt s (pos ls no) : Int) - (cnt s i : Int) - 3) 0 0
          exact ⟨by omega, by omega, by omega, by omega, by omega, by omega, by omega, by omega, .inr ⟨rfl, rfl⟩, fun h => by omega, fun h => by omega⟩
        · show ((cnt s i + 2 : Nat) : Int) + 1 + farW (7, ((cnt s (pos ls no) : Int) - (cnt s i : Int) - 3), 0, 0) < (cnt s ls.length : Int)
          unfold farW
          simp only
          rw [if_pos trivial]
          omega
  · obtain ⟨m, hm⟩ : ∃ m, ls.length = m + 1 := ⟨ls.length - 1, by have := hl.1; omega⟩
    have h8 := hl.2.1
    rw [hm, Nat.add_sub_cancel] at h8
    have h1 : s m = 1 := by
      rcases hs m (by omega) with ⟨a, _⟩ | ⟨a, _⟩ | ⟨a, _⟩ | ⟨_, _, a⟩
      · omega
      · unfold askP at a; omega
      · unfold askP at a; omega
      · exact a
    have hc : cnt s (m + 1) = cnt s m + s m := rfl
    have e : (layL ls s ls.length).length - 1 = cnt s m + 0 := by rw [hlen, hm]; omega
    rw [e, lay_at hs (Nat.le_refl _) (by omega) (by omega)]
    obtain ⟨⟨lab, ⟨o, k, y, nn⟩, yes, no⟩, hp⟩ : ∃ p, p = ls.getD m zeroL := ⟨_, rfl⟩
    rw [← hp] at h8
    have h8' : o = 8 := h8
    subst h8'
    rw [words_other h1 hp (by decide) (by decide)]
    rfl

/-! The run. -/

/-- Where the next line is, the register being r. -/
def nextL (ls : List Ln) (i : Nat) (r : Int) : Nat :=
  if 3 ≤ (ls.getD i zeroL).wd.1 ∧ (ls.getD i zeroL).wd.1 ≤ 6 then (if asksW (ls.getD i zeroL).wd r = true then pos ls (ls.getD i zeroL).yes else pos ls (ls.getD i zeroL).no)
  else if (ls.getD i zeroL).wd.1 = 7 then pos ls (ls.getD i zeroL).yes else i + 1

/-- From line i on, the register being r: the result. -/
def LRuns (ls : List Ln) (F : Int → Int) : Nat → Nat → Int → Int → Prop
  | 0, _, _, _ => False
  | f + 1, i, r, res => ((ls.getD i zeroL).wd.1 = 8 ∧ res = (ls.getD i zeroL).wd.2.1) ∨ ((ls.getD i zeroL).wd.1 ≠ 8 ∧ LRuns ls F f (nextL ls i r) (regW F (ls.getD i zeroL).wd r) res)

theorem lruns_next {ls : List Ln} {F : Int → Int} {f i : Nat} {r res : Int} (h : LRuns ls F f i r res) (h8 : (ls.getD i zeroL).wd.1 ≠ 8) : ∃ f', LRuns ls F f' (nextL ls i r) (regW F (ls.getD i zeroL).wd r) res := by
  cases f with
  | zero => cases h
  | succ f =>
    rcases h with ⟨h, _⟩ | ⟨_, h⟩
    · exact absurd h h8
    · exact ⟨f, h⟩

theorem lruns_ret {ls : List Ln} {F : Int → Int} {f i : Nat} {r res : Int} (h : LRuns ls F f i r res) (h8 : (ls.getD i zeroL).wd.1 = 8) : res = (ls.getD i zeroL).wd.2.1 := by
  cases f with
  | zero => cases h
  | succ f =>
    rcases h with ⟨_, h⟩ | ⟨h, _⟩
    · exact h
    · exact absurd h8 h

theorem runs_jump {ws : List Wd} {F : Int → Int} {f i : Nat} {r : Int} {st : Nat} {res : Int} {m : Nat} {d y n : Int} {j : Nat} (h : Runs ws F f i r st res m) (hw : ws.getD i zeroW = (7, d, y, n)) (hd : 0 ≤ d) (hj : (j : Int) = (i : Int) + 1 + d) : ∃ f' st', Runs ws F f' j r st' res m := by
  obtain ⟨f', h'⟩ := runs_next h (by rw [hw]; show (7 : Int) ≠ 8; decide)
  rw [hw] at h'
  have e1 : overW (7, d, y, n) r = d := by
    unfold overW; simp
  have e2 : regW F (7, d, y, n) r = r := by
    unfold regW; simp
  rw [e1, e2, show i + 1 + d.toNat = j by omega] at h'
  exact ⟨f', _, h'⟩

theorem over_ask {o k y n r : Int} (h : askP o) : overW (o, k, y, n) r = if asksW (o, k, 0, 0) r = true then y else n := by
  unfold askP at h
  unfold overW
  simp only
  rw [if_pos h]
  rfl

theorem reg_ask {F : Int → Int} {o k y n r : Int} (h : askP o) : regW F (o, k, y, n) r = r := by
  unfold askP at h
  unfold regW
  simp only
  rw [if_neg (by omega), if_neg (by omega)]

/-- The words do what the lines do. -/
theorem lay_runs {ls : List Ln} {s : Nat → Nat} {F : Int → Int} (hl : linesP ls) (hs : sizesP ls s) : ∀ (d i f : Nat) (r : Int) (st : Nat) (res : Int) (m : Nat), ls.length ≤ d + i → i < ls.length → Runs (layL ls s ls.length) F f (cnt s i) r st res m → ∃ f', LRuns ls F f' i r res
  | 0, i, f, r, st, res, m, hd, hi, h => by omega
  | d + 1, i, f, r, st, res, m, hd, hi, h => by
    have hc1 : cnt s (i + 1) = cnt s i + s i := rfl
    obtain ⟨⟨lab, ⟨o, k, y, nn⟩, yes, no⟩, hp⟩ : ∃ p, p = ls.getD i zeroL := ⟨_, rfl⟩
    have close : ∀ {j : Nat} {r' : Int} {f1 st1 : Nat}, o ≠ 8 → i < j → j < ls.length → nextL ls i r = j → regW F (ls.getD i zeroL).wd r = r' → Runs (layL ls s ls.length) F f1 (cnt s j) r' st1 res m → ∃ f', LRuns ls F f' i r res := by
      intro j r' f1 st1 h8 hij hj hn hr hh
      obtain ⟨f', h'⟩ := lay_runs hl hs d j f1 r' st1 res m (by omega) hj hh
      exact ⟨f' + 1, .inr ⟨by rw [← hp]; exact h8, by rw [hn, hr]; exact h'⟩⟩
    have nextAsk : askP o → nextL ls i r = if asksW (o, k, 0, 0) r = true then pos ls yes else pos ls no := by
      intro ha
      unfold askP at ha
      unfold nextL
      rw [← hp]
      simp only
      rw [if_pos ha]
      rfl
    rcases size_cases hs hi with h0 | h1 | h3
    · have ho : o = 0 := by
        have : (ls.getD i zeroL).wd.1 = 0 := by
          rcases hs i hi with ⟨a, _⟩ | ⟨_, _, c⟩ | ⟨_, _, c⟩ | ⟨_, _, c⟩
          · exact a
          · omega
          · omega
          · omega
        rw [← hp] at this
        exact this
      subst ho
      have hlt := last_op hl hi (by rw [← hp]; show (0 : Int) ≠ 8; decide)
      refine close (by decide) (Nat.lt_succ_self i) hlt ?_ (r' := r) ?_ (by rw [hc1, h0]; exact h)
      · unfold nextL
        rw [← hp]
        rfl
      · rw [← hp]
        rfl
    · have hw0 : (layL ls s ls.length).getD (cnt s i) zeroW = (wordsL ls s i).getD 0 zeroW := lay_at hs (Nat.le_refl _) hi (q := 0) (by omega)
      have hz : (ls.getD i zeroL).wd.1 ≠ 0 := by
        intro hz
        rcases hs i hi with ⟨_, a⟩ | ⟨a, _⟩ | ⟨a, _⟩ | ⟨a, _⟩
        · omega
        · unfold askP at a; omega
        · unfold askP at a; omega
        · exact a hz
      rw [← hp] at hz
      simp only at hz
      cases ha : askB o with
      | true =>
        have hao := askB_true.1 ha
        obtain ⟨hw, on1, on2⟩ := words_ask hl hs hi h1 hp ha
        have p1 := pos_lt hl hs on1
        have p2 := pos_lt hl hs on2
        rw [hw] at hw0
        have h8 : o ≠ 8 := by unfold askP at hao; omega
        obtain ⟨f', h'⟩ := runs_next h (by rw [hw0]; exact h8)
        rw [hw0] at h'
        simp only [List.getD_cons_zero] at h'
        rw [over_ask hao, reg_ask hao] at h'
        have na := nextAsk hao
        have hr : regW F (ls.getD i zeroL).wd r = r := by rw [← hp]; exact reg_ask hao
        split at h'
        · rename_i hb
          rw [if_pos hb] at na
          rw [show cnt s i + 1 + ((cnt s (pos ls yes) : Int) - (cnt s i : Int) - 1).toNat = cnt s (pos ls yes) by omega] at h'
          exact close h8 on1.1 on1.2 na hr h'
        · rename_i hb
          rw [if_neg hb] at na
          rw [show cnt s i + 1 + ((cnt s (pos ls no) : Int) - (cnt s i : Int) - 1).toNat = cnt s (pos ls no) by omega] at h'
          exact close h8 on2.1 on2.2 na hr h'
      | false =>
        have hna := askB_false.1 ha
        by_cases h7 : o = 7
        · subst h7
          obtain ⟨hw, on1⟩ := words_jump hl hs hi h1 hp
          have p1 := pos_lt hl hs on1
          rw [hw] at hw0
          obtain ⟨f', st', h'⟩ := runs_jump (j := cnt s (pos ls yes)) h hw0 (by omega) (by omega)
          refine close (by decide) on1.1 on1.2 ?_ ?_ h'
          · unfold nextL
            rw [← hp]
            rfl
          · rw [← hp]
            rfl
        · rw [words_other h1 hp ha h7] at hw0
          simp only [List.getD_cons_zero] at hw0
          by_cases h8 : o = 8
          · have := runs_ret h (by rw [hw0]; exact h8)
            rw [hw0] at this
            exact ⟨1, .inl ⟨by rw [← hp]; exact h8, by rw [← hp]; exact this.1⟩⟩
          · have hna' : ¬ (3 ≤ o ∧ o ≤ 6) := hna
            have hlt := last_op hl hi (by rw [← hp]; exact h8)
            obtain ⟨f', h'⟩ := runs_next h (by rw [hw0]; exact h8)
            rw [hw0] at h'
            have e1 : overW (o, k, y, nn) r = 0 := by
              unfold overW
              simp only
              rw [if_neg hna', if_neg h7]
            rw [e1] at h'
            refine close h8 (Nat.lt_succ_self i) hlt ?_ (r' := regW F (o, k, y, nn) r) ?_ (by rw [hc1, h1]; exact h')
            · unfold nextL
              rw [← hp]
              simp only
              rw [if_neg hna', if_neg h7]
            · rw [← hp]
    · obtain ⟨hw, on1, on2⟩ := words_three hl hs hi h3 hp
      have p1 := pos_lt hl hs on1
      have p2 := pos_lt hl hs on2
      have hao : askP o := by
        have : askP (ls.getD i zeroL).wd.1 := by
          rcases hs i hi with ⟨_, c⟩ | ⟨a, _⟩ | ⟨a, _⟩ | ⟨_, _, c⟩
          · omega
          · exact a
          · exact a
          · omega
        rw [← hp] at this
        exact this
      have h8 : o ≠ 8 := by unfold askP at hao; omega
      have hy : y = 0 := by
        have := (line_ok hl hi (by rw [← hp]; unfold askP at hao; show o ≠ 0; omega)).2.1
        rw [← hp] at this
        exact this
      subst hy
      have hw0 : (layL ls s ls.length).getD (cnt s i) zeroW = _ := lay_at hs (Nat.le_refl _) hi (q := 0) (by omega)
      have hw1 := lay_at hs (Nat.le_refl _) hi (q := 1) (by omega)
      have hw2 := lay_at hs (Nat.le_refl _) hi (q := 2) (by omega)
      rw [hw] at hw0 hw1 hw2
      obtain ⟨f', h'⟩ := runs_next h (by rw [hw0]; exact h8)
      rw [hw0] at h'
      simp only [List.getD_cons_zero] at h'
      rw [over_ask hao, reg_ask hao] at h'
      have na := nextAsk hao
      have hr : regW F (ls.getD i zeroL).wd r = r := by rw [← hp]; exact reg_ask hao
      split at h'
      · rename_i hb
        rw [if_pos hb] at na
        obtain ⟨f2, st2, h2⟩ := runs_jump (j := cnt s (pos ls yes)) h' hw1 (by omega) (by omega)
        exact close h8 on1.1 on1.2 na hr h2
      · rename_i hb
        rw [if_neg hb] at na
        obtain ⟨f2, st2, h2⟩ := runs_jump (j := cnt s (pos ls no)) h' hw2 (by omega) (by omega)
        exact close h8 on2.1 on2.2 na hr h2

end Go.Proofs.Ytakcmiijnckaaaa
