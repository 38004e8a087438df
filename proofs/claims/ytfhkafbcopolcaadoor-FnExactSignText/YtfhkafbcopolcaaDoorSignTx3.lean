/- The laws' szSignS and toSignS over rows of signs; a law's row of signs opened. -/
import Derived.Test.YtfhkafbcopolcaaDoorSignTx2
import Derived.Handy
namespace Go.Proofs.YtfhkafbcopolcaaDoor
open Go.ChangeShapes Go.WideShapes Go.ChangeAt Go.RowKit Go.Joins Go.Deep
set_option linter.unusedVariables false

/-- How long the first k texts are together. -/
def sumN (ps : List Sg) : Nat → Nat
  | 0 => 0
  | k + 1 => sumN ps k + (ps.getD k zeroG).2.1.length

theorem sumN_mono (ps : List Sg) : ∀ {i j : Nat}, i ≤ j → sumN ps i ≤ sumN ps j := by
  intro i j h
  induction j with
  | zero => obtain rfl : i = 0 := by omega
            exact Nat.le_refl _
  | succ j ih =>
    by_cases e : i = j + 1
    · rw [e]; exact Nat.le_refl _
    · have := ih (by omega)
      simp only [sumN]
      omega

theorem szSign_any (k : Int) (t : ByteArray) (n : Int) (left : Int) (w : World) (h0 : 0 ≤ left) (h1 : left ≤ 1048576) (ht : (t.size : Int) ≤ 9223372036854775807) :
    Calls Tryd.prog 35 #[.agg #[.int .i64 k, .string t, .int .i64 n], .int .i64 left] w fun e w' => e = .returned (.int .i64 (if left - t.size < 0 then -1 else left - t.size)) ∧ Ext w w' := by
  by_cases h : left - (t.size : Int) < 0
  · have HI : Hid ((if left - (t.size : Int) < 0 then (-1 : Int) else left - t.size) = -1) := if_pos h
    rw [HI.out]
    go_enter Tryd.func35, Tryd.ntmps35
    go_wp2
    go_ret
    exact ⟨rfl, Ext.one _ _⟩
  · have HI : Hid ((if left - (t.size : Int) < 0 then (-1 : Int) else left - t.size) = left - t.size) := if_neg h
    rw [HI.out]
    go_enter Tryd.func35, Tryd.ntmps35
    go_wp2
    go_ret
    exact ⟨rfl, Ext.one _ _⟩

set_option maxRecDepth 100000 in
set_option maxHeartbeats 1000000 in
theorem szSignS_any (a : Option Addr) (cap : Nat) (ps : List Sg) (w : World) (hl : ps.length ≤ 9223372036854775807) (h : Signs w a ps) (hS : ∀ p ∈ ps, p.2.1.length ≤ 9223372036854775807) :
    Calls Tryd.prog 17 #[.slice a ps.length cap, .int .i64 1048576] w fun e w' => ∃ z : Int, e = .returned (.int .i64 z) ∧ (z = -1 ∨ (0 ≤ z ∧ ps.length + sumN ps ps.length ≤ 1048576)) ∧ Ext w w' := by
  obtain ⟨n, hn⟩ : ∃ n, n = ps.length := ⟨_, rfl⟩
  have HA : Hid (Signs w a ps ∧ n = ps.length ∧ (∀ p ∈ ps, p.2.1.length ≤ 9223372036854775807)) := ⟨h, hn, hS⟩
  rw [← hn]
  rw [← hn] at hl
  clear h hn hS
  by_cases hbig : 1048576 < n
  · go_enter Tryd.func17, Tryd.ntmps17
    go_wp2
    go_ret
    exact ⟨-1, rfl, .inl rfl, Ext.refl _⟩
  · have hl' : n ≤ 1048576 := by omega
    clear hl
    go_enter Tryd.func17, Tryd.ntmps17
    go_wp2_with fail
    go_loopw [1, 5] (fun lv i wr => ∃ (k : Nat) (L : Int), i = .int .i64 k ∧ lv = .int .i64 L ∧ k ≤ n ∧ 0 ≤ L ∧ L ≤ 1048576 ∧ Hid (L = 1048576 - (n : Int) - (sumN ps k : Int)) ∧ Ext w wr) (fun _ i _ => n - (intOf i).toNat)
    case atStart => exact ⟨0, 1048576 - (n : Int), rfl, rfl, by omega, by omega, by omega, by unfold Hid; simp [sumN], Ext.refl _⟩
    case round =>
      obtain ⟨k, L, rfl, rfl, hk, hL0, hL1, HL, hE⟩ := hrel
      by_cases hlt : k < n
      · have bk : (k : Int) < (n : Int) := by omega
        obtain ⟨⟨kd, tl, nm⟩, hp⟩ : ∃ p, p = ps.getD k zeroG := ⟨_, rfl⟩
        have hkp : k < ps.length := by have := HA.out.2.1; omega
        obtain ⟨b1, o1, rfl, p1⟩ := (HA.out.1.ext hE).tri (k := k) hkp
        rw [← hp] at p1
        simp only at p1
        have htl : tl.length ≤ 9223372036854775807 := by
          have := HA.out.2.2 (ps.getD k zeroG) (by rw [List.getD_eq_getElem?_getD, List.getElem?_eq_getElem hkp]; exact List.getElem_mem hkp)
          rw [← hp] at this
          exact this
        obtain ⟨T, hT⟩ : ∃ T, T = txt tl := ⟨_, rfl⟩
        have hTs : T.size = tl.length := by rw [hT]; show tl.toArray.size = _; simp
        rw [← hT] at p1
        have HN : Hid ((sumN ps (k + 1) : Int) = (sumN ps k : Int) + (T.size : Int)) := by
          unfold Hid
          rw [hTs]
          have : sumN ps (k + 1) = sumN ps k + tl.length := by
            show sumN ps k + (ps.getD k zeroG).2.1.length = _
            rw [← hp]
          omega
        obtain ⟨sz, hsz⟩ : ∃ sz : Int, sz = (T.size : Int) := ⟨_, rfl⟩
        have HZ : Hid (∀ w : World, Calls Tryd.prog 35 #[.agg #[.int .i64 kd, .string T, .int .i64 nm], .int .i64 L] w fun e w' => e = .returned (.int .i64 (if L - sz < 0 then -1 else L - sz)) ∧ Ext w w') := fun w => by
          rw [hsz]; exact szSign_any kd T nm L w hL0 hL1 (by omega)
        have hsz0 : 0 ≤ sz := by omega
        rw [← hsz] at HN
        obtain ⟨c0, c1, c2⟩ := p1
        have HE : Hid (Ext w wr) := hE
        clear hp hT hTs hsz hE htl
        by_cases hneg : L - sz < 0
        · have HZ' : Hid (∀ w : World, Calls Tryd.prog 35 #[.agg #[.int .i64 kd, .string T, .int .i64 nm], .int .i64 L] w fun e w' => e = .returned (.int .i64 (-1)) ∧ Ext w w') := fun w => by
            have := HZ.out w
            rw [if_pos hneg] at this
            exact this
          clear HZ hneg
          go_wp2_with (go_at_call 35; refine (HZ'.out _).mono ?_; rintro e w2 ⟨rfl, e2⟩)
          go_ret
          exact ⟨-1, rfl, .inl rfl, HE.out.trans e2⟩
        · obtain ⟨L', hL'⟩ : ∃ L', L' = L - sz := ⟨_, rfl⟩
          have HZ' : Hid (∀ w : World, Calls Tryd.prog 35 #[.agg #[.int .i64 kd, .string T, .int .i64 nm], .int .i64 L] w fun e w' => e = .returned (.int .i64 L') ∧ Ext w w') := fun w => by
            have := HZ.out w
            rw [if_neg hneg, ← hL'] at this
            exact this
          have HL' : Hid (L' = L - sz) := hL'
          have hb0 : 0 ≤ L' := by omega
          have hb1 : L' ≤ 1048576 := by omega
          clear HZ hneg hL'
          go_wp2_with (go_at_call 35; refine (HZ'.out _).mono ?_; rintro e w2 ⟨rfl, e2⟩)
          go_roundw
          case rel => exact ⟨k + 1, L', by go_num, rfl, by omega, hb0, hb1, by have h1 := HL'.out; have h2 := HL.out; have h3 := HN.out; unfold Hid; omega, HE.out.trans e2⟩
          case measure => simp [intOf]; omega
      · have bk : ¬ ((k : Int) < (n : Int)) := by omega
        have hkn : k = n := by omega
        have HF : Hid (n + sumN ps n ≤ 1048576) := by have := HL.out; rw [hkn] at this; unfold Hid; omega
        clear hkn HL
        go_wp2
        go_ret
        exact ⟨L, rfl, .inr ⟨hL0, HF.out⟩, hE⟩

set_option maxHeartbeats 800000 in
theorem toSign_any (k : Int) (t : ByteArray) (n : Int) (w : World) : Calls Tryd.prog 37 #[.agg #[.int .i64 k, .string t, .int .i64 n]] w fun e w' => e = .returned (.agg #[.int .i64 k, .string t, .int .i64 n]) ∧ Ext w w' := by
  go_enter Tryd.func37, Tryd.ntmps37
  go_wp2
  refine bodyPost_ret (v := .agg #[.int .i64 k, .string t, .int .i64 n]) (by simp [results, Tryd.results37, go_sem]) rfl ⟨rfl, ?_⟩
  exact ((Ext.one _ _).alloc _).alloc _

/-- What make lays for a slice of signs: noughts that may be written. -/
theorem made_signs {w : World} {base g n c : Nat} (h : w.ownsRow base 44 3 (.slice (some ⟨g, 0, none⟩) n c) n (madeCells (Value.agg #[.int .i64 0, .string ⟨#[]⟩, .int .i64 0]).cells (n * 3)).toList) :
    g < w.heap.size ∧ (∀ j, w.frozen? ⟨g, j, none⟩ = false) ∧ ∀ j, j < n → Tri w g (j * 3) 0 ⟨#[]⟩ 0 := by
  rcases h.2 with ⟨hn, _⟩ | ⟨g', cap, cur, hv, _, hh, _, _, hs, ht⟩
  · cases hn
  · obtain ⟨rfl, _⟩ : g = g' ∧ c = cap := by injection hv with h1 h2 h3; injection h1 with h1; injection h1 with a b c; exact ⟨a, h3⟩
    have cell : ∀ i v, (madeCells (Value.agg #[.int .i64 0, .string ⟨#[]⟩, .int .i64 0]).cells (n * 3)).toList[i]? = some v → i < n * 3 → w.cell? ⟨g, i, none⟩ = some v := by
      intro i v hv hi
      rw [cell_of_row w g i cur 44 _ hh]
      rw [← ht, List.getElem?_take, if_pos hi] at hv
      simpa using hv
    refine ⟨(Array.getElem?_eq_some_iff.1 hh).1, fun j => frozen_of_row w g j cur 44 hh, fun j hj => ⟨cell _ _ ?_ (by omega), cell _ _ ?_ (by omega), cell _ _ ?_ (by omega)⟩⟩
    · have e1 : j * 3 % 3 = 0 := by omega
      have e2 : j * 3 < n * 3 := by omega
      simp [madeCells, Value.cells, e1, e2]
    · have e1 : (j * 3 + 1) % 3 = 1 := by omega
      have e2 : j * 3 + 1 < n * 3 := by omega
      simp [madeCells, Value.cells, e1, e2]
    · have e1 : (j * 3 + 2) % 3 = 2 := by omega
      have e2 : j * 3 + 2 < n * 3 := by omega
      simp [madeCells, Value.cells, e1, e2]

theorem set_same8 {W : World} {a : Addr} {u : Value} (v : Value) (h : W.cell? a = some u) : (W.setCell a v).cell? a = some v := World.cell?_setCell_same _ _ _ h
theorem set_far8 {W : World} {a q : Addr} {v : Value} (h : q ≠ a) : (W.setCell a v).cell? q = W.cell? q := World.cell?_setCell_other _ _ _ _ (Ne.symm h)
theorem off_ne8 {g i j : Nat} (h : i ≠ j) : (⟨g, i, none⟩ : Addr) ≠ ⟨g, j, none⟩ := fun e => h (by injection e)

set_option maxRecDepth 100000 in
set_option maxHeartbeats 2000000 in
theorem toSignS_any (a : Option Addr) (cap : Nat) (ps : List Sg) (w : World) (hl : ps.length ≤ 1048576) (h : Signs w a ps) :
    Calls Tryd.prog 19 #[.slice a ps.length cap] w fun e w' => ∃ g, e = .returned (.slice (some ⟨g, 0, none⟩) ps.length ps.length) ∧ w.heap.size ≤ g ∧ Signs w' (some ⟨g, 0, none⟩) ps ∧ Ext w w' := by
  obtain ⟨i0, hi, hz0, hz1, hz2⟩ := info_parts Tryd.infoG
  obtain ⟨n, hn⟩ : ∃ n, n = ps.length := ⟨_, rfl⟩
  have HA : Hid (Signs w a ps ∧ n = ps.length) := ⟨h, hn⟩
  rw [← hn]
  have hl' : n ≤ 1048576 := by omega
  clear h hn hl
  go_enter Tryd.func19, Tryd.ntmps19
  go_wp2_with (at_make; refine wpList_make_full _ rfl _ _ 24 rfl w.heap.size 44 i0 (.agg #[.int .i64 0, .string ⟨#[]⟩, .int .i64 0]) 3 Tryd.underlying24 hi hz0 hz1 _ _ _ _ n rfl rfl (by omega) (by omega) (by rw [hz2]; omega) (by unfold maxLen; omega) (Nat.le_refl _) ?_; intro w0 hown0 hgrow0)
  have b0 : Ext w w0 := (Below.refl _ w).grown hgrow0 (Nat.le_refl _) (fun k hk => by cases hk)
  have m0 := made_signs hown0
  clear hown0 hgrow0
  obtain ⟨g, hg⟩ : ∃ g, g = w.heap.size := ⟨_, rfl⟩
  rw [← hg] at m0 ⊢
  have HM : Hid (g < w0.heap.size ∧ (∀ j, w0.frozen? ⟨g, j, none⟩ = false) ∧ ∀ j, j < n → Tri w0 g (j * 3) 0 ⟨#[]⟩ 0) := m0
  have HG : Hid (g = w.heap.size) := hg
  clear m0 hg
  go_loopw [4] (fun i wr => ∃ k : Nat, i = .int .i64 k ∧ k ≤ n ∧ Hid (Below w.heap.size w wr ∧ g < wr.heap.size ∧ (∀ j, wr.frozen? ⟨g, j, none⟩ = false) ∧ ∀ j, j < n → ∃ x t m, Tri wr g (j * 3) x t m ∧ (j < k → (x = (ps.getD j zeroG).1 ∧ t = txt (ps.getD j zeroG).2.1 ∧ m = (ps.getD j zeroG).2.2)))) (fun i _ => n - (intOf i).toNat)
  case atStart => exact ⟨0, rfl, by omega, b0, HM.out.1, HM.out.2.1, fun j hj => ⟨0, ⟨#[]⟩, 0, HM.out.2.2 j hj, fun h => by omega⟩⟩
  case round =>
    obtain ⟨k, rfl, hk, HR⟩ := hrel
    clear b0 HM
    by_cases hlt : k < n
    · have bk : (k : Int) < (n : Int) := by omega
      obtain ⟨⟨kd, tl, nm⟩, hp⟩ : ∃ p, p = ps.getD k zeroG := ⟨_, rfl⟩
      obtain ⟨b, off, ha, hq⟩ := (Signs.ext HA.out.1 HR.out.1).tri (k := k) (by have := HA.out.2; omega)
      rw [← hp] at hq
      simp only at hq
      subst ha
      obtain ⟨T, hT⟩ : ∃ T, T = txt tl := ⟨_, rfl⟩
      rw [← hT] at hq
      obtain ⟨c0, c1, c2⟩ := hq
      have HP : Hid (kd = (ps.getD k zeroG).1 ∧ T = txt (ps.getD k zeroG).2.1 ∧ nm = (ps.getD k zeroG).2.2) := by rw [← hp]; exact ⟨rfl, hT, rfl⟩
      clear hp hT
      go_wp2_with fail
      refine (toSign_any kd T nm _).mono ?_
      rintro e w2 ⟨rfl, hb2⟩
      have HC2 : Hid (Below w.heap.size w w2 ∧ g < w2.heap.size ∧ (∀ j, w2.frozen? ⟨g, j, none⟩ = false) ∧ ∀ j, j < n → ∃ x t m, Tri w2 g (j * 3) x t m ∧ (j < k → (x = (ps.getD j zeroG).1 ∧ t = txt (ps.getD j zeroG).2.1 ∧ m = (ps.getD j zeroG).2.2))) := by
        obtain ⟨hb, hgs, hfr, hcell⟩ := HR.out
        refine ⟨hb.trans (Below.mono hb2 hb.size), Nat.lt_of_lt_of_le hgs hb2.size, fun j => (hb2.frozen (p := ⟨g, j, none⟩) hgs).trans (hfr j), fun j hj => ?_⟩
        obtain ⟨x, t, m, e1, e2⟩ := hcell j hj
        exact ⟨x, t, m, e1.ext hb2, e2⟩
      obtain ⟨x, t, m, ⟨d0, d1, d2⟩, _⟩ := HC2.out.2.2.2 k hlt
      have f := HC2.out.2.2.1
      clear hb2 HR c0 c1 c2
      go_wp2
      go_roundw
      case rel =>
        obtain ⟨hb, hgs, hfr, hcell⟩ := HC2.out
        have hgw : w.heap.size ≤ g := by have := HG.out; omega
        refine ⟨k + 1, by go_num, by omega, ((hb.setCell hgw _).setCell hgw _).setCell hgw _, by rw [World.size_setCell, World.size_setCell, World.size_setCell]; exact hgs, fun j => by rw [World.frozen?_setCell, World.frozen?_setCell, World.frozen?_setCell]; exact hfr j, fun j hj => ?_⟩
        obtain ⟨x', t', m', e1, e2⟩ := hcell j hj
        by_cases hjk : j = k
        · subst hjk
          refine ⟨kd, T, nm, ⟨?_, ?_, ?_⟩, fun _ => HP.out⟩
          · rw [set_far8 (off_ne8 (by omega)), set_far8 (off_ne8 (by omega))]; exact set_same8 _ e1.1
          · rw [set_far8 (off_ne8 (by omega))]; refine set_same8 (u := .string t') _ ?_; rw [set_far8 (off_ne8 (by omega))]; exact e1.2.1
          · refine set_same8 (u := .int .i64 m') _ ?_; rw [set_far8 (off_ne8 (by omega)), set_far8 (off_ne8 (by omega))]; exact e1.2.2
        · refine ⟨x', t', m', ⟨?_, ?_, ?_⟩, fun h => e2 (by omega)⟩
          · rw [set_far8 (off_ne8 (by omega)), set_far8 (off_ne8 (by omega)), set_far8 (off_ne8 (by omega))]; exact e1.1
          · rw [set_far8 (off_ne8 (by omega)), set_far8 (off_ne8 (by omega)), set_far8 (off_ne8 (by omega))]; exact e1.2.1
          · rw [set_far8 (off_ne8 (by omega)), set_far8 (off_ne8 (by omega)), set_far8 (off_ne8 (by omega))]; exact e1.2.2
      case measure => simp [intOf]; omega
    · have hkn : k = n := by omega
      have bk : ¬ ((k : Int) < (n : Int)) := by omega
      obtain ⟨hb, hgs, _, hcell⟩ := HR.out
      have HE : Hid (Signs wr (some ⟨g, 0, none⟩) ps) := fun hp => by
        refine ⟨g, 0, rfl, fun j hj => ?_⟩
        obtain ⟨x, t, m, e1, e2⟩ := hcell j (by have := HA.out.2; omega)
        obtain ⟨r1, r2, r3⟩ := e2 (by have := HA.out.2; omega)
        rw [← r1, ← r2, ← r3, Nat.zero_add]
        exact e1
      have HB : Hid (Below w.heap.size w wr) := hb
      clear hcell hkn hgs hb HR
      go_wp2
      go_ret
      exact ⟨g, rfl, by have := HG.out; omega, HE.out, HB.out⟩

theorem cellsLS : Tryd.prog.cellsOf 63 = 3 := by kernel_rfl
theorem cells3s : Tryd.prog.cellsOf 3 = 1 := by kernel_rfl
theorem cells9s : Tryd.prog.cellsOf 9 = 1 := by kernel_rfl

end Go.Proofs.YtfhkafbcopolcaaDoor
