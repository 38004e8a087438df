/- What impl's wordsOf answers: the words of a line. -/
import Derived.Test.YthflflhcbnianaaDoorCrPack25
import Derived.Test.YthflflhcbnianaaDoorCrPack12
import Derived.Deep.AppendLies
import Derived.Deep.RegionHeld3
import Derived.Deep.Cut
/- Rows of numbers that a call made itself, each number told by its place. -/
namespace Go.Proofs.YthflflhcbnianaaDoor
open Go.RowKit
set_option linter.unusedVariables false

/-- Block g holds n numbers from its head on, f told, which may be written. -/
def RowF (w : World) (g n : Nat) (f : Nat → Int) : Prop := g < w.heap.size ∧ ∀ j, j < n → w.cell? ⟨g, j, none⟩ = some (.int .i64 (f j)) ∧ w.frozen? ⟨g, j, none⟩ = false

theorem RowF.below {w w' : World} {g n B : Nat} {f : Nat → Int} (h : RowF w g n f) (hb : Below B w w') (hB : g < B) : RowF w' g n f :=
  ⟨Nat.lt_of_lt_of_le h.1 hb.size, fun j hj => ⟨(hb.cell (p := ⟨g, j, none⟩) hB).trans (h.2 j hj).1, (hb.frozen (p := ⟨g, j, none⟩) hB).trans (h.2 j hj).2⟩⟩

theorem RowF.ext {w w' : World} {g n : Nat} {f : Nat → Int} (h : RowF w g n f) (hE : Ext w w') : RowF w' g n f := h.below hE h.1

theorem RowF.as {w : World} {g n : Nat} {f t : Nat → Int} (h : RowF w g n f) (he : ∀ j, j < n → f j = t j) : RowF w g n t :=
  ⟨h.1, fun j hj => ⟨by rw [← he j hj]; exact (h.2 j hj).1, (h.2 j hj).2⟩⟩

/-- One number is written. -/
def setF (f : Nat → Int) (i : Nat) (v : Int) : Nat → Int := fun j => if j = i then v else f j

theorem RowF.set {w : World} {g n : Nat} {f : Nat → Int} (h : RowF w g n f) {i : Nat} (hi : i < n) (v : Int) : RowF (w.setCell ⟨g, i, none⟩ (.int .i64 v)) g n (setF f i v) := by
  refine ⟨by rw [World.size_setCell]; exact h.1, fun j hj => ⟨?_, by rw [World.frozen?_setCell]; exact (h.2 j hj).2⟩⟩
  unfold setF
  by_cases e : j = i
  · subst e; rw [if_pos rfl]; exact set_same _ (h.2 j hj).1
  · rw [if_neg e, set_far (off_ne e)]; exact (h.2 j hj).1

theorem RowF.far {w : World} {g n : Nat} {f : Nat → Int} (h : RowF w g n f) {k i : Nat} (hk : g ≠ k) (v : Value) : RowF (w.setCell ⟨k, i, none⟩ v) g n f :=
  ⟨by rw [World.size_setCell]; exact h.1, fun j hj => ⟨by rw [set_far (fun e => hk (by injection e))]; exact (h.2 j hj).1, by rw [World.frozen?_setCell]; exact (h.2 j hj).2⟩⟩

/-- The values of the first n. -/
def valsF (f : Nat → Int) (n : Nat) : List Value := (List.range n).map fun i => .int .i64 (f i)

theorem valsF_succ (f : Nat → Int) (n : Nat) : valsF f n ++ [.int .i64 (f n)] = valsF f (n + 1) := by simp [valsF, List.range_succ]

theorem valsF_at (f : Nat → Int) {n j : Nat} (h : j < n) : (valsF f n)[j]? = some (.int .i64 (f j)) := by simp [valsF, h]

theorem own_rowF {w : World} {B n : Nat} {v : Value} {f : Nat → Int} (h : w.ownsRow B 3 1 v n (valsF f n)) (hn : 0 < n) : ∃ g cap, v = .slice (some ⟨g, 0, none⟩) n cap ∧ n ≤ cap ∧ B ≤ g ∧ RowF w g n f := by
  have hown := h
  rcases h.2 with ⟨rfl, h0⟩ | ⟨g, cap, cur, rfl, hg, hh, hnc, hcp, hcs, htake⟩
  · omega
  · refine ⟨g, cap, rfl, hnc, hg, (Array.getElem?_eq_some_iff.1 hh).1, fun j hj => ⟨?_, frozen_of_row w g j cur 3 hh⟩⟩
    have hc := hown.cells (g := g) rfl j _ (valsF_at f hj)
    rwa [Addr.add_lit, Nat.zero_add] at hc

theorem ext_row {w W W' : World} {row : Option Nat} (h : Ext w W) (hg : W.grownBy W' row) (hr : ∀ x, row = some x → w.heap.size ≤ x) : Ext w W' :=
  ⟨hg.os.trans h.os, hg.tape.trans h.tape, hg.output.trans h.output, Nat.le_trans h.size hg.size, fun i hi => (hg.block i (Nat.lt_of_lt_of_le hi h.size) (fun e => by have := hr i e.symm; omega)).trans (h.block i hi)⟩

theorem own_from {w : World} {base e size : Nat} {v : Value} {n : Nat} {xs : List Value} (h : w.ownsRow base e size v n xs) {x : Nat} (hx : v.ownBlock = some x) : base ≤ x := (h.lt x hx).1

/-- One more number behind a row of the call's own. -/
theorem push_ext {w wr w' : World} {B n : Nat} {v : Value} {f : Nat → Int} (hE : Ext w wr) (hB : w.heap.size ≤ B) (h : wr.ownsRow B 3 1 v n (valsF f n)) {o : Obj} (hg : (wr.alloc o).grownBy w' v.ownBlock) : Ext w w' :=
  ext_row (hE.alloc o) hg fun x hx => Nat.le_trans hB (own_from h hx)

set_option maxRecDepth 100000 in
set_option maxHeartbeats 4000000 in
theorem begins_any (g n cap : Nat) (s : Nat → Nat) (w : World) (hn : 0 < n) (hn6 : n ≤ 600) (hs : ∀ i, i < n → s i ≤ 3) (h : RowF w g n (fun i => (s i : Int))) :
    Calls Tryd.prog 37 #[.slice (some ⟨g, 0, none⟩) n cap] w fun e w' => ∃ q c, e = .returned (.slice (some ⟨q, 0, none⟩) n c) ∧ w.heap.size ≤ q ∧ RowF w' q n (fun i => (cnt s i : Int)) ∧ Ext w w' := by
  obtain ⟨i0, hi, hz0, hz1, hz2⟩ := info_parts Tryd.infoI
  have HA : Hid (RowF w g n (fun i => (s i : Int)) ∧ 0 < n ∧ ∀ i, i < n → s i ≤ 3) := ⟨h, hn, hs⟩
  have HC : Hid (∀ k, k ≤ n → cnt s k ≤ 1800) := fun k hk => by
    have : ∀ k, k ≤ n → cnt s k ≤ 3 * k := by
      intro k
      induction k with
      | zero => intro _; exact Nat.le_refl _
      | succ k ih =>
        intro hk
        have := ih (by omega)
        have := HA.out.2.2 k (by omega)
        show cnt s k + s k ≤ _
        omega
    have := this k hk
    omega
  clear h hn hs
  go_enter Tryd.func37, Tryd.ntmps37
  go_wp2_with fail
  have X1 : Hid (Ext w (w.alloc (.cells #[] 3)) ∧ (w.alloc (.cells #[] 3)).ownsRow w.heap.size 3 1 (.slice (some ⟨w.heap.size, 0, none⟩) 0 0) 0 (valsF (fun i => (cnt s i : Int)) 0)) := ⟨Ext.one _ _, World.ownsRow_lit (e := 3) (size := 1) w #[] 0 (Nat.le_refl _) (by decide) rfl⟩
  generalize w.alloc (.cells #[] 3) = W1 at *
  go_loopw [3, 4, 5] (fun ov av iv wr => ∃ k : Nat, iv = .int .i64 k ∧ av = .int .i64 (cnt s k : Nat) ∧ k ≤ n ∧ Hid (wr.ownsRow w.heap.size 3 1 ov k (valsF (fun i => (cnt s i : Int)) k) ∧ Ext w wr)) (fun _ _ iv _ => n - (intOf iv).toNat)
  case atStart => exact ⟨0, rfl, rfl, by omega, X1.out.2, X1.out.1⟩
  case round =>
    obtain ⟨k, rfl, rfl, hk, HX⟩ := hrel
    clear X1
    by_cases hlt : k < n
    · have bk : (k : Int) < (n : Int) := by omega
      have hown : wr.ownsRow w.heap.size 3 1 u3 k (valsF (fun i => (cnt s i : Int)) k) := HX.out.1
      have hz4 : w.heap.size ≤ wr.heap.size := HX.out.2.size
      have hck : cnt s k ≤ 1800 := HC.out k (by omega)
      have hsk : s k ≤ 3 := HA.out.2.2 k hlt
      generalize hc : cnt s k = c at *
      go_wp2_with (at_builtin; refine wpList_append_own _ rfl _ _ 44 rfl w.heap.size 3 i0 (.int .i64 0) 1 8 Tryd.underlying44 hi hz0 hz1 hz2 rfl (by decide) _ k _ rfl (hown.alloc _) ⟨wr.heap.size, 0, none⟩ 1 1 [.int .i64 (c : Int)] rfl rfl ?c1 ?c2 ?c3 ?c4 ?c5 ?_)
      case c1 =>
        intro j u hu
        have := (CellsAt.new wr [.int .i64 (c : Int)] 3).2 j u hu
        rw [Addr.add_lit, Nat.zero_add]
        exact this
      case c2 => intro u hu; simp at hu; rcases hu with rfl; rfl
      case c3 => unfold maxLen; omega
      case c4 => omega
      case c5 => simp; omega
      · intro v' w5 hown5 hgrow5 _
        have X5 : Hid (w5.ownsRow w.heap.size 3 1 v' (k + 1) (valsF (fun i => (cnt s i : Int)) (k + 1)) ∧ Ext w w5) := by
          refine ⟨?_, push_ext HX.out.2 (Nat.le_refl _) hown hgrow5⟩
          rw [← valsF_succ, hc]
          exact hown5
        have b0 := (HA.out.1.ext X5.out.2).2 k hlt
        obtain ⟨b0, _⟩ := b0
        clear hgrow5 hown5 hown HX
        have HS : Hid (cnt s (k + 1) = c + s k) := by show cnt s k + s k = _; rw [hc]
        go_wp2
        go_roundw
        case rel => exact ⟨k + 1, by go_num, by rw [HS.out]; go_num, by omega, X5.out⟩
        case measure => simp [intOf]; omega
    · have hkn : k = n := by omega
      have bk : ¬ ((k : Int) < (n : Int)) := by omega
      obtain ⟨q, c, hv, hc, hq, hr⟩ := own_rowF (by rw [hkn] at HX; exact HX.out.1) HA.out.2.1
      subst hv
      have HR : Hid (w.heap.size ≤ q ∧ RowF wr q n (fun i => (cnt s i : Int)) ∧ Ext w wr) := ⟨hq, hr, HX.out.2⟩
      clear hr hq HX hkn hc
      go_wp2
      go_ret
      exact ⟨q, ⟨c, rfl⟩, HR.out⟩

/-- Where a way leads: -1 without one. -/
def wayV (ls : List Ln) (s : ByteArray) : Int := if s = noText then -1 else atV ls s

/-- Two rows of their own, of k numbers each: where the ways of the first k lines lead. -/
def TwoF (ls : List Ln) (w W : World) (k g1 c1 g2 c2 : Nat) : Prop :=
  W.ownsRow w.heap.size 3 1 (.slice (some ⟨g1, 0, none⟩) k c1) k (valsF (fun i => wayV ls (ls.getD i zeroL).yes) k) ∧ W.ownsRow w.heap.size 3 1 (.slice (some ⟨g2, 0, none⟩) k c2) k (valsF (fun i => wayV ls (ls.getD i zeroL).no) k) ∧ g1 ≠ g2 ∧ Ext w W

/-- The same where the first one has one more. -/
def TwoG (ls : List Ln) (w W : World) (k g1 c1 g2 c2 : Nat) : Prop :=
  W.ownsRow w.heap.size 3 1 (.slice (some ⟨g1, 0, none⟩) (k + 1) c1) (k + 1) (valsF (fun i => wayV ls (ls.getD i zeroL).yes) (k + 1)) ∧ W.ownsRow w.heap.size 3 1 (.slice (some ⟨g2, 0, none⟩) k c2) k (valsF (fun i => wayV ls (ls.getD i zeroL).no) k) ∧ g1 ≠ g2 ∧ Ext w W

theorem valsF_way {f : Nat → Int} {k : Nat} {v : Int} (h : v = f k) : valsF f k ++ [.int .i64 v] = valsF f (k + 1) := by rw [h, valsF_succ]

theorem own_block {w w' : World} {B e size g n c : Nat} {xs : List Value} (h : w.ownsRow B e size (.slice (some ⟨g, 0, none⟩) n c) n xs) (hb : w'.heap[g]? = w.heap[g]?) : w'.ownsRow B e size (.slice (some ⟨g, 0, none⟩) n c) n xs := by
  refine ⟨h.1, ?_⟩
  rcases h.2 with ⟨hn, _⟩ | ⟨g', cap, cur, hv, hg, hh, rest⟩
  · cases hn
  · have hv' := hv
    injection hv with h1 _ _
    injection h1 with h1
    injection h1 with h1 _ _
    subst h1
    exact .inr ⟨g, cap, cur, hv', hg, hb.trans hh, rest⟩

theorem own_lt11 {w : World} {B e size g n c : Nat} {xs : List Value} (h : w.ownsRow B e size (.slice (some ⟨g, 0, none⟩) n c) n xs) : B ≤ g ∧ g < w.heap.size := h.lt g rfl

theorem TwoF.ext {ls : List Ln} {w W W' : World} {k g1 c1 g2 c2 : Nat} (h : TwoF ls w W k g1 c1 g2 c2) (hE : Ext W W') : TwoF ls w W' k g1 c1 g2 c2 :=
  ⟨own_below h.1 hE, own_below h.2.1 hE, h.2.2.1, h.2.2.2.trans hE⟩

theorem TwoG.first {ls : List Ln} {w W W' : World} {k g1 c1 g2 c2 h1 b1 : Nat} {o : Obj} (h : TwoF ls w W k g1 c1 g2 c2) (ho : W'.ownsRow w.heap.size 3 1 (.slice (some ⟨h1, 0, none⟩) (k + 1) b1) (k + 1) (valsF (fun i => wayV ls (ls.getD i zeroL).yes) (k + 1)))
    (hg : (W.alloc o).grownBy W' (Value.slice (some ⟨g1, 0, none⟩) k c1).ownBlock) (hl : (Value.slice (some ⟨g1, 0, none⟩) k c1).ownBlock = some h1 ∨ h1 = W.heap.size + 1) (hlt : h1 < W'.heap.size) : TwoG ls w W' k h1 b1 g2 c2 := by
  obtain ⟨p1, p2, pne, pe⟩ := h
  have l1 := own_lt11 p1
  have l2 := own_lt11 p2
  refine ⟨ho, own_block (own_block p2 (Below.heap_alloc W o g2 l2.2)) (hg.block g2 (by simp; omega) (fun e => pne (Option.some.inj e).symm)), ?_, ext_row (pe.alloc o) hg fun x hx => ?_⟩
  · rcases hl with hl | hl
    · have : g1 = h1 := Option.some.inj hl
      intro e
      exact pne (this.trans e)
    · omega
  · have : g1 = x := Option.some.inj hx
    have := l1.1
    omega

theorem TwoG.second {ls : List Ln} {w W W' : World} {k g1 c1 g2 c2 h2 b2 : Nat} {o : Obj} (h : TwoG ls w W k g1 c1 g2 c2) (ho : W'.ownsRow w.heap.size 3 1 (.slice (some ⟨h2, 0, none⟩) (k + 1) b2) (k + 1) (valsF (fun i => wayV ls (ls.getD i zeroL).no) (k + 1)))
    (hg : (W.alloc o).grownBy W' (Value.slice (some ⟨g2, 0, none⟩) k c2).ownBlock) (hl : (Value.slice (some ⟨g2, 0, none⟩) k c2).ownBlock = some h2 ∨ h2 = W.heap.size + 1) (hlt : h2 < W'.heap.size) : TwoF ls w W' (k + 1) g1 c1 h2 b2 := by
  obtain ⟨p1, p2, pne, pe⟩ := h
  have l1 := own_lt11 p1
  have l2 := own_lt11 p2
  refine ⟨own_block (own_block p1 (Below.heap_alloc W o g1 l1.2)) (hg.block g1 (by simp; omega) (fun e => pne (Option.some.inj e))), ho, ?_, ext_row (pe.alloc o) hg fun x hx => ?_⟩
  · rcases hl with hl | hl
    · have : g2 = h2 := Option.some.inj hl
      intro e
      exact pne (e.trans this.symm)
    · have := hg.size
      simp at this
      omega
  · have : g2 = x := Option.some.inj hx
    have := l2.1
    omega

set_option maxRecDepth 100000 in
set_option maxHeartbeats 8000000 in
theorem ways11_any (a : Option Addr) (cap : Nat) (ls : List Ln) (w : World) (hn : 0 < ls.length) (hl : ls.length ≤ 600) (h : Lns w a ls) :
    Calls Tryd.prog 36 #[.slice a ls.length cap] w fun e w' => ∃ q c q2 c2, e = .returned (.tuple #[.slice (some ⟨q, 0, none⟩) ls.length c, .slice (some ⟨q2, 0, none⟩) ls.length c2]) ∧ w.heap.size ≤ q ∧ w.heap.size ≤ q2 ∧ RowF w' q ls.length (fun i => wayV ls (ls.getD i zeroL).yes) ∧ RowF w' q2 ls.length (fun i => wayV ls (ls.getD i zeroL).no) ∧ Ext w w' := by
  obtain ⟨i0, hi, hz0, hz1, hz2⟩ := info_parts Tryd.infoI
  obtain ⟨n, hnn⟩ : ∃ n, n = ls.length := ⟨_, rfl⟩
  have HA : Hid (Lns w a ls ∧ n = ls.length ∧ 0 < n) := ⟨h, hnn, by omega⟩
  have HAT : Hid (∀ (s : ByteArray) (v : Int) (w' : World), v = atV ls s → Ext w w' → Calls Tryd.prog 76 #[.slice a n cap, .string s] w' fun e w'' => e = .returned (.int .i64 v) ∧ Ext w' w'') := fun s v w' hv he => by
    rw [hv, hnn]
    exact at_any _ cap ls s w' (by omega) (h.ext he)
  rw [← hnn]
  have hl' : n ≤ 600 := by omega
  clear h hn hl hnn
  go_enter Tryd.func36, Tryd.ntmps36
  go_wp2_with fail
  have X1 : Hid (Ext w ((w.alloc (.cells #[] 3)).alloc (.cells #[] 3)) ∧ ((w.alloc (.cells #[] 3)).alloc (.cells #[] 3)).ownsRow w.heap.size 3 1 (.slice (some ⟨w.heap.size, 0, none⟩) 0 0) 0 (valsF (fun i => wayV ls (ls.getD i zeroL).yes) 0) ∧ ((w.alloc (.cells #[] 3)).alloc (.cells #[] 3)).ownsRow w.heap.size 3 1 (.slice (some ⟨w.heap.size + 1, 0, none⟩) 0 0) 0 (valsF (fun i => wayV ls (ls.getD i zeroL).no) 0)) := by
    refine ⟨(Ext.one _ _).alloc _, (World.ownsRow_lit (e := 3) (size := 1) w #[] 0 (Nat.le_refl _) (by decide) rfl).alloc _, ?_⟩
    have := World.ownsRow_lit (e := 3) (size := 1) (w.alloc (.cells #[] 3)) #[] 0 (base := w.heap.size) (by simp) (by decide) rfl
    have e : (w.alloc (.cells #[] 3)).heap.size = w.heap.size + 1 := by simp
    rw [e] at this
    exact this
  generalize (w.alloc (.cells #[] 3)).alloc (.cells #[] 3) = W1 at *
  go_loopw [4, 5, 6] (fun yv nv iv wr => ∃ k g1 c1 g2 c2 : Nat, iv = .int .i64 k ∧ yv = .slice (some ⟨g1, 0, none⟩) k c1 ∧ nv = .slice (some ⟨g2, 0, none⟩) k c2 ∧ k ≤ n ∧ Hid (TwoF ls w wr k g1 c1 g2 c2)) (fun _ _ iv _ => n - (intOf iv).toNat)
  case atStart => exact ⟨0, _, _, _, _, rfl, rfl, rfl, by omega, X1.out.2.1, X1.out.2.2, by omega, X1.out.1⟩
  case round =>
    obtain ⟨k, g1, c1, g2, c2, rfl, rfl, rfl, hk, HX⟩ := hrel
    clear X1
    by_cases hlt : k < n
    · have bk : (k : Int) < (n : Int) := by omega
      obtain ⟨⟨lab, ⟨o, kk, y, nn⟩, yes, no⟩, hp⟩ : ∃ p, p = ls.getD k zeroL := ⟨_, rfl⟩
      obtain ⟨b, off, rfl, hq⟩ := (HA.out.1.ext HX.out.2.2.2).hept (k := k) (by have := HA.out.2.1; omega) hp
      have HQ : Hid (Hept wr b (off + k * 7) ⟨lab, (o, kk, y, nn), yes, no⟩) := hq
      obtain ⟨v1, hv1⟩ : ∃ v, v = wayV ls yes := ⟨_, rfl⟩
      obtain ⟨v2, hv2⟩ : ∃ v, v = wayV ls no := ⟨_, rfl⟩
      have HV : Hid (v1 = wayV ls (ls.getD k zeroL).yes ∧ v2 = wayV ls (ls.getD k zeroL).no) := by rw [← hp]; exact ⟨hv1, hv2⟩
      unfold wayV at hv1 hv2
      clear hp
      obtain ⟨c0, d1, d2, d3, d4, c5, c6⟩ := hq
      simp only at c5 c6
      clear c0 d1 d2 d3 d4
      by_cases hy : yes = noText
      · rw [if_pos hy] at hv1
        subst hv1
        have ty : yes.toList = [] := none_iff.2 hy
        clear hy
        by_cases hno : no = noText
        · rw [if_pos hno] at hv2
          subst hv2
          have tn : no.toList = [] := none_iff.2 hno
          clear hno
          have HX1 : Hid (TwoF ls w wr k g1 c1 g2 c2) := HX
          obtain ⟨p1, p2, pne, pe⟩ := HX1.out
          have hz4 : w.heap.size ≤ wr.heap.size := pe.size
          go_wp2_with (at_builtin; refine wpList_append_lies _ rfl _ _ 44 rfl w.heap.size 3 i0 (.int .i64 0) 1 8 Tryd.underlying44 hi hz0 hz1 hz2 rfl (by decide) _ k _ rfl (p1.alloc _) ⟨wr.heap.size, 0, none⟩ 1 1 [.int .i64 (-1)] rfl rfl ?c1 ?c2 (by decide) ?c3 ?c4 ?c5 _ rfl ?_)
          case c1 =>
            intro j u hu
            have := (CellsAt.new wr [.int .i64 (-1)] 3).2 j u hu
            rw [Addr.add_lit, Nat.zero_add]
            exact this
          case c2 => intro u hu; simp at hu; rcases hu with rfl; rfl
          case c3 => unfold maxLen; omega
          case c4 => omega
          case c5 => simp; omega
          intro h1 b1 w5 o1 gr1 lie1 lt1
          have HX5 : Hid (TwoG ls w w5 k h1 b1 g2 c2) := TwoG.first HX1.out (by rw [valsF_way (by exact HV.out.1)] at o1; exact o1) gr1 lie1 lt1
          clear o1 gr1 lie1 lt1 p1 p2 pne pe hz4
          obtain ⟨p1, p2, pne, pe⟩ := HX5.out
          have hz4 : w.heap.size ≤ w5.heap.size := pe.size
          go_wp2_with (at_builtin; refine wpList_append_lies _ rfl _ _ 44 rfl w.heap.size 3 i0 (.int .i64 0) 1 8 Tryd.underlying44 hi hz0 hz1 hz2 rfl (by decide) _ k _ rfl (p2.alloc _) ⟨w5.heap.size, 0, none⟩ 1 1 [.int .i64 (-1)] rfl rfl ?c1 ?c2 (by decide) ?c3 ?c4 ?c5 _ rfl ?_)
          case c1 =>
            intro j u hu
            have := (CellsAt.new w5 [.int .i64 (-1)] 3).2 j u hu
            rw [Addr.add_lit, Nat.zero_add]
            exact this
          case c2 => intro u hu; simp at hu; rcases hu with rfl; rfl
          case c3 => unfold maxLen; omega
          case c4 => omega
          case c5 => simp; omega
          intro h2 b2 w6 o2 gr2 lie2 lt2
          have HX6 : Hid (TwoF ls w w6 (k + 1) h1 b1 h2 b2) := TwoG.second HX5.out (by rw [valsF_way (by exact HV.out.2)] at o2; exact o2) gr2 lie2 lt2
          clear o2 gr2 lie2 lt2 p1 p2 pne pe hz4 HX5 HX1 HX
          go_wp2
          go_roundw
          case rel => exact ⟨k + 1, h1, b1, h2, b2, by go_num, rfl, rfl, by omega, HX6.out⟩
          case measure => simp [intOf]; omega
        · rw [if_neg hno] at hv2
          have tn : no.toList.isEmpty = false := by have : ¬ no.toList = [] := fun h => hno (none_iff.1 h); simpa using this
          have H2 : Hid (v2 = atV ls no) := hv2
          clear hno hv2
          go_wp2_with fail
          refine (HAT.out no v2 _ H2.out HX.out.2.2.2).mono ?_
          rintro e w2 ⟨rfl, e2⟩
          have HX1 : Hid (TwoF ls w w2 k g1 c1 g2 c2) := HX.out.ext e2
          clear e2 c5 c6 HQ
          obtain ⟨p1, p2, pne, pe⟩ := HX1.out
          have hz4 : w.heap.size ≤ w2.heap.size := pe.size
          go_wp2_with (at_builtin; refine wpList_append_lies _ rfl _ _ 44 rfl w.heap.size 3 i0 (.int .i64 0) 1 8 Tryd.underlying44 hi hz0 hz1 hz2 rfl (by decide) _ k _ rfl (p1.alloc _) ⟨w2.heap.size, 0, none⟩ 1 1 [.int .i64 (-1)] rfl rfl ?c1 ?c2 (by decide) ?c3 ?c4 ?c5 _ rfl ?_)
          case c1 =>
            intro j u hu
            have := (CellsAt.new w2 [.int .i64 (-1)] 3).2 j u hu
            rw [Addr.add_lit, Nat.zero_add]
            exact this
          case c2 => intro u hu; simp at hu; rcases hu with rfl; rfl
          case c3 => unfold maxLen; omega
          case c4 => omega
          case c5 => simp; omega
          intro h1 b1 w5 o1 gr1 lie1 lt1
          have HX5 : Hid (TwoG ls w w5 k h1 b1 g2 c2) := TwoG.first HX1.out (by rw [valsF_way (by exact HV.out.1)] at o1; exact o1) gr1 lie1 lt1
          clear o1 gr1 lie1 lt1 p1 p2 pne pe hz4
          obtain ⟨p1, p2, pne, pe⟩ := HX5.out
          have hz4 : w.heap.size ≤ w5.heap.size := pe.size
          go_wp2_with (at_builtin; refine wpList_append_lies _ rfl _ _ 44 rfl w.heap.size 3 i0 (.int .i64 0) 1 8 Tryd.underlying44 hi hz0 hz1 hz2 rfl (by decide) _ k _ rfl (p2.alloc _) ⟨w5.heap.size, 0, none⟩ 1 1 [.int .i64 v2] rfl rfl ?c1 ?c2 (by decide) ?c3 ?c4 ?c5 _ rfl ?_)
          case c1 =>
            intro j u hu
            have := (CellsAt.new w5 [.int .i64 v2] 3).2 j u hu
            rw [Addr.add_lit, Nat.zero_add]
            exact this
          case c2 => intro u hu; simp at hu; rcases hu with rfl; rfl
          case c3 => unfold maxLen; omega
          case c4 => omega
          case c5 => simp; omega
          intro h2 b2 w6 o2 gr2 lie2 lt2
          have HX6 : Hid (TwoF ls w w6 (k + 1) h1 b1 h2 b2) := TwoG.second HX5.out (by rw [valsF_way (by exact HV.out.2)] at o2; exact o2) gr2 lie2 lt2
          clear o2 gr2 lie2 lt2 p1 p2 pne pe hz4 HX5 HX1 HX
          go_wp2
          go_roundw
          case rel => exact ⟨k + 1, h1, b1, h2, b2, by go_num, rfl, rfl, by omega, HX6.out⟩
          case measure => simp [intOf]; omega
      · rw [if_neg hy] at hv1
        have ty : yes.toList.isEmpty = false := by have : ¬ yes.toList = [] := fun h => hy (none_iff.1 h); simpa using this
        have H1 : Hid (v1 = atV ls yes) := hv1
        clear hy hv1
        by_cases hno : no = noText
        · rw [if_pos hno] at hv2
          subst hv2
          have tn : no.toList = [] := none_iff.2 hno
          clear hno
          go_wp2_with fail
          refine (HAT.out yes v1 _ H1.out HX.out.2.2.2).mono ?_
          rintro e w2 ⟨rfl, e2⟩
          have HX1 : Hid (TwoF ls w w2 k g1 c1 g2 c2) := HX.out.ext e2
          obtain ⟨_, _, _, _, _, _, c6⟩ := HQ.out.ext e2
          simp only at c6
          clear e2 c5 HQ
          obtain ⟨p1, p2, pne, pe⟩ := HX1.out
          have hz4 : w.heap.size ≤ w2.heap.size := pe.size
          go_wp2_with (at_builtin; refine wpList_append_lies _ rfl _ _ 44 rfl w.heap.size 3 i0 (.int .i64 0) 1 8 Tryd.underlying44 hi hz0 hz1 hz2 rfl (by decide) _ k _ rfl (p1.alloc _) ⟨w2.heap.size, 0, none⟩ 1 1 [.int .i64 v1] rfl rfl ?c1 ?c2 (by decide) ?c3 ?c4 ?c5 _ rfl ?_)
          case c1 =>
            intro j u hu
            have := (CellsAt.new w2 [.int .i64 v1] 3).2 j u hu
            rw [Addr.add_lit, Nat.zero_add]
            exact this
          case c2 => intro u hu; simp at hu; rcases hu with rfl; rfl
          case c3 => unfold maxLen; omega
          case c4 => omega
          case c5 => simp; omega
          intro h1 b1 w5 o1 gr1 lie1 lt1
          have HX5 : Hid (TwoG ls w w5 k h1 b1 g2 c2) := TwoG.first HX1.out (by rw [valsF_way (by exact HV.out.1)] at o1; exact o1) gr1 lie1 lt1
          clear o1 gr1 lie1 lt1 p1 p2 pne pe hz4
          obtain ⟨p1, p2, pne, pe⟩ := HX5.out
          have hz4 : w.heap.size ≤ w5.heap.size := pe.size
          go_wp2_with (at_builtin; refine wpList_append_lies _ rfl _ _ 44 rfl w.heap.size 3 i0 (.int .i64 0) 1 8 Tryd.underlying44 hi hz0 hz1 hz2 rfl (by decide) _ k _ rfl (p2.alloc _) ⟨w5.heap.size, 0, none⟩ 1 1 [.int .i64 (-1)] rfl rfl ?c1 ?c2 (by decide) ?c3 ?c4 ?c5 _ rfl ?_)
          case c1 =>
            intro j u hu
            have := (CellsAt.new w5 [.int .i64 (-1)] 3).2 j u hu
            rw [Addr.add_lit, Nat.zero_add]
            exact this
          case c2 => intro u hu; simp at hu; rcases hu with rfl; rfl
          case c3 => unfold maxLen; omega
          case c4 => omega
          case c5 => simp; omega
          intro h2 b2 w6 o2 gr2 lie2 lt2
          have HX6 : Hid (TwoF ls w w6 (k + 1) h1 b1 h2 b2) := TwoG.second HX5.out (by rw [valsF_way (by exact HV.out.2)] at o2; exact o2) gr2 lie2 lt2
          clear o2 gr2 lie2 lt2 p1 p2 pne pe hz4 HX5 HX1 HX
          go_wp2
          go_roundw
          case rel => exact ⟨k + 1, h1, b1, h2, b2, by go_num, rfl, rfl, by omega, HX6.out⟩
          case measure => simp [intOf]; omega
        · rw [if_neg hno] at hv2
          have tn : no.toList.isEmpty = false := by have : ¬ no.toList = [] := fun h => hno (none_iff.1 h); simpa using this
          have H2 : Hid (v2 = atV ls no) := hv2
          clear hno hv2
          go_wp2_with fail
          refine (HAT.out yes v1 _ H1.out HX.out.2.2.2).mono ?_
          rintro e w2 ⟨rfl, e2⟩
          have HX2 : Hid (TwoF ls w w2 k g1 c1 g2 c2) := HX.out.ext e2
          obtain ⟨_, _, _, _, _, _, c6'⟩ := HQ.out.ext e2
          simp only at c6'
          clear e2 c5 HQ
          go_wp2_with fail
          refine (HAT.out no v2 _ H2.out HX2.out.2.2.2).mono ?_
          rintro e w3 ⟨rfl, e3⟩
          have HX1 : Hid (TwoF ls w w3 k g1 c1 g2 c2) := HX2.out.ext e3
          clear e3
          obtain ⟨p1, p2, pne, pe⟩ := HX1.out
          have hz4 : w.heap.size ≤ w3.heap.size := pe.size
          go_wp2_with (at_builtin; refine wpList_append_lies _ rfl _ _ 44 rfl w.heap.size 3 i0 (.int .i64 0) 1 8 Tryd.underlying44 hi hz0 hz1 hz2 rfl (by decide) _ k _ rfl (p1.alloc _) ⟨w3.heap.size, 0, none⟩ 1 1 [.int .i64 v1] rfl rfl ?c1 ?c2 (by decide) ?c3 ?c4 ?c5 _ rfl ?_)
          case c1 =>
            intro j u hu
            have := (CellsAt.new w3 [.int .i64 v1] 3).2 j u hu
            rw [Addr.add_lit, Nat.zero_add]
            exact this
          case c2 => intro u hu; simp at hu; rcases hu with rfl; rfl
          case c3 => unfold maxLen; omega
          case c4 => omega
          case c5 => simp; omega
          intro h1 b1 w5 o1 gr1 lie1 lt1
          have HX5 : Hid (TwoG ls w w5 k h1 b1 g2 c2) := TwoG.first HX1.out (by rw [valsF_way (by exact HV.out.1)] at o1; exact o1) gr1 lie1 lt1
          clear o1 gr1 lie1 lt1 p1 p2 pne pe hz4
          obtain ⟨p1, p2, pne, pe⟩ := HX5.out
          have hz4 : w.heap.size ≤ w5.heap.size := pe.size
          go_wp2_with (at_builtin; refine wpList_append_lies _ rfl _ _ 44 rfl w.heap.size 3 i0 (.int .i64 0) 1 8 Tryd.underlying44 hi hz0 hz1 hz2 rfl (by decide) _ k _ rfl (p2.alloc _) ⟨w5.heap.size, 0, none⟩ 1 1 [.int .i64 v2] rfl rfl ?c1 ?c2 (by decide) ?c3 ?c4 ?c5 _ rfl ?_)
          case c1 =>
            intro j u hu
            have := (CellsAt.new w5 [.int .i64 v2] 3).2 j u hu
            rw [Addr.add_lit, Nat.zero_add]
            exact this
          case c2 => intro u hu; simp at hu; rcases hu with rfl; rfl
          case c3 => unfold maxLen; omega
          case c4 => omega
          case c5 => simp; omega
          intro h2 b2 w6 o2 gr2 lie2 lt2
          have HX6 : Hid (TwoF ls w w6 (k + 1) h1 b1 h2 b2) := TwoG.second HX5.out (by rw [valsF_way (by exact HV.out.2)] at o2; exact o2) gr2 lie2 lt2
          clear o2 gr2 lie2 lt2 p1 p2 pne pe hz4 HX5 HX1 HX
          go_wp2
          go_roundw
          case rel => exact ⟨k + 1, h1, b1, h2, b2, by go_num, rfl, rfl, by omega, HX6.out⟩
          case measure => simp [intOf]; omega
    · have hkn : k = n := by omega
      have bk : ¬ ((k : Int) < (n : Int)) := by omega
      subst hkn
      obtain ⟨q1, e1, hv1, _, hq1, hr1⟩ := own_rowF HX.out.1 HA.out.2.2
      obtain ⟨q2, e2, hv2, _, hq2, hr2⟩ := own_rowF HX.out.2.1 HA.out.2.2
      injection hv1 with hv1 _ _
      injection hv1 with hv1
      injection hv1 with hv1 _ _
      injection hv2 with hv2 _ _
      injection hv2 with hv2
      injection hv2 with hv2 _ _
      subst hv1
      subst hv2
      have HR : Hid (w.heap.size ≤ g1 ∧ w.heap.size ≤ g2 ∧ RowF wr g1 k (fun i => wayV ls (ls.getD i zeroL).yes) ∧ RowF wr g2 k (fun i => wayV ls (ls.getD i zeroL).no) ∧ Ext w wr) := ⟨hq1, hq2, hr1, hr2, HX.out.2.2.2⟩
      clear hq1 hq2 hr1 hr2 HX
      go_wp2
      go_ret2
      exact ⟨g1, _, g2, ⟨_, rfl⟩, HR.out⟩

/-- What is tried first. -/
def one0 (ls : List Ln) (i : Nat) : Nat := if (ls.getD i zeroL).wd = zeroW then 0 else 1

theorem one0_grow {ls : List Ln} (hl : linesP ls) {s : Nat → Nat} (hs : sizesP ls s) : growP ls s (one0 ls) := fun i hi => by
  unfold one0
  have hz := lineP_zero (hl.2.2 i hi)
  rcases hs i hi with ⟨a, b⟩ | ⟨a, b, c⟩ | ⟨a, b, c⟩ | ⟨a, b, c⟩
  · rw [if_pos (hz.1 a)]; omega
  · rw [if_neg (fun h => by have := hz.2 h; unfold askP at a; omega)]
    exact ⟨by omega, .inr ⟨a, rfl⟩⟩
  · rw [if_neg (fun h => by have := hz.2 h; unfold askP at a; omega)]
    exact ⟨by omega, .inr ⟨a, rfl⟩⟩
  · rw [if_neg (fun h => a (hz.2 h))]; omega

/-- How many of the first n have grown. -/
def thr (o : Nat → Nat) : Nat → Nat
  | 0 => 0
  | n + 1 => thr o n + (if o n = 3 then 1 else 0)

theorem thr_le (o : Nat → Nat) (n : Nat) : thr o n ≤ n := by
  induction n with
  | zero => exact Nat.le_refl _
  | succ n ih =>
    show thr o n + (if o n = 3 then 1 else 0) ≤ n + 1
    split <;> omega

def setN (o : Nat → Nat) (i v : Nat) : Nat → Nat := fun j => if j = i then v else o j

theorem thr_set {o : Nat → Nat} {i : Nat} (h : o i ≠ 3) : ∀ n, thr (setN o i 3) n = thr o n + (if i < n then 1 else 0)
  | 0 => rfl
  | n + 1 => by
    have ih := thr_set h n
    show thr (setN o i 3) n + (if setN o i 3 n = 3 then 1 else 0) = thr o n + (if o n = 3 then 1 else 0) + (if i < n + 1 then 1 else 0)
    rw [ih]
    unfold setN
    by_cases e : n = i
    · subst e
      rw [if_pos rfl, if_pos rfl, if_neg h, if_neg (Nat.lt_irrefl _), if_pos (Nat.lt_succ_self _)]
    · rw [if_neg e]
      by_cases hlt : i < n
      · rw [if_pos hlt, if_pos (show i < n + 1 by omega)]; omega
      · rw [if_neg hlt, if_neg (show ¬ i < n + 1 by omega)]; omega

/-- What is known within one going through: o what it began with, p what is there, b whether some has grown. -/
def goneP (ls : List Ln) (s o p : Nat → Nat) (k : Nat) (b : Bool) : Prop :=
  growP ls s o ∧ growP ls s p ∧ (∀ j, k ≤ j → p j = o j) ∧ (b = false → (∀ j, j < ls.length → p j = o j) ∧ ∀ j, j < k → askP (ls.getD j zeroL).wd.1 → o j = 3 ∨ ¬ farL ls o j) ∧ (b = true → thr o ls.length < thr p ls.length) ∧ thr o ls.length ≤ thr p ls.length

theorem gone_start {ls : List Ln} {s o : Nat → Nat} (h : growP ls s o) : goneP ls s o o 0 false :=
  ⟨h, h, fun _ _ => rfl, fun _ => ⟨fun _ _ => rfl, fun j hj => by omega⟩, fun h => by (cases h), Nat.le_refl _⟩

/-- A line that nothing is asked of, or that has grown, or whose ways are not too far. -/
theorem gone_pass {ls : List Ln} {s o p : Nat → Nat} {k : Nat} {b : Bool} (h : goneP ls s o p k b) (hk : k < ls.length) (hp : askP (ls.getD k zeroL).wd.1 → p k = 3 ∨ ¬ farL ls o k) : goneP ls s o p (k + 1) b := by
  obtain ⟨h1, h2, h3, h4, h5, h6⟩ := h
  refine ⟨h1, h2, fun j hj => h3 j (by omega), fun hb => ⟨(h4 hb).1, fun j hj ha => ?_⟩, h5, h6⟩
  rcases Nat.lt_or_ge j k with hjk | hjk
  · exact (h4 hb).2 j hjk ha
  · obtain rfl : j = k := by omega
    rw [h3 j (Nat.le_refl _)] at hp
    exact hp ha

/-- A line that grows. -/
theorem gone_grow {ls : List Ln} (hl : linesP ls) {s o p : Nat → Nat} (hs : sizesP ls s) {k : Nat} {b : Bool} (h : goneP ls s o p k b) (hk : k < ls.length) (ha : askP (ls.getD k zeroL).wd.1) (h3 : p k ≠ 3) (hf : farL ls o k) : goneP ls s o (setN p k 3) (k + 1) true := by
  obtain ⟨h1, h2, h3', h4, h5, h6⟩ := h
  have ht := thr_set h3 ls.length
  rw [if_pos hk] at ht
  refine ⟨h1, fun j hj => ?_, fun j hj => ?_, fun hb => (by cases hb), fun _ => by omega, by omega⟩
  · unfold setN
    by_cases e : j = k
    · subst e
      rw [if_pos rfl]
      rcases hs j hj with ⟨a, _⟩ | ⟨_, _, c⟩ | ⟨_, b', _⟩ | ⟨_, b', _⟩
      · unfold askP at ha; omega
      · exact ⟨by omega, .inl c.symm⟩
      · exact absurd (grow_far hl h1 hj ha hf) b'
      · exact absurd ha b'
    · rw [if_neg e]; exact h2 j hj
  · unfold setN
    rw [if_neg (by omega)]
    exact h3' j (by omega)

/-- What the two differences of beginnings tell. -/
theorem far_begins {ls : List Ln} (hl : linesP ls) {s o : Nat → Nat} (hg : growP ls s o) (hs : sizesP ls s) {k : Nat} (hk : k < ls.length) (ha : askP (ls.getD k zeroL).wd.1) (h3 : o k ≠ 3) :
    farL ls o k ↔ 15 < (cnt o (pos ls (ls.getD k zeroL).yes) : Int) - (cnt o k : Int) - 1 ∨ 15 < (cnt o (pos ls (ls.getD k zeroL).no) : Int) - (cnt o k : Int) - 1 := by
  obtain ⟨⟨y1, y2⟩, ⟨n1, n2⟩⟩ := ask_on hl hk ha
  have e1 : o k = 1 := by
    obtain ⟨g1, g2⟩ := hg k hk
    rcases hs k hk with ⟨a, _⟩ | ⟨_, _, c⟩ | ⟨_, _, c⟩ | ⟨_, b, _⟩
    · unfold askP at ha; omega
    · omega
    · omega
    · exact absurd ha b
  have hc : cnt o (k + 1) = cnt o k + 1 := by show cnt o k + o k = _; rw [e1]
  have m1 := cnt_mono o (a := k + 1) (b := pos ls (ls.getD k zeroL).yes) y1
  have m2 := cnt_mono o (a := k + 1) (b := pos ls (ls.getD k zeroL).no) n1
  unfold farL overL
  omega

theorem grow_le {ls : List Ln} {s o : Nat → Nat} (hs : sizesP ls s) (hg : growP ls s o) : ∀ i, i < ls.length → o i ≤ 3 := fun i hi => by
  have := (hg i hi).1
  have := size_le hs hi
  omega

theorem wayV_on {ls : List Ln} {s : ByteArray} {i : Nat} (hl : linesP ls) (h : onP ls i s) : wayV ls s = (pos ls s : Int) := by
  have hne : s ≠ noText := fun e => by
    have h1 := isAt_op (pos_at h.2)
    rcases hl.2.2 _ h.2 with ⟨_, h2, _⟩ | ⟨h2, _⟩
    · rw [h1.2, e] at h2
      simp [noText, ByteArray.size] at h2
    · exact h2 ((lineP_zero (hl.2.2 _ h.2)).1 h1.1)
  unfold wayV atV
  rw [if_neg hne, if_pos h.2]

set_option maxRecDepth 100000 in
set_option maxHeartbeats 8000000 in
theorem sSizes_yes (a : Option Addr) (cap : Nat) (ls : List Ln) (s : Nat → Nat) (w : World) (h : Lns w a ls) (hl : linesP ls) (hs : sizesP ls s) :
    Calls Tryd.prog 35 #[.slice a ls.length cap] w fun e w' => ∃ q c, e = .returned (.slice (some ⟨q, 0, none⟩) ls.length c) ∧ w.heap.size ≤ q ∧ RowF w' q ls.length (fun i => (s i : Int)) ∧ Ext w w' := by
  obtain ⟨i0, hi, hz0, hz1, hz2⟩ := info_parts Tryd.infoI
  obtain ⟨n, hn⟩ : ∃ n, n = ls.length := ⟨_, rfl⟩
  have HA : Hid (Lns w a ls ∧ n = ls.length ∧ linesP ls ∧ sizesP ls s ∧ 0 < n) := ⟨h, hn, hl, hs, by have := hl.1; omega⟩
  have HL : Hid (∀ w1, Ext w w1 → Calls Tryd.prog 74 #[.slice a n cap] w1 fun e w' => e = .returned (.bool true) ∧ Ext w1 w') := fun w1 hE => by rw [hn]; exact sLines_any a cap ls true w1 (by have := hl.1; omega) (h.ext hE) (by simp [hl])
  have HW : Hid (∀ w1, Ext w w1 → Calls Tryd.prog 36 #[.slice a n cap] w1 fun e w' => ∃ q c q2 c2, e = .returned (.tuple #[.slice (some ⟨q, 0, none⟩) n c, .slice (some ⟨q2, 0, none⟩) n c2]) ∧ w1.heap.size ≤ q ∧ w1.heap.size ≤ q2 ∧ RowF w' q n (fun i => wayV ls (ls.getD i zeroL).yes) ∧ RowF w' q2 n (fun i => wayV ls (ls.getD i zeroL).no) ∧ Ext w1 w') := fun w1 hE => by rw [hn]; exact ways11_any a cap ls w1 (by have := hl.1; omega) (by have := hl.1; omega) (h.ext hE)
  rw [← hn]
  have hl' : n ≤ 600 := by have := hl.1; omega
  have hn0 : 0 < n := HA.out.2.2.2.2
  clear h hn hl hs
  go_enter Tryd.func35, Tryd.ntmps35
  go_wp2_with fail
  refine (HL.out _ (Ext.one _ _)).mono ?_
  rintro e w2 ⟨rfl, e2⟩
  have X2 : Hid (Ext w w2 ∧ w2.ownsRow w.heap.size 3 1 (.slice (some ⟨w.heap.size, 0, none⟩) 0 0) 0 (valsF (fun i => (one0 ls i : Int)) 0)) := ⟨(Ext.one _ _).trans e2, own_below (World.ownsRow_lit (e := 3) (size := 1) w #[] 0 (Nat.le_refl _) (by decide) rfl) e2⟩
  clear e2 HL
  go_wp2_with fail
  go_loopw [3, 4] (fun ov iv wr => ∃ k : Nat, iv = .int .i64 k ∧ k ≤ n ∧ Hid (wr.ownsRow w.heap.size 3 1 ov k (valsF (fun i => (one0 ls i : Int)) k) ∧ Ext w wr)) (fun _ iv _ => n - (intOf iv).toNat)
  case atStart => exact ⟨0, rfl, by omega, X2.out.2, X2.out.1⟩
  case round =>
    obtain ⟨k, rfl, hk, HX⟩ := hrel
    clear X2
    by_cases hlt : k < n
    · have bk : (k : Int) < (n : Int) := by omega
      obtain ⟨⟨lab, ⟨o, kk, y, nn⟩, yes, no⟩, hp⟩ : ∃ p, p = ls.getD k zeroL := ⟨_, rfl⟩
      obtain ⟨b, off, rfl, hq⟩ := (HA.out.1.ext HX.out.2).hept (k := k) (by have := HA.out.2.1; omega) hp
      obtain ⟨c0, c1, c2, c3, c4, c5, c6⟩ := hq
      simp only at c0 c1 c2 c3 c4 c5 c6
      obtain ⟨z, hz⟩ : ∃ z, z = decide ((o, kk, y, nn) = zeroW) := ⟨_, rfl⟩
      have HP : Hid (∀ w, Calls Tryd.prog 75 #[.agg #[.string lab, .int .i64 o, .int .i64 kk, .int .i64 y, .int .i64 nn, .string yes, .string no]] w fun e w' => e = .returned (.bool z) ∧ Ext w w') := fun w => by rw [hz]; exact sPlace_any ⟨lab, (o, kk, y, nn), yes, no⟩ w
      have HO : Hid (one0 ls k = if z = true then 0 else 1) := by
        show _ = _
        unfold one0
        rw [← hp, hz]
        by_cases e : (o, kk, y, nn) = zeroW
        · rw [if_pos e, if_pos (by simpa using e)]
        · rw [if_neg e, if_neg (by simpa using e)]
      clear hp hz
      go_wp2_with fail
      refine (HP.out _).mono ?_
      rintro e w3 ⟨rfl, e3⟩
      have hown : w3.ownsRow w.heap.size 3 1 u3 k (valsF (fun i => (one0 ls i : Int)) k) := own_below HX.out.1 e3
      have X3 : Hid (Ext w w3) := HX.out.2.trans e3
      have hz4 : w.heap.size ≤ w3.heap.size := X3.out.size
      clear e3 c0 c1 c2 c3 c4 c5 c6 HP HX
      cases z
      · go_wp2_with (at_builtin; refine wpList_append_own _ rfl _ _ 44 rfl w.heap.size 3 i0 (.int .i64 0) 1 8 Tryd.underlying44 hi hz0 hz1 hz2 rfl (by decide) _ k _ rfl (hown.alloc _) ⟨w3.heap.size, 0, none⟩ 1 1 [.int .i64 1] rfl rfl ?c1 ?c2 ?c3 ?c4 ?c5 ?_)
        case c1 =>
          intro j u hu
          have := (CellsAt.new w3 [.int .i64 1] 3).2 j u hu
          rw [Addr.add_lit, Nat.zero_add]
          exact this
        case c2 => intro u hu; simp at hu; rcases hu with rfl; rfl
        case c3 => unfold maxLen; omega
        case c4 => omega
        case c5 => simp; omega
        · intro v' w5 hown5 hgrow5 _
          have X5 : Hid (w5.ownsRow w.heap.size 3 1 v' (k + 1) (valsF (fun i => (one0 ls i : Int)) (k + 1)) ∧ Ext w w5) := by
            refine ⟨?_, push_ext X3.out (Nat.le_refl _) hown hgrow5⟩
            rw [← valsF_succ, HO.out]
            exact hown5
          clear hgrow5 hown5 hown
          go_wp2
          go_roundw
          case rel => exact ⟨k + 1, by go_num, by omega, X5.out⟩
          case measure => simp [intOf]; omega
      · go_wp2_with (at_builtin; refine wpList_append_own _ rfl _ _ 44 rfl w.heap.size 3 i0 (.int .i64 0) 1 8 Tryd.underlying44 hi hz0 hz1 hz2 rfl (by decide) _ k _ rfl (hown.alloc _) ⟨w3.heap.size, 0, none⟩ 1 1 [.int .i64 0] rfl rfl ?c1 ?c2 ?c3 ?c4 ?c5 ?_)
        case c1 =>
          intro j u hu
          have := (CellsAt.new w3 [.int .i64 0] 3).2 j u hu
          rw [Addr.add_lit, Nat.zero_add]
          exact this
        case c2 => intro u hu; simp at hu; rcases hu with rfl; rfl
        case c3 => unfold maxLen; omega
        case c4 => omega
        case c5 => simp; omega
        · intro v' w5 hown5 hgrow5 _
          have X5 : Hid (w5.ownsRow w.heap.size 3 1 v' (k + 1) (valsF (fun i => (one0 ls i : Int)) (k + 1)) ∧ Ext w w5) := by
            refine ⟨?_, push_ext X3.out (Nat.le_refl _) hown hgrow5⟩
            rw [← valsF_succ, HO.out]
            exact hown5
          clear hgrow5 hown5 hown
          go_wp2
          go_roundw
          case rel => exact ⟨k + 1, by go_num, by omega, X5.out⟩
          case measure => simp [intOf]; omega
    · have hkn : k = n := by omega
      have bk : ¬ ((k : Int) < (n : Int)) := by omega
      subst hkn
      obtain ⟨g, c, hv, _, hg, hr⟩ := own_rowF HX.out.1 HA.out.2.2.2.2
      subst hv
      have HR : Hid (w.heap.size ≤ g ∧ RowF wr g k (fun i => (one0 ls i : Int)) ∧ Ext w wr) := ⟨hg, hr, HX.out.2⟩
      clear hr hg HX hlt
      go_wp2_with fail
      refine (HW.out _ HR.out.2.2).mono ?_
      rintro e w3 ⟨gy, cy, gn, cn, rfl, hgy, hgn, ry, rn, e3⟩
      have HG : Hid (g ≠ gy ∧ g ≠ gn ∧ w.heap.size ≤ g ∧ g < w3.heap.size ∧ w.heap.size ≤ gy ∧ w.heap.size ≤ gn) := ⟨by have := HR.out.2.1.1; omega, by have := HR.out.2.1.1; omega, HR.out.1, Nat.lt_of_lt_of_le HR.out.2.1.1 e3.size, Nat.le_trans HR.out.2.2.size hgy, Nat.le_trans HR.out.2.2.size hgn⟩
      have HR3 : Hid (RowF w3 g k (fun i => (one0 ls i : Int)) ∧ RowF w3 gy k (fun i => wayV ls (ls.getD i zeroL).yes) ∧ RowF w3 gn k (fun i => wayV ls (ls.getD i zeroL).no) ∧ Ext w w3) := ⟨HR.out.2.1.ext e3, ry, rn, HR.out.2.2.trans e3⟩
      clear hgy hgn ry rn e3 HR HW bk hk
      go_wp2_with fail
      go_loopw [8] (fun iv wr => ∃ (r : Nat) (o : Nat → Nat), iv = .int .i64 r ∧ r ≤ k + 1 ∧ Hid (growP ls s o ∧ r ≤ thr o k ∧ RowF wr g k (fun i => (o i : Int)) ∧ RowF wr gy k (fun i => wayV ls (ls.getD i zeroL).yes) ∧ RowF wr gn k (fun i => wayV ls (ls.getD i zeroL).no) ∧ Ext w wr)) (fun iv _ => k + 1 - (intOf iv).toNat)
      case atStart => exact ⟨0, one0 ls, rfl, by omega, one0_grow HA.out.2.2.1 HA.out.2.2.2.1, Nat.zero_le _, HR3.out.1, HR3.out.2.1, HR3.out.2.2.1, HR3.out.2.2.2⟩
      case round =>
        obtain ⟨r, o, rfl, hr, HX⟩ := hrel
        clear HR3
        have hrk : r ≤ k := Nat.le_trans HX.out.2.1 (thr_le o k)
        have br : (r : Int) ≤ (k : Int) := by omega
        have HB : Hid (∀ w1, Ext wr w1 → Calls Tryd.prog 37 #[.slice (some ⟨g, 0, none⟩) k c] w1 fun e w' => ∃ q c', e = .returned (.slice (some ⟨q, 0, none⟩) k c') ∧ w1.heap.size ≤ q ∧ RowF w' q k (fun i => (cnt o i : Int)) ∧ Ext w1 w') := fun w1 hE => begins_any g k c o w1 hn0 hl' (by have := grow_le HA.out.2.2.2.1 HX.out.1; rw [← HA.out.2.1] at this; exact this) (HX.out.2.2.1.ext hE)
        go_wp2_with fail
        refine (HB.out _ (Ext.refl _)).mono ?_
        rintro e w4 ⟨gb, cb, rfl, hgb, rb, e4⟩
        have HG4 : Hid (gb ≠ g ∧ gb ≠ gy ∧ gb ≠ gn ∧ w.heap.size ≤ gb) := ⟨by have := HX.out.2.2.1.1; omega, by have := HX.out.2.2.2.1.1; omega, by have := HX.out.2.2.2.2.1.1; omega, Nat.le_trans HX.out.2.2.2.2.2.size hgb⟩
        have HR4 : Hid (RowF w4 g k (fun i => (o i : Int)) ∧ RowF w4 gy k (fun i => wayV ls (ls.getD i zeroL).yes) ∧ RowF w4 gn k (fun i => wayV ls (ls.getD i zeroL).no) ∧ RowF w4 gb k (fun i => (cnt o i : Int)) ∧ Ext w w4) := ⟨HX.out.2.2.1.ext e4, HX.out.2.2.2.1.ext e4, HX.out.2.2.2.2.1.ext e4, rb, HX.out.2.2.2.2.2.trans e4⟩
        have HO : Hid (growP ls s o ∧ r ≤ thr o k) := ⟨HX.out.1, HX.out.2.1⟩
        clear HB hgb rb e4 HX
        go_wp2_with fail
        go_loopw [10, 11] (fun bv iv wr => ∃ (b : Bool) (m : Nat) (p : Nat → Nat), bv = .bool b ∧ iv = .int .i64 m ∧ m ≤ k ∧ Hid (goneP ls s o p m b ∧ RowF wr g k (fun i => (p i : Int)) ∧ RowF wr gy k (fun i => wayV ls (ls.getD i zeroL).yes) ∧ RowF wr gn k (fun i => wayV ls (ls.getD i zeroL).no) ∧ RowF wr gb k (fun i => (cnt o i : Int)) ∧ Ext w wr)) (fun _ iv _ => k - (intOf iv).toNat)
        case atStart => exact ⟨false, 0, o, rfl, rfl, by omega, gone_start HO.out.1, HR4.out⟩
        case round =>
          obtain ⟨b, m, p, rfl, rfl, hm, HX⟩ := hrel
          clear HR4
          by_cases hmk : m < k
          · have bm : (m : Int) < (k : Int) := by omega
            obtain ⟨⟨lab, ⟨oo, kk, y, nn⟩, yes, no⟩, hp⟩ : ∃ p, p = ls.getD m zeroL := ⟨_, rfl⟩
            obtain ⟨b', off, rfl, hq⟩ := (HA.out.1.ext HX.out.2.2.2.2.2).hept (k := m) (by have := HA.out.2.1; omega) hp
            have c1 := hq.2.1
            simp only at c1
            have HP : Hid (Ln.mk lab (oo, kk, y, nn) yes no = ls.getD m zeroL) := hp
            obtain ⟨q, hqq⟩ : ∃ q, q = inB oo 3 6 := ⟨_, rfl⟩
            have HQ : Hid (∀ w, Calls Tryd.prog 38 #[.int .i64 oo] w fun e w' => e = .returned (.bool q) ∧ w = w') := fun w => by rw [hqq]; exact ask_any oo w
            have HAQ : Hid (q = true ↔ askP (ls.getD m zeroL).wd.1) := by
              show _ ↔ _
              rw [hqq, ← hp, inB_true]
              rfl
            clear hp hq hqq
            cases q with
            | false =>
              go_wp2_with fail
              refine (HQ.out _).mono ?_
              rintro e w5 ⟨rfl, rfl⟩
              go_wp2
              go_roundw
              case rel => exact ⟨b, m + 1, p, rfl, by go_num, by omega, gone_pass HX.out.1 (by have := HA.out.2.1; omega) (fun h => by have := HAQ.out.2 h; cases this), HX.out.2⟩
              case measure => simp [intOf]; omega
            | true =>
              have HAK : Hid (askP (ls.getD m zeroL).wd.1) := HAQ.out.1 rfl
              obtain ⟨y0, _⟩ := HX.out.2.1.2 m hmk
              dsimp only at y0
              by_cases h3 : p m = 3
              · rw [h3] at y0
                go_wp2_with fail
                refine (HQ.out _).mono ?_
                rintro e w5 ⟨rfl, rfl⟩
                go_wp2
                go_roundw
                case rel => exact ⟨b, m + 1, p, rfl, by go_num, by omega, gone_pass HX.out.1 (by have := HA.out.2.1; omega) (fun _ => .inl h3), HX.out.2⟩
                case measure => simp [intOf]; omega
              · have q3 : ((p m : Int) == 3) = false := by simp; omega
                have H3 : Hid (p m ≠ 3) := h3
                have hmn : m < ls.length := by have := HA.out.2.1; omega
                have ho3 : o m ≠ 3 := by have := HX.out.1.2.2.1 m (Nat.le_refl _); omega
                obtain ⟨on1, on2⟩ := ask_on HA.out.2.2.1 hmn HAK.out
                have hfar := far_begins HA.out.2.2.1 HO.out.1 HA.out.2.2.2.1 hmn HAK.out ho3
                have x1 := (HX.out.2.2.1.2 m hmk).1
                dsimp only at x1
                rw [wayV_on HA.out.2.2.1 on1] at x1
                have x4 := (HX.out.2.2.2.1.2 m hmk).1
                dsimp only at x4
                rw [wayV_on HA.out.2.2.1 on2] at x4
                have hb1 : pos ls (ls.getD m zeroL).yes < k := by have := HA.out.2.1; have := on1.2; omega
                have hb2 : pos ls (ls.getD m zeroL).no < k := by have := HA.out.2.1; have := on2.2; omega
                have hcn : ∀ j, j < k → cnt o j ≤ 1800 := fun j hj => by
                  have h1 := cnt_less (s := o) (t := s) (a := 0) (b := j) (Nat.zero_le _) fun i _ hi => (HO.out.1 i (by have := HA.out.2.1; omega)).1
                  have h2 := cnt_le HA.out.2.2.2.1 (n := j) (by have := HA.out.2.1; omega)
                  simp only [cnt] at h1
                  omega
                have x2 := (HX.out.2.2.2.2.1.2 _ hb1).1
                have x3 := (HX.out.2.2.2.2.1.2 _ hmk).1
                have x5 := (HX.out.2.2.2.2.1.2 _ hb2).1
                dsimp only at x2 x3 x5
                have u1 := hcn _ hb1
                have u2 := hcn _ hb2
                have u3 := hcn _ hmk
                generalize pos ls (ls.getD m zeroL).yes = p1 at *
                generalize pos ls (ls.getD m zeroL).no = p2 at *
                generalize cnt o p1 = B1 at *
                generalize cnt o p2 = B2 at *
                generalize cnt o m = Bm at *
                have HFAR : Hid (farL ls o m ↔ 15 < (B1 : Int) - (Bm : Int) - 1 ∨ 15 < (B2 : Int) - (Bm : Int) - 1) := hfar
                have bb1 : (p1 : Int) < (k : Int) := by omega
                have bb2 : (p2 : Int) < (k : Int) := by omega
                clear h3 ho3 on1 on2 hfar hcn hmn
                by_cases f1 : 15 < (B1 : Int) - (Bm : Int) - 1
                · go_wp2_with fail
                  refine (HQ.out _).mono ?_
                  rintro e w5 ⟨rfl, rfl⟩
                  clear HQ c1
                  go_wp2_with fail
                  refine' wp_region_loose (.inl _ :: .inl _ :: .inl _ :: .inl _ :: .inl _ :: .inl _ :: .inl _ :: .inl _ :: .inl _ :: .inl _ :: .inl _ :: .inl _ :: .inl _ :: .inl _ :: .inl _ :: .inl undef :: .inl undef :: .inl undef :: .inl undef :: .inl undef :: .inl undef :: .inl undef :: .inl undef :: .inl undef :: .inl undef :: .inl undef :: .inl undef :: .inl undef :: .inl undef :: .inl _ :: []) (fun w' => w'.cell? ⟨gy, m, none⟩ = some (.int .i64 (p1 : Int)) ∧ w'.cell? ⟨gb, p1, none⟩ = some (.int .i64 (B1 : Int)) ∧ w'.cell? ⟨gb, m, none⟩ = some (.int .i64 (Bm : Int)) ∧ w'.cell? ⟨gn, m, none⟩ = some (.int .i64 (p2 : Int)) ∧ w'.cell? ⟨gb, p2, none⟩ = some (.int .i64 (B2 : Int))) (by kernel_rfl) (by kernel_rfl) (⟨x1, x2, x3, x4, x5⟩) (fun _ _ h hE => ⟨(hE.cell (p := ⟨gy, m, none⟩) (World.block_lt_of_cell? _ _ h.1)).trans h.1, (hE.cell (p := ⟨gb, p1, none⟩) (World.block_lt_of_cell? _ _ h.2.1)).trans h.2.1, (hE.cell (p := ⟨gb, m, none⟩) (World.block_lt_of_cell? _ _ h.2.2.1)).trans h.2.2.1, (hE.cell (p := ⟨gn, m, none⟩) (World.block_lt_of_cell? _ _ h.2.2.2.1)).trans h.2.2.2.1, (hE.cell (p := ⟨gb, p2, none⟩) (World.block_lt_of_cell? _ _ h.2.2.2.2)).trans h.2.2.2.2⟩) ?hAa ?hla ?hMa
                  case' hMa => skip
                  apply wpLoose_val rfl rfl
                  case hs =>
                    intro w1 hC hd Q1 hQ1
                    obtain ⟨hE, hS⟩ := hC
                    dsimp only [bare]
                    obtain ⟨q1, q2, q3, q4, q5⟩ := hS
                    clear hd hE
                    try clear hS
                    go_wp2
                    exact Ext.refl _
                  case ha => rfl
                  apply wpLoose_val rfl rfl
                  case hs =>
                    intro w1 hC hd Q1 hQ1
                    obtain ⟨hE, hS⟩ := hC
                    dsimp only [bare]
                    obtain ⟨q1, q2, q3, q4, q5⟩ := hS
                    clear hd hE
                    try clear hS
                    go_wp2
                    exact Ext.refl _
                  case ha => rfl
                  apply wpLoose_val rfl rfl
                  case hs =>
                    intro w1 hC hd Q1 hQ1
                    obtain ⟨hE, hS⟩ := hC
                    dsimp only [bare]
                    obtain ⟨q1, q2, q3, q4, q5⟩ := hS
                    clear hd hE
                    try clear hS
                    go_wp2
                    exact Ext.refl _
                  case ha => rfl
                  apply wpLoose_val rfl rfl
                  case hs =>
                    intro w1 hC hd Q1 hQ1
                    obtain ⟨hE, hS⟩ := hC
                    dsimp only [bare]
                    obtain ⟨q1, q2, q3, q4, q5⟩ := hS
                    clear hd hE
                    try clear hS
                    go_wp2
                    exact Ext.refl _
                  case ha => rfl
                  apply wpLoose_val rfl rfl
                  case hs =>
                    intro w1 hC hd Q1 hQ1
                    obtain ⟨hE, hS⟩ := hC
                    dsimp only [bare]
                    obtain ⟨q1, q2, q3, q4, q5⟩ := hS
                    clear hd hE
                    try clear hS
                    go_wp2
                    exact Ext.refl _
                  case ha => rfl
                  apply wpLoose_val rfl rfl
                  case hs =>
                    intro w1 hC hd Q1 hQ1
                    obtain ⟨hE, hS⟩ := hC
                    dsimp only [bare]
                    obtain ⟨q1, q2, q3, q4, q5⟩ := hS
                    clear hd hE
                    try clear hS
                    go_wp2
                    exact Ext.refl _
                  case ha => rfl
                  apply wpLoose_val rfl rfl
                  case hs =>
                    intro w1 hC hd Q1 hQ1
                    obtain ⟨hE, hS⟩ := hC
                    dsimp only [bare]
                    obtain ⟨q1, q2, q3, q4, q5⟩ := hS
                    clear hd hE
                    try clear hS
                    go_wp2
                    exact Ext.refl _
                  case ha => rfl
                  apply wpLoose_val rfl rfl
                  case hs =>
                    intro w1 hC hd Q1 hQ1
                    obtain ⟨hE, hS⟩ := hC
                    dsimp only [bare]
                    obtain ⟨q1, q2, q3, q4, q5⟩ := hS
                    clear hd hE
                    try clear hS
                    go_wp2
                    exact Ext.refl _
                  case ha => rfl
                  apply wpLoose_val rfl rfl
                  case hs =>
                    intro w1 hC hd Q1 hQ1
                    obtain ⟨hE, hS⟩ := hC
                    dsimp only [bare]
                    obtain ⟨q1, q2, q3, q4, q5⟩ := hS
                    clear hd hE
                    try clear hS
                    go_wp2
                    exact Ext.refl _
                  case ha => rfl
                  apply wpLoose_val rfl rfl
                  case hs =>
                    intro w1 hC hd Q1 hQ1
                    obtain ⟨hE, hS⟩ := hC
                    dsimp only [bare]
                    obtain ⟨q1, q2, q3, q4, q5⟩ := hS
                    clear hd hE
                    try clear hS
                    go_wp2
                    exact Ext.refl _
                  case ha => rfl
                  apply wpLoose_val rfl rfl
                  case hs =>
                    intro w1 hC hd Q1 hQ1
                    obtain ⟨hE, hS⟩ := hC
                    dsimp only [bare]
                    obtain ⟨q1, q2, q3, q4, q5⟩ := hS
                    clear hd hE
                    try clear hS
                    go_wp2
                    exact Ext.refl _
                  case ha => rfl
                  apply wpLoose_val rfl rfl
                  case hs =>
                    intro w1 hC hd Q1 hQ1
                    obtain ⟨hE, hS⟩ := hC
                    dsimp only [bare]
                    obtain ⟨q1, q2, q3, q4, q5⟩ := hS
                    clear hd hE
                    try clear hS
                    go_wp2
                    exact Ext.refl _
                  case ha => rfl
                  apply wpLoose_val rfl rfl
                  case hs =>
                    intro w1 hC hd Q1 hQ1
                    obtain ⟨hE, hS⟩ := hC
                    dsimp only [bare]
                    obtain ⟨q1, q2, q3, q4, q5⟩ := hS
                    clear hd hE
                    try clear hS
                    go_wp2
                    exact Ext.refl _
                  case ha => rfl
                  apply wpLoose_val rfl rfl
                  case hs =>
                    intro w1 hC hd Q1 hQ1
                    obtain ⟨hE, hS⟩ := hC
                    dsimp only [bare]
                    obtain ⟨q1, q2, q3, q4, q5⟩ := hS
                    clear hd hE
                    try clear hS
                    go_wp2
                    exact Ext.refl _
                  case ha => rfl
                  apply wpLoose_val rfl rfl
                  case hs =>
                    intro w1 hC hd Q1 hQ1
                    obtain ⟨hE, hS⟩ := hC
                    dsimp only [bare]
                    obtain ⟨q1, q2, q3, q4, q5⟩ := hS
                    clear hd hE
                    try clear hS
                    go_wp2
                    exact Ext.refl _
                  case ha => rfl
                  refine wpLoose_skip rfl rfl ?_
                  try simp only [Act.put, List.setIfInBounds_toArray, List.set_cons_succ, List.set_cons_zero]
                  refine wpLoose_skip rfl rfl ?_
                  try simp only [Act.put, List.setIfInBounds_toArray, List.set_cons_succ, List.set_cons_zero]
                  refine wpLoose_skip rfl rfl ?_
                  try simp only [Act.put, List.setIfInBounds_toArray, List.set_cons_succ, List.set_cons_zero]
                  refine wpLoose_skip rfl rfl ?_
                  try simp only [Act.put, List.setIfInBounds_toArray, List.set_cons_succ, List.set_cons_zero]
                  refine wpLoose_skip rfl rfl ?_
                  try simp only [Act.put, List.setIfInBounds_toArray, List.set_cons_succ, List.set_cons_zero]
                  refine wpLoose_skip rfl rfl ?_
                  try simp only [Act.put, List.setIfInBounds_toArray, List.set_cons_succ, List.set_cons_zero]
                  refine wpLoose_skip rfl rfl ?_
                  try simp only [Act.put, List.setIfInBounds_toArray, List.set_cons_succ, List.set_cons_zero]
                  refine wpLoose_skip rfl rfl ?_
                  try simp only [Act.put, List.setIfInBounds_toArray, List.set_cons_succ, List.set_cons_zero]
                  refine wpLoose_skip rfl rfl ?_
                  try simp only [Act.put, List.setIfInBounds_toArray, List.set_cons_succ, List.set_cons_zero]
                  refine wpLoose_skip rfl rfl ?_
                  try simp only [Act.put, List.setIfInBounds_toArray, List.set_cons_succ, List.set_cons_zero]
                  refine wpLoose_skip rfl rfl ?_
                  try simp only [Act.put, List.setIfInBounds_toArray, List.set_cons_succ, List.set_cons_zero]
                  refine wpLoose_skip rfl rfl ?_
                  try simp only [Act.put, List.setIfInBounds_toArray, List.set_cons_succ, List.set_cons_zero]
                  refine wpLoose_skip rfl rfl ?_
                  try simp only [Act.put, List.setIfInBounds_toArray, List.set_cons_succ, List.set_cons_zero]
                  refine wpLoose_skip rfl rfl ?_
                  try simp only [Act.put, List.setIfInBounds_toArray, List.set_cons_succ, List.set_cons_zero]
                  apply wpLoose_val rfl rfl
                  case hs =>
                    intro w1 hC hd Q1 hQ1
                    obtain ⟨hE, hS⟩ := hC
                    dsimp only [bare]
                    obtain ⟨q1, q2, q3, q4, q5⟩ := hS
                    clear hd hE
                    try clear hS
                    go_wp2
                    exact Ext.refl _
                  case ha => rfl
                  refine wpLoose_nil ?_
                  intro wa hEa hSa hFa
                  have HX5 : Hid (goneP ls s o p m b ∧ RowF wa g k (fun i => (p i : Int)) ∧ RowF wa gy k (fun i => wayV ls (ls.getD i zeroL).yes) ∧ RowF wa gn k (fun i => wayV ls (ls.getD i zeroL).no) ∧ RowF wa gb k (fun i => (cnt o i : Int)) ∧ Ext w wa) :=
                    ⟨HX.out.1, RowF.ext (w := wr.drew) HX.out.2.1 hEa, RowF.ext (w := wr.drew) HX.out.2.2.1 hEa, RowF.ext (w := wr.drew) HX.out.2.2.2.1 hEa, RowF.ext (w := wr.drew) HX.out.2.2.2.2.1 hEa, HX.out.2.2.2.2.2.drew.trans hEa⟩
                  clear hFa hSa hEa x1 x2 x3 x4 x5 HX
                  obtain ⟨y0, y1⟩ := HX5.out.2.1.2 m hmk
                  dsimp only at y0
                  go_wp2
                  go_roundw
                  case rel =>
                    refine ⟨true, m + 1, setN p m 3, rfl, by go_num, by omega, gone_grow HA.out.2.2.1 HA.out.2.2.2.1 HX5.out.1 (by have := HA.out.2.1; omega) HAK.out H3.out (HFAR.out.2 (by omega)), ?_, HX5.out.2.2.1.far (Ne.symm HG.out.1) _, HX5.out.2.2.2.1.far (Ne.symm HG.out.2.1) _, HX5.out.2.2.2.2.1.far HG4.out.1 _, ?_⟩
                    · refine (HX5.out.2.1.set hmk 3).as fun j hj => ?_
                      unfold setF setN
                      by_cases e : j = m
                      · rw [if_pos e, if_pos e]; rfl
                      · rw [if_neg e, if_neg e]
                    · exact Below.setCell HX5.out.2.2.2.2.2 (show w.heap.size ≤ g from HG.out.2.2.1) _
                  case measure => simp [intOf]; omega
                  case hAa => kernel_rfl
                  case hla => exact ⟨trivial, trivial, trivial, trivial, trivial, trivial, trivial, trivial, trivial, trivial, trivial, trivial, trivial, trivial, trivial, trivial, trivial, trivial, trivial, trivial, trivial, trivial, trivial, trivial, trivial, trivial, trivial, trivial, trivial, trivial, trivial⟩
                · have fd1 : decide (15 < (B1 : Int) - (Bm : Int) - 1) = false := decide_eq_false f1
                  by_cases f2 : 15 < (B2 : Int) - (Bm : Int) - 1
                  · go_wp2_with fail
                    refine (HQ.out _).mono ?_
                    rintro e w5 ⟨rfl, rfl⟩
                    clear HQ c1
                    go_wp2_with fail
                    refine' wp_region_loose (.inl _ :: .inl _ :: .inl _ :: .inl _ :: .inl _ :: .inl _ :: .inl _ :: .inl _ :: .inl _ :: .inl _ :: .inl _ :: .inl _ :: .inl _ :: .inl _ :: .inl _ :: .inl _ :: .inl _ :: .inl _ :: .inl _ :: .inl _ :: .inl _ :: .inl _ :: .inl _ :: .inl _ :: .inl _ :: .inl _ :: .inl _ :: .inl _ :: .inl _ :: .inl _ :: []) (fun w' => w'.cell? ⟨gy, m, none⟩ = some (.int .i64 (p1 : Int)) ∧ w'.cell? ⟨gb, p1, none⟩ = some (.int .i64 (B1 : Int)) ∧ w'.cell? ⟨gb, m, none⟩ = some (.int .i64 (Bm : Int)) ∧ w'.cell? ⟨gn, m, none⟩ = some (.int .i64 (p2 : Int)) ∧ w'.cell? ⟨gb, p2, none⟩ = some (.int .i64 (B2 : Int))) (by kernel_rfl) (by kernel_rfl) (⟨x1, x2, x3, x4, x5⟩) (fun _ _ h hE => ⟨(hE.cell (p := ⟨gy, m, none⟩) (World.block_lt_of_cell? _ _ h.1)).trans h.1, (hE.cell (p := ⟨gb, p1, none⟩) (World.block_lt_of_cell? _ _ h.2.1)).trans h.2.1, (hE.cell (p := ⟨gb, m, none⟩) (World.block_lt_of_cell? _ _ h.2.2.1)).trans h.2.2.1, (hE.cell (p := ⟨gn, m, none⟩) (World.block_lt_of_cell? _ _ h.2.2.2.1)).trans h.2.2.2.1, (hE.cell (p := ⟨gb, p2, none⟩) (World.block_lt_of_cell? _ _ h.2.2.2.2)).trans h.2.2.2.2⟩) ?hAb ?hlb ?hMb
                    case' hMb => skip
                    apply wpLoose_val rfl rfl
                    case hs =>
                      intro w1 hC hd Q1 hQ1
                      obtain ⟨hE, hS⟩ := hC
                      dsimp only [bare]
                      obtain ⟨q1, q2, q3, q4, q5⟩ := hS
                      clear hd hE
                      try clear hS
                      go_wp2
                      exact Ext.refl _
                    case ha => rfl
                    apply wpLoose_val rfl rfl
                    case hs =>
                      intro w1 hC hd Q1 hQ1
                      obtain ⟨hE, hS⟩ := hC
                      dsimp only [bare]
                      obtain ⟨q1, q2, q3, q4, q5⟩ := hS
                      clear hd hE
                      try clear hS
                      go_wp2
                      exact Ext.refl _
                    case ha => rfl
                    apply wpLoose_val rfl rfl
                    case hs =>
                      intro w1 hC hd Q1 hQ1
                      obtain ⟨hE, hS⟩ := hC
                      dsimp only [bare]
                      obtain ⟨q1, q2, q3, q4, q5⟩ := hS
                      clear hd hE
                      try clear hS
                      go_wp2
                      exact Ext.refl _
                    case ha => rfl
                    apply wpLoose_val rfl rfl
                    case hs =>
                      intro w1 hC hd Q1 hQ1
                      obtain ⟨hE, hS⟩ := hC
                      dsimp only [bare]
                      obtain ⟨q1, q2, q3, q4, q5⟩ := hS
                      clear hd hE
                      try clear hS
                      go_wp2
                      exact Ext.refl _
                    case ha => rfl
                    apply wpLoose_val rfl rfl
                    case hs =>
                      intro w1 hC hd Q1 hQ1
                      obtain ⟨hE, hS⟩ := hC
                      dsimp only [bare]
                      obtain ⟨q1, q2, q3, q4, q5⟩ := hS
                      clear hd hE
                      try clear hS
                      go_wp2
                      exact Ext.refl _
                    case ha => rfl
                    apply wpLoose_val rfl rfl
                    case hs =>
                      intro w1 hC hd Q1 hQ1
                      obtain ⟨hE, hS⟩ := hC
                      dsimp only [bare]
                      obtain ⟨q1, q2, q3, q4, q5⟩ := hS
                      clear hd hE
                      try clear hS
                      go_wp2
                      exact Ext.refl _
                    case ha => rfl
                    apply wpLoose_val rfl rfl
                    case hs =>
                      intro w1 hC hd Q1 hQ1
                      obtain ⟨hE, hS⟩ := hC
                      dsimp only [bare]
                      obtain ⟨q1, q2, q3, q4, q5⟩ := hS
                      clear hd hE
                      try clear hS
                      go_wp2
                      exact Ext.refl _
                    case ha => rfl
                    apply wpLoose_val rfl rfl
                    case hs =>
                      intro w1 hC hd Q1 hQ1
                      obtain ⟨hE, hS⟩ := hC
                      dsimp only [bare]
                      obtain ⟨q1, q2, q3, q4, q5⟩ := hS
                      clear hd hE
                      try clear hS
                      go_wp2
                      exact Ext.refl _
                    case ha => rfl
                    apply wpLoose_val rfl rfl
                    case hs =>
                      intro w1 hC hd Q1 hQ1
                      obtain ⟨hE, hS⟩ := hC
                      dsimp only [bare]
                      obtain ⟨q1, q2, q3, q4, q5⟩ := hS
                      clear hd hE
                      try clear hS
                      go_wp2
                      exact Ext.refl _
                    case ha => rfl
                    apply wpLoose_val rfl rfl
                    case hs =>
                      intro w1 hC hd Q1 hQ1
                      obtain ⟨hE, hS⟩ := hC
                      dsimp only [bare]
                      obtain ⟨q1, q2, q3, q4, q5⟩ := hS
                      clear hd hE
                      try clear hS
                      go_wp2
                      exact Ext.refl _
                    case ha => rfl
                    apply wpLoose_val rfl rfl
                    case hs =>
                      intro w1 hC hd Q1 hQ1
                      obtain ⟨hE, hS⟩ := hC
                      dsimp only [bare]
                      obtain ⟨q1, q2, q3, q4, q5⟩ := hS
                      clear hd hE
                      try clear hS
                      go_wp2
                      exact Ext.refl _
                    case ha => rfl
                    apply wpLoose_val rfl rfl
                    case hs =>
                      intro w1 hC hd Q1 hQ1
                      obtain ⟨hE, hS⟩ := hC
                      dsimp only [bare]
                      obtain ⟨q1, q2, q3, q4, q5⟩ := hS
                      clear hd hE
                      try clear hS
                      go_wp2
                      exact Ext.refl _
                    case ha => rfl
                    apply wpLoose_val rfl rfl
                    case hs =>
                      intro w1 hC hd Q1 hQ1
                      obtain ⟨hE, hS⟩ := hC
                      dsimp only [bare]
                      obtain ⟨q1, q2, q3, q4, q5⟩ := hS
                      clear hd hE
                      try clear hS
                      go_wp2
                      exact Ext.refl _
                    case ha => rfl
                    apply wpLoose_val rfl rfl
                    case hs =>
                      intro w1 hC hd Q1 hQ1
                      obtain ⟨hE, hS⟩ := hC
                      dsimp only [bare]
                      obtain ⟨q1, q2, q3, q4, q5⟩ := hS
                      clear hd hE
                      try clear hS
                      go_wp2
                      exact Ext.refl _
                    case ha => rfl
                    apply wpLoose_val rfl rfl
                    case hs =>
                      intro w1 hC hd Q1 hQ1
                      obtain ⟨hE, hS⟩ := hC
                      dsimp only [bare]
                      obtain ⟨q1, q2, q3, q4, q5⟩ := hS
                      clear hd hE
                      try clear hS
                      go_wp2
                      exact Ext.refl _
                    case ha => rfl
                    apply wpLoose_val rfl rfl
                    case hs =>
                      intro w1 hC hd Q1 hQ1
                      obtain ⟨hE, hS⟩ := hC
                      dsimp only [bare]
                      obtain ⟨q1, q2, q3, q4, q5⟩ := hS
                      clear hd hE
                      try clear hS
                      go_wp2
                      exact Ext.refl _
                    case ha => rfl
                    apply wpLoose_val rfl rfl
                    case hs =>
                      intro w1 hC hd Q1 hQ1
                      obtain ⟨hE, hS⟩ := hC
                      dsimp only [bare]
                      obtain ⟨q1, q2, q3, q4, q5⟩ := hS
                      clear hd hE
                      try clear hS
                      go_wp2
                      exact Ext.refl _
                    case ha => rfl
                    apply wpLoose_val rfl rfl
                    case hs =>
                      intro w1 hC hd Q1 hQ1
                      obtain ⟨hE, hS⟩ := hC
                      dsimp only [bare]
                      obtain ⟨q1, q2, q3, q4, q5⟩ := hS
                      clear hd hE
                      try clear hS
                      go_wp2
                      exact Ext.refl _
                    case ha => rfl
                    apply wpLoose_val rfl rfl
                    case hs =>
                      intro w1 hC hd Q1 hQ1
                      obtain ⟨hE, hS⟩ := hC
                      dsimp only [bare]
                      obtain ⟨q1, q2, q3, q4, q5⟩ := hS
                      clear hd hE
                      try clear hS
                      go_wp2
                      exact Ext.refl _
                    case ha => rfl
                    apply wpLoose_val rfl rfl
                    case hs =>
                      intro w1 hC hd Q1 hQ1
                      obtain ⟨hE, hS⟩ := hC
                      dsimp only [bare]
                      obtain ⟨q1, q2, q3, q4, q5⟩ := hS
                      clear hd hE
                      try clear hS
                      go_wp2
                      exact Ext.refl _
                    case ha => rfl
                    apply wpLoose_val rfl rfl
                    case hs =>
                      intro w1 hC hd Q1 hQ1
                      obtain ⟨hE, hS⟩ := hC
                      dsimp only [bare]
                      obtain ⟨q1, q2, q3, q4, q5⟩ := hS
                      clear hd hE
                      try clear hS
                      go_wp2
                      exact Ext.refl _
                    case ha => rfl
                    apply wpLoose_val rfl rfl
                    case hs =>
                      intro w1 hC hd Q1 hQ1
                      obtain ⟨hE, hS⟩ := hC
                      dsimp only [bare]
                      obtain ⟨q1, q2, q3, q4, q5⟩ := hS
                      clear hd hE
                      try clear hS
                      go_wp2
                      exact Ext.refl _
                    case ha => rfl
                    apply wpLoose_val rfl rfl
                    case hs =>
                      intro w1 hC hd Q1 hQ1
                      obtain ⟨hE, hS⟩ := hC
                      dsimp only [bare]
                      obtain ⟨q1, q2, q3, q4, q5⟩ := hS
                      clear hd hE
                      try clear hS
                      go_wp2
                      exact Ext.refl _
                    case ha => rfl
                    apply wpLoose_val rfl rfl
                    case hs =>
                      intro w1 hC hd Q1 hQ1
                      obtain ⟨hE, hS⟩ := hC
                      dsimp only [bare]
                      obtain ⟨q1, q2, q3, q4, q5⟩ := hS
                      clear hd hE
                      try clear hS
                      go_wp2
                      exact Ext.refl _
                    case ha => rfl
                    apply wpLoose_val rfl rfl
                    case hs =>
                      intro w1 hC hd Q1 hQ1
                      obtain ⟨hE, hS⟩ := hC
                      dsimp only [bare]
                      obtain ⟨q1, q2, q3, q4, q5⟩ := hS
                      clear hd hE
                      try clear hS
                      go_wp2
                      exact Ext.refl _
                    case ha => rfl
                    apply wpLoose_val rfl rfl
                    case hs =>
                      intro w1 hC hd Q1 hQ1
                      obtain ⟨hE, hS⟩ := hC
                      dsimp only [bare]
                      obtain ⟨q1, q2, q3, q4, q5⟩ := hS
                      clear hd hE
                      try clear hS
                      go_wp2
                      exact Ext.refl _
                    case ha => rfl
                    apply wpLoose_val rfl rfl
                    case hs =>
                      intro w1 hC hd Q1 hQ1
                      obtain ⟨hE, hS⟩ := hC
                      dsimp only [bare]
                      obtain ⟨q1, q2, q3, q4, q5⟩ := hS
                      clear hd hE
                      try clear hS
                      go_wp2
                      exact Ext.refl _
                    case ha => rfl
                    apply wpLoose_val rfl rfl
                    case hs =>
                      intro w1 hC hd Q1 hQ1
                      obtain ⟨hE, hS⟩ := hC
                      dsimp only [bare]
                      obtain ⟨q1, q2, q3, q4, q5⟩ := hS
                      clear hd hE
                      try clear hS
                      go_wp2
                      exact Ext.refl _
                    case ha => rfl
                    apply wpLoose_val rfl rfl
                    case hs =>
                      intro w1 hC hd Q1 hQ1
                      obtain ⟨hE, hS⟩ := hC
                      dsimp only [bare]
                      obtain ⟨q1, q2, q3, q4, q5⟩ := hS
                      clear hd hE
                      try clear hS
                      go_wp2
                      exact Ext.refl _
                    case ha => rfl
                    apply wpLoose_val rfl rfl
                    case hs =>
                      intro w1 hC hd Q1 hQ1
                      obtain ⟨hE, hS⟩ := hC
                      dsimp only [bare]
                      obtain ⟨q1, q2, q3, q4, q5⟩ := hS
                      clear hd hE
                      try clear hS
                      go_wp2
                      exact Ext.refl _
                    case ha => rfl
                    refine wpLoose_nil ?_
                    intro wb hEb hSb hFb
                    have HX5 : Hid (goneP ls s o p m b ∧ RowF wb g k (fun i => (p i : Int)) ∧ RowF wb gy k (fun i => wayV ls (ls.getD i zeroL).yes) ∧ RowF wb gn k (fun i => wayV ls (ls.getD i zeroL).no) ∧ RowF wb gb k (fun i => (cnt o i : Int)) ∧ Ext w wb) :=
                      ⟨HX.out.1, RowF.ext (w := wr.drew) HX.out.2.1 hEb, RowF.ext (w := wr.drew) HX.out.2.2.1 hEb, RowF.ext (w := wr.drew) HX.out.2.2.2.1 hEb, RowF.ext (w := wr.drew) HX.out.2.2.2.2.1 hEb, HX.out.2.2.2.2.2.drew.trans hEb⟩
                    clear hFb hSb hEb x1 x2 x3 x4 x5 HX
                    obtain ⟨y0, y1⟩ := HX5.out.2.1.2 m hmk
                    dsimp only at y0
                    go_wp2
                    go_roundw
                    case rel =>
                      refine ⟨true, m + 1, setN p m 3, rfl, by go_num, by omega, gone_grow HA.out.2.2.1 HA.out.2.2.2.1 HX5.out.1 (by have := HA.out.2.1; omega) HAK.out H3.out (HFAR.out.2 (by omega)), ?_, HX5.out.2.2.1.far (Ne.symm HG.out.1) _, HX5.out.2.2.2.1.far (Ne.symm HG.out.2.1) _, HX5.out.2.2.2.2.1.far HG4.out.1 _, ?_⟩
                      · refine (HX5.out.2.1.set hmk 3).as fun j hj => ?_
                        unfold setF setN
                        by_cases e : j = m
                        · rw [if_pos e, if_pos e]; rfl
                        · rw [if_neg e, if_neg e]
                      · exact Below.setCell HX5.out.2.2.2.2.2 (show w.heap.size ≤ g from HG.out.2.2.1) _
                    case measure => simp [intOf]; omega
                    case hAb => kernel_rfl
                    case hlb => exact ⟨trivial, trivial, trivial, trivial, trivial, trivial, trivial, trivial, trivial, trivial, trivial, trivial, trivial, trivial, trivial, trivial, trivial, trivial, trivial, trivial, trivial, trivial, trivial, trivial, trivial, trivial, trivial, trivial, trivial, trivial, trivial⟩
                  · go_wp2_with fail
                    refine (HQ.out _).mono ?_
                    rintro e w5 ⟨rfl, rfl⟩
                    clear HQ c1
                    go_wp2_with fail
                    refine' wp_region_loose (.inl _ :: .inl _ :: .inl _ :: .inl _ :: .inl _ :: .inl _ :: .inl _ :: .inl _ :: .inl _ :: .inl _ :: .inl _ :: .inl _ :: .inl _ :: .inl _ :: .inl _ :: .inl _ :: .inl _ :: .inl _ :: .inl _ :: .inl _ :: .inl _ :: .inl _ :: .inl _ :: .inl _ :: .inl _ :: .inl _ :: .inl _ :: .inl _ :: .inl _ :: .inl _ :: []) (fun w' => w'.cell? ⟨gy, m, none⟩ = some (.int .i64 (p1 : Int)) ∧ w'.cell? ⟨gb, p1, none⟩ = some (.int .i64 (B1 : Int)) ∧ w'.cell? ⟨gb, m, none⟩ = some (.int .i64 (Bm : Int)) ∧ w'.cell? ⟨gn, m, none⟩ = some (.int .i64 (p2 : Int)) ∧ w'.cell? ⟨gb, p2, none⟩ = some (.int .i64 (B2 : Int))) (by kernel_rfl) (by kernel_rfl) (⟨x1, x2, x3, x4, x5⟩) (fun _ _ h hE => ⟨(hE.cell (p := ⟨gy, m, none⟩) (World.block_lt_of_cell? _ _ h.1)).trans h.1, (hE.cell (p := ⟨gb, p1, none⟩) (World.block_lt_of_cell? _ _ h.2.1)).trans h.2.1, (hE.cell (p := ⟨gb, m, none⟩) (World.block_lt_of_cell? _ _ h.2.2.1)).trans h.2.2.1, (hE.cell (p := ⟨gn, m, none⟩) (World.block_lt_of_cell? _ _ h.2.2.2.1)).trans h.2.2.2.1, (hE.cell (p := ⟨gb, p2, none⟩) (World.block_lt_of_cell? _ _ h.2.2.2.2)).trans h.2.2.2.2⟩) ?hAc ?hlc ?hMc
                    case' hMc => skip
                    apply wpLoose_val rfl rfl
                    case hs =>
                      intro w1 hC hd Q1 hQ1
                      obtain ⟨hE, hS⟩ := hC
                      dsimp only [bare]
                      obtain ⟨q1, q2, q3, q4, q5⟩ := hS
                      clear hd hE
                      try clear hS
                      go_wp2
                      exact Ext.refl _
                    case ha => rfl
                    apply wpLoose_val rfl rfl
                    case hs =>
                      intro w1 hC hd Q1 hQ1
                      obtain ⟨hE, hS⟩ := hC
                      dsimp only [bare]
                      obtain ⟨q1, q2, q3, q4, q5⟩ := hS
                      clear hd hE
                      try clear hS
                      go_wp2
                      exact Ext.refl _
                    case ha => rfl
                    apply wpLoose_val rfl rfl
                    case hs =>
                      intro w1 hC hd Q1 hQ1
                      obtain ⟨hE, hS⟩ := hC
                      dsimp only [bare]
                      obtain ⟨q1, q2, q3, q4, q5⟩ := hS
                      clear hd hE
                      try clear hS
                      go_wp2
                      exact Ext.refl _
                    case ha => rfl
                    apply wpLoose_val rfl rfl
                    case hs =>
                      intro w1 hC hd Q1 hQ1
                      obtain ⟨hE, hS⟩ := hC
                      dsimp only [bare]
                      obtain ⟨q1, q2, q3, q4, q5⟩ := hS
                      clear hd hE
                      try clear hS
                      go_wp2
                      exact Ext.refl _
                    case ha => rfl
                    apply wpLoose_val rfl rfl
                    case hs =>
                      intro w1 hC hd Q1 hQ1
                      obtain ⟨hE, hS⟩ := hC
                      dsimp only [bare]
                      obtain ⟨q1, q2, q3, q4, q5⟩ := hS
                      clear hd hE
                      try clear hS
                      go_wp2
                      exact Ext.refl _
                    case ha => rfl
                    apply wpLoose_val rfl rfl
                    case hs =>
                      intro w1 hC hd Q1 hQ1
                      obtain ⟨hE, hS⟩ := hC
                      dsimp only [bare]
                      obtain ⟨q1, q2, q3, q4, q5⟩ := hS
                      clear hd hE
                      try clear hS
                      go_wp2
                      exact Ext.refl _
                    case ha => rfl
                    apply wpLoose_val rfl rfl
                    case hs =>
                      intro w1 hC hd Q1 hQ1
                      obtain ⟨hE, hS⟩ := hC
                      dsimp only [bare]
                      obtain ⟨q1, q2, q3, q4, q5⟩ := hS
                      clear hd hE
                      try clear hS
                      go_wp2
                      exact Ext.refl _
                    case ha => rfl
                    apply wpLoose_val rfl rfl
                    case hs =>
                      intro w1 hC hd Q1 hQ1
                      obtain ⟨hE, hS⟩ := hC
                      dsimp only [bare]
                      obtain ⟨q1, q2, q3, q4, q5⟩ := hS
                      clear hd hE
                      try clear hS
                      go_wp2
                      exact Ext.refl _
                    case ha => rfl
                    apply wpLoose_val rfl rfl
                    case hs =>
                      intro w1 hC hd Q1 hQ1
                      obtain ⟨hE, hS⟩ := hC
                      dsimp only [bare]
                      obtain ⟨q1, q2, q3, q4, q5⟩ := hS
                      clear hd hE
                      try clear hS
                      go_wp2
                      exact Ext.refl _
                    case ha => rfl
                    apply wpLoose_val rfl rfl
                    case hs =>
                      intro w1 hC hd Q1 hQ1
                      obtain ⟨hE, hS⟩ := hC
                      dsimp only [bare]
                      obtain ⟨q1, q2, q3, q4, q5⟩ := hS
                      clear hd hE
                      try clear hS
                      go_wp2
                      exact Ext.refl _
                    case ha => rfl
                    apply wpLoose_val rfl rfl
                    case hs =>
                      intro w1 hC hd Q1 hQ1
                      obtain ⟨hE, hS⟩ := hC
                      dsimp only [bare]
                      obtain ⟨q1, q2, q3, q4, q5⟩ := hS
                      clear hd hE
                      try clear hS
                      go_wp2
                      exact Ext.refl _
                    case ha => rfl
                    apply wpLoose_val rfl rfl
                    case hs =>
                      intro w1 hC hd Q1 hQ1
                      obtain ⟨hE, hS⟩ := hC
                      dsimp only [bare]
                      obtain ⟨q1, q2, q3, q4, q5⟩ := hS
                      clear hd hE
                      try clear hS
                      go_wp2
                      exact Ext.refl _
                    case ha => rfl
                    apply wpLoose_val rfl rfl
                    case hs =>
                      intro w1 hC hd Q1 hQ1
                      obtain ⟨hE, hS⟩ := hC
                      dsimp only [bare]
                      obtain ⟨q1, q2, q3, q4, q5⟩ := hS
                      clear hd hE
                      try clear hS
                      go_wp2
                      exact Ext.refl _
                    case ha => rfl
                    apply wpLoose_val rfl rfl
                    case hs =>
                      intro w1 hC hd Q1 hQ1
                      obtain ⟨hE, hS⟩ := hC
                      dsimp only [bare]
                      obtain ⟨q1, q2, q3, q4, q5⟩ := hS
                      clear hd hE
                      try clear hS
                      go_wp2
                      exact Ext.refl _
                    case ha => rfl
                    apply wpLoose_val rfl rfl
                    case hs =>
                      intro w1 hC hd Q1 hQ1
                      obtain ⟨hE, hS⟩ := hC
                      dsimp only [bare]
                      obtain ⟨q1, q2, q3, q4, q5⟩ := hS
                      clear hd hE
                      try clear hS
                      go_wp2
                      exact Ext.refl _
                    case ha => rfl
                    apply wpLoose_val rfl rfl
                    case hs =>
                      intro w1 hC hd Q1 hQ1
                      obtain ⟨hE, hS⟩ := hC
                      dsimp only [bare]
                      obtain ⟨q1, q2, q3, q4, q5⟩ := hS
                      clear hd hE
                      try clear hS
                      go_wp2
                      exact Ext.refl _
                    case ha => rfl
                    apply wpLoose_val rfl rfl
                    case hs =>
                      intro w1 hC hd Q1 hQ1
                      obtain ⟨hE, hS⟩ := hC
                      dsimp only [bare]
                      obtain ⟨q1, q2, q3, q4, q5⟩ := hS
                      clear hd hE
                      try clear hS
                      go_wp2
                      exact Ext.refl _
                    case ha => rfl
                    apply wpLoose_val rfl rfl
                    case hs =>
                      intro w1 hC hd Q1 hQ1
                      obtain ⟨hE, hS⟩ := hC
                      dsimp only [bare]
                      obtain ⟨q1, q2, q3, q4, q5⟩ := hS
                      clear hd hE
                      try clear hS
                      go_wp2
                      exact Ext.refl _
                    case ha => rfl
                    apply wpLoose_val rfl rfl
                    case hs =>
                      intro w1 hC hd Q1 hQ1
                      obtain ⟨hE, hS⟩ := hC
                      dsimp only [bare]
                      obtain ⟨q1, q2, q3, q4, q5⟩ := hS
                      clear hd hE
                      try clear hS
                      go_wp2
                      exact Ext.refl _
                    case ha => rfl
                    apply wpLoose_val rfl rfl
                    case hs =>
                      intro w1 hC hd Q1 hQ1
                      obtain ⟨hE, hS⟩ := hC
                      dsimp only [bare]
                      obtain ⟨q1, q2, q3, q4, q5⟩ := hS
                      clear hd hE
                      try clear hS
                      go_wp2
                      exact Ext.refl _
                    case ha => rfl
                    apply wpLoose_val rfl rfl
                    case hs =>
                      intro w1 hC hd Q1 hQ1
                      obtain ⟨hE, hS⟩ := hC
                      dsimp only [bare]
                      obtain ⟨q1, q2, q3, q4, q5⟩ := hS
                      clear hd hE
                      try clear hS
                      go_wp2
                      exact Ext.refl _
                    case ha => rfl
                    apply wpLoose_val rfl rfl
                    case hs =>
                      intro w1 hC hd Q1 hQ1
                      obtain ⟨hE, hS⟩ := hC
                      dsimp only [bare]
                      obtain ⟨q1, q2, q3, q4, q5⟩ := hS
                      clear hd hE
                      try clear hS
                      go_wp2
                      exact Ext.refl _
                    case ha => rfl
                    apply wpLoose_val rfl rfl
                    case hs =>
                      intro w1 hC hd Q1 hQ1
                      obtain ⟨hE, hS⟩ := hC
                      dsimp only [bare]
                      obtain ⟨q1, q2, q3, q4, q5⟩ := hS
                      clear hd hE
                      try clear hS
                      go_wp2
                      exact Ext.refl _
                    case ha => rfl
                    apply wpLoose_val rfl rfl
                    case hs =>
                      intro w1 hC hd Q1 hQ1
                      obtain ⟨hE, hS⟩ := hC
                      dsimp only [bare]
                      obtain ⟨q1, q2, q3, q4, q5⟩ := hS
                      clear hd hE
                      try clear hS
                      go_wp2
                      exact Ext.refl _
                    case ha => rfl
                    apply wpLoose_val rfl rfl
                    case hs =>
                      intro w1 hC hd Q1 hQ1
                      obtain ⟨hE, hS⟩ := hC
                      dsimp only [bare]
                      obtain ⟨q1, q2, q3, q4, q5⟩ := hS
                      clear hd hE
                      try clear hS
                      go_wp2
                      exact Ext.refl _
                    case ha => rfl
                    apply wpLoose_val rfl rfl
                    case hs =>
                      intro w1 hC hd Q1 hQ1
                      obtain ⟨hE, hS⟩ := hC
                      dsimp only [bare]
                      obtain ⟨q1, q2, q3, q4, q5⟩ := hS
                      clear hd hE
                      try clear hS
                      go_wp2
                      exact Ext.refl _
                    case ha => rfl
                    apply wpLoose_val rfl rfl
                    case hs =>
                      intro w1 hC hd Q1 hQ1
                      obtain ⟨hE, hS⟩ := hC
                      dsimp only [bare]
                      obtain ⟨q1, q2, q3, q4, q5⟩ := hS
                      clear hd hE
                      try clear hS
                      go_wp2
                      exact Ext.refl _
                    case ha => rfl
                    apply wpLoose_val rfl rfl
                    case hs =>
                      intro w1 hC hd Q1 hQ1
                      obtain ⟨hE, hS⟩ := hC
                      dsimp only [bare]
                      obtain ⟨q1, q2, q3, q4, q5⟩ := hS
                      clear hd hE
                      try clear hS
                      go_wp2
                      exact Ext.refl _
                    case ha => rfl
                    apply wpLoose_val rfl rfl
                    case hs =>
                      intro w1 hC hd Q1 hQ1
                      obtain ⟨hE, hS⟩ := hC
                      dsimp only [bare]
                      obtain ⟨q1, q2, q3, q4, q5⟩ := hS
                      clear hd hE
                      try clear hS
                      go_wp2
                      exact Ext.refl _
                    case ha => rfl
                    apply wpLoose_val rfl rfl
                    case hs =>
                      intro w1 hC hd Q1 hQ1
                      obtain ⟨hE, hS⟩ := hC
                      dsimp only [bare]
                      obtain ⟨q1, q2, q3, q4, q5⟩ := hS
                      clear hd hE
                      try clear hS
                      go_wp2
                      exact Ext.refl _
                    case ha => rfl
                    refine wpLoose_nil ?_
                    intro wc hEc hSc hFc
                    have HX5 : Hid (goneP ls s o p m b ∧ RowF wc g k (fun i => (p i : Int)) ∧ RowF wc gy k (fun i => wayV ls (ls.getD i zeroL).yes) ∧ RowF wc gn k (fun i => wayV ls (ls.getD i zeroL).no) ∧ RowF wc gb k (fun i => (cnt o i : Int)) ∧ Ext w wc) :=
                      ⟨HX.out.1, RowF.ext (w := wr.drew) HX.out.2.1 hEc, RowF.ext (w := wr.drew) HX.out.2.2.1 hEc, RowF.ext (w := wr.drew) HX.out.2.2.2.1 hEc, RowF.ext (w := wr.drew) HX.out.2.2.2.2.1 hEc, HX.out.2.2.2.2.2.drew.trans hEc⟩
                    clear hFc hSc hEc x1 x2 x3 x4 x5 HX
                    go_wp2
                    go_roundw
                    case rel => exact ⟨b, m + 1, p, rfl, by go_num, by omega, gone_pass HX5.out.1 (by have := HA.out.2.1; omega) (fun _ => .inr fun hf => by have := HFAR.out.1 hf; omega), HX5.out.2⟩
                    case measure => simp [intOf]; omega
                    case hAc => kernel_rfl
                    case hlc => exact ⟨trivial, trivial, trivial, trivial, trivial, trivial, trivial, trivial, trivial, trivial, trivial, trivial, trivial, trivial, trivial, trivial, trivial, trivial, trivial, trivial, trivial, trivial, trivial, trivial, trivial, trivial, trivial, trivial, trivial, trivial, trivial⟩
          · have hmk' : m = k := by omega
            have bm : ¬ ((m : Int) < (k : Int)) := by omega
            subst hmk'
            cases b with
            | false =>
              have HE : Hid (∀ i, i < m → p i = s i) := by
                show ∀ i, i < m → p i = s i
                have hg := HX.out.1
                have := grow_end HA.out.2.2.1 HA.out.2.2.2.1 hg.1 (fun i hi ha => (hg.2.2.2.1 (by simp)).2 i (by have := HA.out.2.1; omega) ha)
                intro i hi
                rw [(hg.2.2.2.1 (by simp)).1 i (by have := HA.out.2.1; omega)]
                exact this i (by have := HA.out.2.1; omega)
              have HR5 : Hid (w.heap.size ≤ g ∧ RowF wr g m (fun i => (s i : Int)) ∧ Ext w wr) := ⟨HG.out.2.2.1, HX.out.2.1.as fun j hj => by rw [HE.out j hj], HX.out.2.2.2.2.2⟩
              clear HX HE
              go_wp2
              go_ret
              exact ⟨g, ⟨_, rfl⟩, HR5.out⟩
            | true =>
              have HX2 : Hid (growP ls s p ∧ r + 1 ≤ thr p m ∧ RowF wr g m (fun i => (p i : Int)) ∧ RowF wr gy m (fun i => wayV ls (ls.getD i zeroL).yes) ∧ RowF wr gn m (fun i => wayV ls (ls.getD i zeroL).no) ∧ Ext w wr) := by
                have hg := HX.out.1
                have h5 := hg.2.2.2.2.1 (by simp)
                rw [← HA.out.2.1] at h5
                exact ⟨hg.2.1, by have := HO.out.2; omega, HX.out.2.1, HX.out.2.2.1, HX.out.2.2.2.1, HX.out.2.2.2.2.2⟩
              clear HX
              go_wp2
              go_roundw
              case rel => exact ⟨r + 1, p, by go_num, by omega, HX2.out⟩
              case measure => simp [intOf]; omega

/-- A plan of these lines, known from line k on: the map in block B, in block g how many words a line and all behind it become. -/
def PlanP (W : World) (ls : List Ln) (s : Nat → Nat) (B g k : Nat) : Prop :=
  MapOf W B ls.length (upTo ls ls.length) ∧ ∃ f : Nat → Int, RowF W g (ls.length + 1) f ∧ ∀ j, k ≤ j → j ≤ ls.length → f j = (cnt s ls.length : Int) - (cnt s j : Int)

theorem PlanP.ext {W W' : World} {ls : List Ln} {s : Nat → Nat} {B g k : Nat} (h : PlanP W ls s B g k) (hE : Ext W W') : PlanP W' ls s B g k := by
  obtain ⟨h1, f, h2, h3⟩ := h
  exact ⟨h1.ext hE, f, h2.ext hE, h3⟩

theorem PlanP.step {W : World} {ls : List Ln} {s : Nat → Nat} {B g j : Nat} (h : PlanP W ls s B g (j + 1)) (hj : j < ls.length) (hne : B ≠ g) : PlanP (W.setCell ⟨g, j, none⟩ (.int .i64 ((cnt s ls.length : Int) - (cnt s (j + 1) : Int) + (s j : Int)))) ls s B g j := by
  obtain ⟨hm, f, hr, hf⟩ := h
  refine ⟨?_, _, hr.set (by omega) _, fun i hi hin => ?_⟩
  · obtain ⟨D, h1, h2⟩ := hm
    exact ⟨D, h1.setCell (a := ⟨g, j, none⟩) hne _, h2⟩
  · unfold setF
    by_cases e : i = j
    · subst e
      rw [if_pos rfl]
      show (cnt s ls.length : Int) - ((cnt s i + s i : Nat) : Int) + (s i : Int) = _
      omega
    · rw [if_neg e]
      exact hf i (by omega) hin

/-- A block of two cells that may be written. -/
def Two (W : World) (b : Nat) (v0 v1 : Value) : Prop := b < W.heap.size ∧ W.cell? ⟨b, 0, none⟩ = some v0 ∧ W.cell? ⟨b, 1, none⟩ = some v1 ∧ W.frozen? ⟨b, 0, none⟩ = false ∧ W.frozen? ⟨b, 1, none⟩ = false

theorem Two.ext {W W' : World} {b : Nat} {v0 v1 : Value} (h : Two W b v0 v1) (hE : Ext W W') : Two W' b v0 v1 :=
  ⟨Nat.lt_of_lt_of_le h.1 hE.size, (hE.cell (p := ⟨b, 0, none⟩) h.1).trans h.2.1, (hE.cell (p := ⟨b, 1, none⟩) h.1).trans h.2.2.1, (hE.frozen (p := ⟨b, 0, none⟩) h.1).trans h.2.2.2.1, (hE.frozen (p := ⟨b, 1, none⟩) h.1).trans h.2.2.2.2⟩

theorem Two.far {W : World} {b g i : Nat} {v0 v1 : Value} (h : Two W b v0 v1) (hne : b ≠ g) (v : Value) : Two (W.setCell ⟨g, i, none⟩ v) b v0 v1 :=
  ⟨by rw [World.size_setCell]; exact h.1, by rw [set_far (fun e => hne (by injection e))]; exact h.2.1, by rw [set_far (fun e => hne (by injection e))]; exact h.2.2.1, by rw [World.frozen?_setCell]; exact h.2.2.2.1, by rw [World.frozen?_setCell]; exact h.2.2.2.2⟩

/-- The words of the line at i. -/
def wordsL (ls : List Ln) (s : Nat → Nat) (i : Nat) : List Wd :=
  if s i = 0 then []
  else if s i = 3 then [((ls.getD i zeroL).wd.1, (ls.getD i zeroL).wd.2.1, 0, 1), (7, 1 + (overL ls s i (ls.getD i zeroL).yes : Int), 0, 0), (7, (overL ls s i (ls.getD i zeroL).no : Int), 0, 0)]
  else if askB (ls.getD i zeroL).wd.1 = true then [((ls.getD i zeroL).wd.1, (ls.getD i zeroL).wd.2.1, (overL ls s i (ls.getD i zeroL).yes : Int), (overL ls s i (ls.getD i zeroL).no : Int))]
  else if (ls.getD i zeroL).wd.1 = 7 then [((ls.getD i zeroL).wd.1, (overL ls s i (ls.getD i zeroL).yes : Int), (ls.getD i zeroL).wd.2.2.1, (ls.getD i zeroL).wd.2.2.2)]
  else [(ls.getD i zeroL).wd]

/-- The words of the first n lines. -/
def layL (ls : List Ln) (s : Nat → Nat) : Nat → List Wd
  | 0 => []
  | n + 1 => layL ls s n ++ wordsL ls s n

theorem size_cases {ls : List Ln} {s : Nat → Nat} (hs : sizesP ls s) {i : Nat} (hi : i < ls.length) : s i = 0 ∨ s i = 1 ∨ s i = 3 := by
  rcases hs i hi with h | h | h | h <;> omega

theorem wordsL_length {ls : List Ln} {s : Nat → Nat} (hs : sizesP ls s) {i : Nat} (hi : i < ls.length) : (wordsL ls s i).length = s i := by
  unfold wordsL
  rcases size_cases hs hi with h | h | h <;> rw [h]
  · rfl
  · rw [if_neg (by decide), if_neg (by decide)]
    split
    · rfl
    · split <;> rfl
  · rfl

theorem layL_length {ls : List Ln} {s : Nat → Nat} (hs : sizesP ls s) : ∀ {n : Nat}, n ≤ ls.length → (layL ls s n).length = cnt s n
  | 0, _ => rfl
  | n + 1, h => by
    show (layL ls s n ++ wordsL ls s n).length = cnt s n + s n
    rw [List.length_append, layL_length hs (by omega), wordsL_length hs (by omega)]

def labA (i : Nat) : ByteArray := ⟨#[97, UInt8.ofNat (48 + i)]⟩
def labB (i : Nat) : ByteArray := ⟨#[98, UInt8.ofNat (48 + i)]⟩

/-- Short texts. -/
def shortL (x : Ln) : Prop := x.lab.size ≤ 12 ∧ x.yes.size ≤ 12 ∧ x.no.size ≤ 12

/-- What is drawn after i blocks. -/
structure PreP (i : Nat) (l : List Ln) : Prop where
  len : l.length ≤ 1 + 26 * i
  pos : 1 ≤ l.length
  fits : ∀ j, j < l.length → fitsP (l.getD j zeroL) ∧ leadP l j (l.getD j zeroL) ∧ shortL (l.getD j zeroL)
  once : oncePto l l.length
  labs : ∀ j, j < l.length → (l.getD j zeroL).wd.1 = 0 → ∃ q, q < i ∧ ((l.getD j zeroL).lab = labA q ∨ (l.getD j zeroL).lab = labB q)

/-- A word that is no place and leads to the two places of its block at most. -/
def midL (a b : ByteArray) (x : Ln) : Prop :=
  x.wd.1 ≠ 0 ∧ fitsP x ∧ shortL x ∧ ((askP x.wd.1 ∧ x.yes = a ∧ x.no = b) ∨ (¬ askP x.wd.1 ∧ x.wd.1 = 7 ∧ x.yes = b ∧ x.no = noText) ∨ (¬ askP x.wd.1 ∧ x.wd.1 ≠ 7 ∧ x.yes = noText ∧ x.no = noText))

/-- Within block i: what was ahead, and k words. -/
def MidP (i k : Nat) (l : List Ln) : Prop := ∃ l0 m, l = l0 ++ m ∧ PreP i l0 ∧ m.length = k ∧ ∀ x ∈ m, midL (labA i) (labB i) x

theorem MidP.push {i k : Nat} {l : List Ln} (h : MidP i k l) {x : Ln} (hx : midL (labA i) (labB i) x) : MidP i (k + 1) (l ++ [x]) := by
  obtain ⟨l0, m, rfl, h1, h2, h3⟩ := h
  exact ⟨l0, m ++ [x], by simp, h1, by simp [h2], fun y hy => by
    rcases List.mem_append.1 hy with hy | hy
    · exact h3 y hy
    · rw [List.mem_singleton.1 hy]; exact hx⟩

def plainL (o k : Int) : Ln := ⟨noText, (o, k, 0, 0), noText, noText⟩
def placeL (s : ByteArray) : Ln := ⟨s, zeroW, noText, noText⟩

/-- What the three boxes hold: the plan, the line, the word. -/
def Box3 (W : World) (ls : List Ln) (s : Nat → Nat) (B g n cap b : Nat) (l : Ln) : Prop :=
  PlanP W ls s B g 0 ∧ W.cell? ⟨b, 0, none⟩ = some (.map (some B)) ∧ W.cell? ⟨b, 1, none⟩ = some (.slice (some ⟨g, 0, none⟩) (n + 1) cap) ∧ Hept W (b + 1) 0 l

theorem Box3.ext {W W' : World} {ls : List Ln} {s : Nat → Nat} {B g n cap b : Nat} {l : Ln} (h : Box3 W ls s B g n cap b l) (hE : Ext W W') : Box3 W' ls s B g n cap b l :=
  ⟨h.1.ext hE, (hE.cell (p := ⟨b, 0, none⟩) (World.block_lt_of_cell? _ _ h.2.1)).trans h.2.1, (hE.cell (p := ⟨b, 1, none⟩) (World.block_lt_of_cell? _ _ h.2.2.1)).trans h.2.2.1, h.2.2.2.ext hE⟩

theorem Box3.far {W : World} {ls : List Ln} {s : Nat → Nat} {B g n cap b k i : Nat} {l : Ln} (h : Box3 W ls s B g n cap b l) (v : Value) (h1 : B ≠ k) (h2 : g ≠ k) (h3 : b ≠ k) (h4 : b + 1 ≠ k) : Box3 (W.setCell ⟨k, i, none⟩ v) ls s B g n cap b l := by
  obtain ⟨⟨⟨D, m1, m2⟩, f, r1, r2⟩, c0, c1, ⟨d0, d1, d2, d3, d4, d5, d6⟩⟩ := h
  have hf : ∀ {x : Nat}, x ≠ k → ∀ o, (W.setCell ⟨k, i, none⟩ v).cell? ⟨x, o, none⟩ = W.cell? ⟨x, o, none⟩ := fun hx o => set_far fun e => hx (by injection e)
  exact ⟨⟨⟨D, m1.setCell (a := ⟨k, i, none⟩) h1 _, m2⟩, f, r1.far h2 _, r2⟩, (hf h3 _).trans c0, (hf h3 _).trans c1, (hf h4 _).trans d0, (hf h4 _).trans d1, (hf h4 _).trans d2, (hf h4 _).trans d3, (hf h4 _).trans d4, (hf h4 _).trans d5, (hf h4 _).trans d6⟩

theorem Quad.put {W : World} {b i : Nat} {p q : Wd} (h : Quad W b 0 p) (v : Int) (hq : q = (if i = 0 then v else p.1, if i = 1 then v else p.2.1, if i = 2 then v else p.2.2.1, if i = 3 then v else p.2.2.2)) : Quad (W.setCell ⟨b, i, none⟩ (.int .i64 v)) b 0 q := by
  obtain ⟨h0, h1, h2, h3⟩ := h
  simp only [Nat.zero_add] at h0 h1 h2 h3
  subst hq
  refine ⟨?_, ?_, ?_, ?_⟩
  · rw [cell_set W b i 0 _ _ h0]; by_cases e : i = 0
    · subst e; rfl
    · rw [if_neg (Ne.symm e)]; simp only [if_neg e]
  · rw [cell_set W b i 1 _ _ h1]; by_cases e : i = 1
    · subst e; rfl
    · rw [if_neg (Ne.symm e)]; simp only [if_neg e]
  · rw [cell_set W b i 2 _ _ h2]; by_cases e : i = 2
    · subst e; rfl
    · rw [if_neg (Ne.symm e)]; simp only [if_neg e]
  · rw [cell_set W b i 3 _ _ h3]; by_cases e : i = 3
    · subst e; rfl
    · rw [if_neg (Ne.symm e)]; simp only [if_neg e]

end Go.Proofs.YthflflhcbnianaaDoor
