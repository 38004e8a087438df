/- What spec's l11Begins and l11Ways answer: where each line begins, and where its ways lead. -/
import Derived.Test.YtakcmiijnckaaaaIntRow
namespace Go.Proofs.Ytakcmiijnckaaaa
open Go.RowKit
set_option linter.unusedVariables false

/-- One more number behind a row of the call's own. -/
theorem push_ext {w wr w' : World} {B n : Nat} {v : Value} {f : Nat → Int} (hE : Ext w wr) (hB : w.heap.size ≤ B) (h : wr.ownsRow B 3 1 v n (valsF f n)) {o : Obj} (hg : (wr.alloc o).grownBy w' v.ownBlock) : Ext w w' :=
  ext_row (hE.alloc o) hg fun x hx => Nat.le_trans hB (own_from h hx)

set_option maxRecDepth 100000 in
set_option maxHeartbeats 4000000 in
theorem begins_any (g n cap : Nat) (s : Nat → Nat) (w : World) (hn : 0 < n) (hn6 : n ≤ 600) (hs : ∀ i, i < n → s i ≤ 3) (h : RowF w g n (fun i => (s i : Int))) :
    Calls Try.prog 52 #[.slice (some ⟨g, 0, none⟩) n cap] w fun e w' => ∃ q c, e = .returned (.slice (some ⟨q, 0, none⟩) n c) ∧ w.heap.size ≤ q ∧ RowF w' q n (fun i => (cnt s i : Int)) ∧ Ext w w' := by
  obtain ⟨i0, hi, hz0, hz1, hz2⟩ := info_parts Try.infoI
  have HA : Hid (RowF w g n (fun i => (s i : Int)) ∧ 0 < n ∧ ∀ i, i < n → s i ≤ 3) := ⟨h, hn, hs⟩
  have HC : Hid (∀ k, k ≤ n → cnt s k ≤ 1800) := fun k hk => by
    have : ∀ k, k ≤ n → cnt s k ≤ 3 * k := by
      intro k
      induction k with
      | zero => intro _; exact Nat.le_refl _
      | succ k ih =>
        intro hk
        have := ih (by omega)
        have := HA.out.2.2 k (by omega)
        show cnt s k + s k ≤ _
        omega
    have := this k hk
    omega
  clear h hn hs
  go_enter Try.func52, Try.ntmps52
  go_wp2_with fail
  have X1 : Hid (Ext w (w.alloc (.cells #[] 3)) ∧ (w.alloc (.cells #[] 3)).ownsRow w.heap.size 3 1 (.slice (some ⟨w.heap.size, 0, none⟩) 0 0) 0 (valsF (fun i => (cnt s i : Int)) 0)) := ⟨Ext.one _ _, World.ownsRow_lit (e := 3) (size := 1) w #[] 0 (Nat.le_refl _) (by decide) rfl⟩
  generalize w.alloc (.cells #[] 3) = W1 at *
  go_loopw [3, 4, 5] (fun ov av iv wr => ∃ k : Nat, iv = .int .i64 k ∧ av = .int .i64 (cnt s k : Nat) ∧ k ≤ n ∧ Hid (wr.ownsRow w.heap.size 3 1 ov k (valsF (fun i => (cnt s i : Int)) k) ∧ Ext w wr)) (fun _ _ iv _ => n - (intOf iv).toNat)
  case atStart => exact ⟨0, rfl, rfl, by omega, X1.out.2, X1.out.1⟩
  case round =>
    obtain ⟨k, rfl, rfl, hk, HX⟩ := hrel
    clear X1
    by_cases hlt : k < n
    · have bk : (k : Int) < (n : Int) := by omega
      have hown : wr.ownsRow w.heap.size 3 1 u3 k (valsF (fun i => (cnt s i : Int)) k) := HX.out.1
      have hz4 : w.heap.size ≤ wr.heap.size := HX.out.2.size
      have hck : cnt s k ≤ 1800 := HC.out k (by omega)
      have hsk : s k ≤ 3 := HA.out.2.2 k hlt
      generalize hc : cnt s k = c at *
      go_wp2_with (at_builtin; refine wpList_append_own _ rfl _ _ 42 rfl w.heap.size 3 i0 (.int .i64 0) 1 8 Try.underlying42 hi hz0 hz1 hz2 rfl (by decide) _ k _ rfl (hown.alloc _) ⟨wr.heap.size, 0, none⟩ 1 1 [.int .i64 (c : Int)] rfl rfl ?c1 ?c2 ?c3 ?c4 ?c5 ?_)
      case c1 =>
        intro j u hu
        have := (CellsAt.new wr [.int .i64 (c : Int)] 3).2 j u hu
        rw [Addr.add_lit, Nat.zero_add]
        exact this
      case c2 => intro u hu; simp at hu; rcases hu with rfl; rfl
      case c3 => unfold maxLen; omega
      case c4 => omega
      case c5 => simp; omega
      · intro v' w5 hown5 hgrow5 _
        have X5 : Hid (w5.ownsRow w.heap.size 3 1 v' (k + 1) (valsF (fun i => (cnt s i : Int)) (k + 1)) ∧ Ext w w5) := by
          refine ⟨?_, push_ext HX.out.2 (Nat.le_refl _) hown hgrow5⟩
          rw [← valsF_succ, hc]
          exact hown5
        have b0 := (HA.out.1.ext X5.out.2).2 k hlt
        obtain ⟨b0, _⟩ := b0
        clear hgrow5 hown5 hown HX
        have HS : Hid (cnt s (k + 1) = c + s k) := by show cnt s k + s k = _; rw [hc]
        go_wp2
        go_roundw
        case rel => exact ⟨k + 1, by go_num, by rw [HS.out]; go_num, by omega, X5.out⟩
        case measure => simp [intOf]; omega
    · have hkn : k = n := by omega
      have bk : ¬ ((k : Int) < (n : Int)) := by omega
      obtain ⟨q, c, hv, hc, hq, hr⟩ := own_rowF (by rw [hkn] at HX; exact HX.out.1) HA.out.2.1
      subst hv
      have HR : Hid (w.heap.size ≤ q ∧ RowF wr q n (fun i => (cnt s i : Int)) ∧ Ext w wr) := ⟨hq, hr, HX.out.2⟩
      clear hr hq HX hkn hc
      go_wp2
      go_ret
      exact ⟨q, ⟨c, rfl⟩, HR.out⟩

/-- Where a way leads: -1 without one. -/
def wayV (ls : List Ln) (s : ByteArray) : Int := if s = noText then -1 else atV ls s

/-- Two rows of their own, of k numbers each: where the ways of the first k lines lead. -/
def TwoF (ls : List Ln) (w W : World) (k g1 c1 g2 c2 : Nat) : Prop :=
  W.ownsRow w.heap.size 3 1 (.slice (some ⟨g1, 0, none⟩) k c1) k (valsF (fun i => wayV ls (ls.getD i zeroL).yes) k) ∧ W.ownsRow w.heap.size 3 1 (.slice (some ⟨g2, 0, none⟩) k c2) k (valsF (fun i => wayV ls (ls.getD i zeroL).no) k) ∧ g1 ≠ g2 ∧ Ext w W

/-- The same where the first one has one more. -/
def TwoG (ls : List Ln) (w W : World) (k g1 c1 g2 c2 : Nat) : Prop :=
  W.ownsRow w.heap.size 3 1 (.slice (some ⟨g1, 0, none⟩) (k + 1) c1) (k + 1) (valsF (fun i => wayV ls (ls.getD i zeroL).yes) (k + 1)) ∧ W.ownsRow w.heap.size 3 1 (.slice (some ⟨g2, 0, none⟩) k c2) k (valsF (fun i => wayV ls (ls.getD i zeroL).no) k) ∧ g1 ≠ g2 ∧ Ext w W

theorem valsF_way {f : Nat → Int} {k : Nat} {v : Int} (h : v = f k) : valsF f k ++ [.int .i64 v] = valsF f (k + 1) := by rw [h, valsF_succ]

theorem own_block {w w' : World} {B e size g n c : Nat} {xs : List Value} (h : w.ownsRow B e size (.slice (some ⟨g, 0, none⟩) n c) n xs) (hb : w'.heap[g]? = w.heap[g]?) : w'.ownsRow B e size (.slice (some ⟨g, 0, none⟩) n c) n xs := by
  refine ⟨h.1, ?_⟩
  rcases h.2 with ⟨hn, _⟩ | ⟨g', cap, cur, hv, hg, hh, rest⟩
  · cases hn
  · have hv' := hv
    injection hv with h1 _ _
    injection h1 with h1
    injection h1 with h1 _ _
    subst h1
    exact .inr ⟨g, cap, cur, hv', hg, hb.trans hh, rest⟩

theorem own_lt11 {w : World} {B e size g n c : Nat} {xs : List Value} (h : w.ownsRow B e size (.slice (some ⟨g, 0, none⟩) n c) n xs) : B ≤ g ∧ g < w.heap.size := h.lt g rfl

theorem TwoF.ext {ls : List Ln} {w W W' : World} {k g1 c1 g2 c2 : Nat} (h : TwoF ls w W k g1 c1 g2 c2) (hE : Ext W W') : TwoF ls w W' k g1 c1 g2 c2 :=
  ⟨own_below h.1 hE, own_below h.2.1 hE, h.2.2.1, h.2.2.2.trans hE⟩

theorem TwoG.first {ls : List Ln} {w W W' : World} {k g1 c1 g2 c2 h1 b1 : Nat} {o : Obj} (h : TwoF ls w W k g1 c1 g2 c2) (ho : W'.ownsRow w.heap.size 3 1 (.slice (some ⟨h1, 0, none⟩) (k + 1) b1) (k + 1) (valsF (fun i => wayV ls (ls.getD i zeroL).yes) (k + 1)))
    (hg : (W.alloc o).grownBy W' (Value.slice (some ⟨g1, 0, none⟩) k c1).ownBlock) (hl : (Value.slice (some ⟨g1, 0, none⟩) k c1).ownBlock = some h1 ∨ h1 = W.heap.size + 1) (hlt : h1 < W'.heap.size) : TwoG ls w W' k h1 b1 g2 c2 := by
  obtain ⟨p1, p2, pne, pe⟩ := h
  have l1 := own_lt11 p1
  have l2 := own_lt11 p2
  refine ⟨ho, own_block (own_block p2 (Below.heap_alloc W o g2 l2.2)) (hg.block g2 (by simp; omega) (fun e => pne (Option.some.inj e).symm)), ?_, ext_row (pe.alloc o) hg fun x hx => ?_⟩
  · rcases hl with hl | hl
    · have : g1 = h1 := Option.some.inj hl
      intro e
      exact pne (this.trans e)
    · omega
  · have : g1 = x := Option.some.inj hx
    have := l1.1
    omega

theorem TwoG.second {ls : List Ln} {w W W' : World} {k g1 c1 g2 c2 h2 b2 : Nat} {o : Obj} (h : TwoG ls w W k g1 c1 g2 c2) (ho : W'.ownsRow w.heap.size 3 1 (.slice (some ⟨h2, 0, none⟩) (k + 1) b2) (k + 1) (valsF (fun i => wayV ls (ls.getD i zeroL).no) (k + 1)))
    (hg : (W.alloc o).grownBy W' (Value.slice (some ⟨g2, 0, none⟩) k c2).ownBlock) (hl : (Value.slice (some ⟨g2, 0, none⟩) k c2).ownBlock = some h2 ∨ h2 = W.heap.size + 1) (hlt : h2 < W'.heap.size) : TwoF ls w W' (k + 1) g1 c1 h2 b2 := by
  obtain ⟨p1, p2, pne, pe⟩ := h
  have l1 := own_lt11 p1
  have l2 := own_lt11 p2
  refine ⟨own_block (own_block p1 (Below.heap_alloc W o g1 l1.2)) (hg.block g1 (by simp; omega) (fun e => pne (Option.some.inj e))), ho, ?_, ext_row (pe.alloc o) hg fun x hx => ?_⟩
  · rcases hl with hl | hl
    · have : g2 = h2 := Option.some.inj hl
      intro e
      exact pne (e.trans this.symm)
    · have := hg.size
      simp at this
      omega
  · have : g2 = x := Option.some.inj hx
    have := l2.1
    omega

set_option maxRecDepth 100000 in
set_option maxHeartbeats 8000000 in
theorem ways11_any (a : Option Addr) (cap : Nat) (ls : List Ln) (w : World) (hn : 0 < ls.length) (hl : ls.length ≤ 600) (h : Lns w a ls) :
    Calls Try.prog 51 #[.slice a ls.length cap] w fun e w' => ∃ q c q2 c2, e = .returned (.tuple #[.slice (some ⟨q, 0, none⟩) ls.length c, .slice (some ⟨q2, 0, none⟩) ls.length c2]) ∧ w.heap.size ≤ q ∧ w.heap.size ≤ q2 ∧ RowF w' q ls.length (fun i => wayV ls (ls.getD i zeroL).yes) ∧ RowF w' q2 ls.length (fun i => wayV ls (ls.getD i zeroL).no) ∧ Ext w w' := by
  obtain ⟨i0, hi, hz0, hz1, hz2⟩ := info_parts Try.infoI
  obtain ⟨n, hnn⟩ : ∃ n, n = ls.length := ⟨_, rfl⟩
  have HA : Hid (Lns w a ls ∧ n = ls.length ∧ 0 < n) := ⟨h, hnn, by omega⟩
  have HAT : Hid (∀ (s : ByteArray) (v : Int) (w' : World), v = atV ls s → Ext w w' → Calls Try.prog 78 #[.slice a n cap, .string s] w' fun e w'' => e = .returned (.int .i64 v) ∧ Ext w' w'') := fun s v w' hv he => by
    rw [hv, hnn]
    exact at_any _ cap ls s w' (by omega) (h.ext he)
  rw [← hnn]
  have hl' : n ≤ 600 := by omega
  clear h hn hl hnn
  go_enter Try.func51, Try.ntmps51
  go_wp2_with fail
  have X1 : Hid (Ext w ((w.alloc (.cells #[] 3)).alloc (.cells #[] 3)) ∧ ((w.alloc (.cells #[] 3)).alloc (.cells #[] 3)).ownsRow w.heap.size 3 1 (.slice (some ⟨w.heap.size, 0, none⟩) 0 0) 0 (valsF (fun i => wayV ls (ls.getD i zeroL).yes) 0) ∧ ((w.alloc (.cells #[] 3)).alloc (.cells #[] 3)).ownsRow w.heap.size 3 1 (.slice (some ⟨w.heap.size + 1, 0, none⟩) 0 0) 0 (valsF (fun i => wayV ls (ls.getD i zeroL).no) 0)) := by
    refine ⟨(Ext.one _ _).alloc _, (World.ownsRow_lit (e := 3) (size := 1) w #[] 0 (Nat.le_refl _) (by decide) rfl).alloc _, ?_⟩
    have := World.ownsRow_lit (e := 3) (size := 1) (w.alloc (.cells #[] 3)) #[] 0 (base := w.heap.size) (by simp) (by decide) rfl
    have e : (w.alloc (.cells #[] 3)).heap.size = w.heap.size + 1 := by simp
    rw [e] at this
    exact this
  generalize (w.alloc (.cells #[] 3)).alloc (.cells #[] 3) = W1 at *
  go_loopw [4, 5, 6] (fun yv nv iv wr => ∃ k g1 c1 g2 c2 : Nat, iv = .int .i64 k ∧ yv = .slice (some ⟨g1, 0, none⟩) k c1 ∧ nv = .slice (some ⟨g2, 0, none⟩) k c2 ∧ k ≤ n ∧ Hid (TwoF ls w wr k g1 c1 g2 c2)) (fun _ _ iv _ => n - (intOf iv).toNat)
  case atStart => exact ⟨0, _, _, _, _, rfl, rfl, rfl, by omega, X1.out.2.1, X1.out.2.2, by omega, X1.out.1⟩
  case round =>
    obtain ⟨k, g1, c1, g2, c2, rfl, rfl, rfl, hk, HX⟩ := hrel
    clear X1
    by_cases hlt : k < n
    · have bk : (k : Int) < (n : Int) := by omega
      obtain ⟨⟨lab, ⟨o, kk, y, nn⟩, yes, no⟩, hp⟩ : ∃ p, p = ls.getD k zeroL := ⟨_, rfl⟩
      obtain ⟨b, off, rfl, hq⟩ := (HA.out.1.ext HX.out.2.2.2).hept (k := k) (by have := HA.out.2.1; omega) hp
      have HQ : Hid (Hept wr b (off + k * 7) ⟨lab, (o, kk, y, nn), yes, no⟩) := hq
      obtain ⟨v1, hv1⟩ : ∃ v, v = wayV ls yes := ⟨_, rfl⟩
      obtain ⟨v2, hv2⟩ : ∃ v, v = wayV ls no := ⟨_, rfl⟩
      have HV : Hid (v1 = wayV ls (ls.getD k zeroL).yes ∧ v2 = wayV ls (ls.getD k zeroL).no) := by rw [← hp]; exact ⟨hv1, hv2⟩
      unfold wayV at hv1 hv2
      clear hp
      obtain ⟨c0, d1, d2, d3, d4, c5, c6⟩ := hq
      simp only at c5 c6
      clear c0 d1 d2 d3 d4
      by_cases hy : yes = noText
      · rw [if_pos hy] at hv1
        subst hv1
        have ty : yes.toList = [] := none_iff.2 hy
        clear hy
        by_cases hno : no = noText
        · rw [if_pos hno] at hv2
          subst hv2
          have tn : no.toList = [] := none_iff.2 hno
          clear hno
          have HX1 : Hid (TwoF ls w wr k g1 c1 g2 c2) := HX
          obtain ⟨p1, p2, pne, pe⟩ := HX1.out
          have hz4 : w.heap.size ≤ wr.heap.size := pe.size
          go_wp2_with (at_builtin; refine wpList_append_lies _ rfl _ _ 42 rfl w.heap.size 3 i0 (.int .i64 0) 1 8 Try.underlying42 hi hz0 hz1 hz2 rfl (by decide) _ k _ rfl (p1.alloc _) ⟨wr.heap.size, 0, none⟩ 1 1 [.int .i64 (-1)] rfl rfl ?c1 ?c2 (by decide) ?c3 ?c4 ?c5 _ rfl ?_)
          case c1 =>
            intro j u hu
            have := (CellsAt.new wr [.int .i64 (-1)] 3).2 j u hu
            rw [Addr.add_lit, Nat.zero_add]
            exact this
          case c2 => intro u hu; simp at hu; rcases hu with rfl; rfl
          case c3 => unfold maxLen; omega
          case c4 => omega
          case c5 => simp; omega
          intro h1 b1 w5 o1 gr1 lie1 lt1
          have HX5 : Hid (TwoG ls w w5 k h1 b1 g2 c2) := TwoG.first HX1.out (by rw [valsF_way (by exact HV.out.1)] at o1; exact o1) gr1 lie1 lt1
          clear o1 gr1 lie1 lt1 p1 p2 pne pe hz4
          obtain ⟨p1, p2, pne, pe⟩ := HX5.out
          have hz4 : w.heap.size ≤ w5.heap.size := pe.size
          go_wp2_with (at_builtin; refine wpList_append_lies _ rfl _ _ 42 rfl w.heap.size 3 i0 (.int .i64 0) 1 8 Try.underlying42 hi hz0 hz1 hz2 rfl (by decide) _ k _ rfl (p2.alloc _) ⟨w5.heap.size, 0, none⟩ 1 1 [.int .i64 (-1)] rfl rfl ?c1 ?c2 (by decide) ?c3 ?c4 ?c5 _ rfl ?_)
          case c1 =>
            intro j u hu
            have := (CellsAt.new w5 [.int .i64 (-1)] 3).2 j u hu
            rw [Addr.add_lit, Nat.zero_add]
            exact this
          case c2 => intro u hu; simp at hu; rcases hu with rfl; rfl
          case c3 => unfold maxLen; omega
          case c4 => omega
          case c5 => simp; omega
          intro h2 b2 w6 o2 gr2 lie2 lt2
          have HX6 : Hid (TwoF ls w w6 (k + 1) h1 b1 h2 b2) := TwoG.second HX5.out (by rw [valsF_way (by exact HV.out.2)] at o2; exact o2) gr2 lie2 lt2
          clear o2 gr2 lie2 lt2 p1 p2 pne pe hz4 HX5 HX1 HX
          go_wp2
          go_roundw
          case rel => exact ⟨k + 1, h1, b1, h2, b2, by go_num, rfl, rfl, by omega, HX6.out⟩
          case measure => simp [intOf]; omega
        · rw [if_neg hno] at hv2
          have tn : no.toList.isEmpty = false := by have : ¬ no.toList = [] := fun h => hno (none_iff.1 h); simpa using this
          have H2 : Hid (v2 = atV ls no) := hv2
          clear hno hv2
          go_wp2_with fail
          refine (HAT.out no v2 _ H2.out HX.out.2.2.2).mono ?_
          rintro e w2 ⟨rfl, e2⟩
          have HX1 : Hid (TwoF ls w w2 k g1 c1 g2 c2) := HX.out.ext e2
          clear e2 c5 c6 HQ
          obtain ⟨p1, p2, pne, pe⟩ := HX1.out
          have hz4 : w.heap.size ≤ w2.heap.size := pe.size
          go_wp2_with (at_builtin; refine wpList_append_lies _ rfl _ _ 42 rfl w.heap.size 3 i0 (.int .i64 0) 1 8 Try.underlying42 hi hz0 hz1 hz2 rfl (by decide) _ k _ rfl (p1.alloc _) ⟨w2.heap.size, 0, none⟩ 1 1 [.int .i64 (-1)] rfl rfl ?c1 ?c2 (by decide) ?c3 ?c4 ?c5 _ rfl ?_)
          case c1 =>
            intro j u hu
            have := (CellsAt.new w2 [.int .i64 (-1)] 3).2 j u hu
            rw [Addr.add_lit, Nat.zero_add]
            exact this
          case c2 => intro u hu; simp at hu; rcases hu with rfl; rfl
          case c3 => unfold maxLen; omega
          case c4 => omega
          case c5 => simp; omega
          intro h1 b1 w5 o1 gr1 lie1 lt1
          have HX5 : Hid (TwoG ls w w5 k h1 b1 g2 c2) := TwoG.first HX1.out (by rw [valsF_way (by exact HV.out.1)] at o1; exact o1) gr1 lie1 lt1
          clear o1 gr1 lie1 lt1 p1 p2 pne pe hz4
          obtain ⟨p1, p2, pne, pe⟩ := HX5.out
          have hz4 : w.heap.size ≤ w5.heap.size := pe.size
          go_wp2_with (at_builtin; refine wpList_append_lies _ rfl _ _ 42 rfl w.heap.size 3 i0 (.int .i64 0) 1 8 Try.underlying42 hi hz0 hz1 hz2 rfl (by decide) _ k _ rfl (p2.alloc _) ⟨w5.heap.size, 0, none⟩ 1 1 [.int .i64 v2] rfl rfl ?c1 ?c2 (by decide) ?c3 ?c4 ?c5 _ rfl ?_)
          case c1 =>
            intro j u hu
            have := (CellsAt.new w5 [.int .i64 v2] 3).2 j u hu
            rw [Addr.add_lit, Nat.zero_add]
            exact this
          case c2 => intro u hu; simp at hu; rcases hu with rfl; rfl
          case c3 => unfold maxLen; omega
          case c4 => omega
          case c5 => simp; omega
          intro h2 b2 w6 o2 gr2 lie2 lt2
          have HX6 : Hid (TwoF ls w w6 (k + 1) h1 b1 h2 b2) := TwoG.second HX5.out (by rw [valsF_way (by exact HV.out.2)] at o2; exact o2) gr2 lie2 lt2
          clear o2 gr2 lie2 lt2 p1 p2 pne pe hz4 HX5 HX1 HX
          go_wp2
          go_roundw
          case rel => exact ⟨k + 1, h1, b1, h2, b2, by go_num, rfl, rfl, by omega, HX6.out⟩
          case measure => simp [intOf]; omega
      · rw [if_neg hy] at hv1
        have ty : yes.toList.isEmpty = false := by have : ¬ yes.toList = [] := fun h => hy (none_iff.1 h); simpa using this
        have H1 : Hid (v1 = atV ls yes) := hv1
        clear hy hv1
        by_cases hno : no = noText
        · rw [if_pos hno] at hv2
          subst hv2
          have tn : no.toList = [] := none_iff.2 hno
          clear hno
          go_wp2_with fail
          refine (HAT.out yes v1 _ H1.out HX.out.2.2.2).mono ?_
          rintro e w2 ⟨rfl, e2⟩
          have HX1 : Hid (TwoF ls w w2 k g1 c1 g2 c2) := HX.out.ext e2
          obtain ⟨_, _, _, _, _, _, c6⟩ := HQ.out.ext e2
          simp only at c6
          clear e2 c5 HQ
          obtain ⟨p1, p2, pne, pe⟩ := HX1.out
          have hz4 : w.heap.size ≤ w2.heap.size := pe.size
          go_wp2_with (at_builtin; refine wpList_append_lies _ rfl _ _ 42 rfl w.heap.size 3 i0 (.int .i64 0) 1 8 Try.underlying42 hi hz0 hz1 hz2 rfl (by decide) _ k _ rfl (p1.alloc _) ⟨w2.heap.size, 0, none⟩ 1 1 [.int .i64 v1] rfl rfl ?c1 ?c2 (by decide) ?c3 ?c4 ?c5 _ rfl ?_)
          case c1 =>
            intro j u hu
            have := (CellsAt.new w2 [.int .i64 v1] 3).2 j u hu
            rw [Addr.add_lit, Nat.zero_add]
            exact this
          case c2 => intro u hu; simp at hu; rcases hu with rfl; rfl
          case c3 => unfold maxLen; omega
          case c4 => omega
          case c5 => simp; omega
          intro h1 b1 w5 o1 gr1 lie1 lt1
          have HX5 : Hid (TwoG ls w w5 k h1 b1 g2 c2) := TwoG.first HX1.out (by rw [valsF_way (by exact HV.out.1)] at o1; exact o1) gr1 lie1 lt1
          clear o1 gr1 lie1 lt1 p1 p2 pne pe hz4
          obtain ⟨p1, p2, pne, pe⟩ := HX5.out
          have hz4 : w.heap.size ≤ w5.heap.size := pe.size
          go_wp2_with (at_builtin; refine wpList_append_lies _ rfl _ _ 42 rfl w.heap.size 3 i0 (.int .i64 0) 1 8 Try.underlying42 hi hz0 hz1 hz2 rfl (by decide) _ k _ rfl (p2.alloc _) ⟨w5.heap.size, 0, none⟩ 1 1 [.int .i64 (-1)] rfl rfl ?c1 ?c2 (by decide) ?c3 ?c4 ?c5 _ rfl ?_)
          case c1 =>
            intro j u hu
            have := (CellsAt.new w5 [.int .i64 (-1)] 3).2 j u hu
            rw [Addr.add_lit, Nat.zero_add]
            exact this
          case c2 => intro u hu; simp at hu; rcases hu with rfl; rfl
          case c3 => unfold maxLen; omega
          case c4 => omega
          case c5 => simp; omega
          intro h2 b2 w6 o2 gr2 lie2 lt2
          have HX6 : Hid (TwoF ls w w6 (k + 1) h1 b1 h2 b2) := TwoG.second HX5.out (by rw [valsF_way (by exact HV.out.2)] at o2; exact o2) gr2 lie2 lt2
          clear o2 gr2 lie2 lt2 p1 p2 pne pe hz4 HX5 HX1 HX
          go_wp2
          go_roundw
          case rel => exact ⟨k + 1, h1, b1, h2, b2, by go_num, rfl, rfl, by omega, HX6.out⟩
          case measure => simp [intOf]; omega
        · rw [if_neg hno] at hv2
          have tn : no.toList.isEmpty = false := by have : ¬ no.toList = [] := fun h => hno (none_iff.1 h); simpa using this
          have H2 : Hid (v2 = atV ls no) := hv2
          clear hno hv2
          go_wp2_with fail
          refine (HAT.out yes v1 _ H1.out HX.out.2.2.2).mono ?_
          rintro e w2 ⟨rfl, e2⟩
          have HX2 : Hid (TwoF ls w w2 k g1 c1 g2 c2) := HX.out.ext e2
          obtain ⟨_, _, _, _, _, _, c6'⟩ := HQ.out.ext e2
          simp only at c6'
          clear e2 c5 HQ
          go_wp2_with fail
          refine (HAT.out no v2 _ H2.out HX2.out.2.2.2).mono ?_
          rintro e w3 ⟨rfl, e3⟩
          have HX1 : Hid (TwoF ls w w3 k g1 c1 g2 c2) := HX2.out.ext e3
          clear e3
          obtain ⟨p1, p2, pne, pe⟩ := HX1.out
          have hz4 : w.heap.size ≤ w3.heap.size := pe.size
          go_wp2_with (at_builtin; refine wpList_append_lies _ rfl _ _ 42 rfl w.heap.size 3 i0 (.int .i64 0) 1 8 Try.underlying42 hi hz0 hz1 hz2 rfl (by decide) _ k _ rfl (p1.alloc _) ⟨w3.heap.size, 0, none⟩ 1 1 [.int .i64 v1] rfl rfl ?c1 ?c2 (by decide) ?c3 ?c4 ?c5 _ rfl ?_)
          case c1 =>
            intro j u hu
            have := (CellsAt.new w3 [.int .i64 v1] 3).2 j u hu
            rw [Addr.add_lit, Nat.zero_add]
            exact this
          case c2 => intro u hu; simp at hu; rcases hu with rfl; rfl
          case c3 => unfold maxLen; omega
          case c4 => omega
          case c5 => simp; omega
          intro h1 b1 w5 o1 gr1 lie1 lt1
          have HX5 : Hid (TwoG ls w w5 k h1 b1 g2 c2) := TwoG.first HX1.out (by rw [valsF_way (by exact HV.out.1)] at o1; exact o1) gr1 lie1 lt1
          clear o1 gr1 lie1 lt1 p1 p2 pne pe hz4
          obtain ⟨p1, p2, pne, pe⟩ := HX5.out
          have hz4 : w.heap.size ≤ w5.heap.size := pe.size
          go_wp2_with (at_builtin; refine wpList_append_lies _ rfl _ _ 42 rfl w.heap.size 3 i0 (.int .i64 0) 1 8 Try.underlying42 hi hz0 hz1 hz2 rfl (by decide) _ k _ rfl (p2.alloc _) ⟨w5.heap.size, 0, none⟩ 1 1 [.int .i64 v2] rfl rfl ?c1 ?c2 (by decide) ?c3 ?c4 ?c5 _ rfl ?_)
          case c1 =>
            intro j u hu
            have := (CellsAt.new w5 [.int .i64 v2] 3).2 j u hu
            rw [Addr.add_lit, Nat.zero_add]
            exact this
          case c2 => intro u hu; simp at hu; rcases hu with rfl; rfl
          case c3 => unfold maxLen; omega
          case c4 => omega
          case c5 => simp; omega
          intro h2 b2 w6 o2 gr2 lie2 lt2
          have HX6 : Hid (TwoF ls w w6 (k + 1) h1 b1 h2 b2) := TwoG.second HX5.out (by rw [valsF_way (by exact HV.out.2)] at o2; exact o2) gr2 lie2 lt2
          clear o2 gr2 lie2 lt2 p1 p2 pne pe hz4 HX5 HX1 HX
          go_wp2
          go_roundw
          case rel => exact ⟨k + 1, h1, b1, h2, b2, by go_num, rfl, rfl, by omega, HX6.out⟩
          case measure => simp [intOf]; omega
    · have hkn : k = n := by omega
      have bk : ¬ ((k : Int) < (n : Int)) := by omega
      subst hkn
      obtain ⟨q1, e1, hv1, _, hq1, hr1⟩ := own_rowF HX.out.1 HA.out.2.2
      obtain ⟨q2, e2, hv2, _, hq2, hr2⟩ := own_rowF HX.out.2.1 HA.out.2.2
      injection hv1 with hv1 _ _
      injection hv1 with hv1
      injection hv1 with hv1 _ _
      injection hv2 with hv2 _ _
      injection hv2 with hv2
      injection hv2 with hv2 _ _
      subst hv1
      subst hv2
      have HR : Hid (w.heap.size ≤ g1 ∧ w.heap.size ≤ g2 ∧ RowF wr g1 k (fun i => wayV ls (ls.getD i zeroL).yes) ∧ RowF wr g2 k (fun i => wayV ls (ls.getD i zeroL).no) ∧ Ext w wr) := ⟨hq1, hq2, hr1, hr2, HX.out.2.2.2⟩
      clear hq1 hq2 hr1 hr2 HX
      go_wp2
      go_ret2
      exact ⟨g1, _, g2, ⟨_, rfl⟩, HR.out⟩

end Go.Proofs.Ytakcmiijnckaaaa
