/- What the laws' own helpers over lists of texts answer: markText, eqStringS at like lists, markStringS, heldStringS behind it. -/
import Derived.Test.YtfhkafbcopolcaaConv
import Derived.Test.YtfhkafbcopolcaaDecMath
import Derived.WalkKit
import Derived.WalkSpells
import Derived.WalkSmall
import Derived.BigQuiet
import Derived.Deep.QuietTactic
import Derived.Deep.RegionHeld3
import Derived.LoopN
namespace Go.Proofs.Ytfhkafbcopolcaa
open Go.RowKit
set_option linter.unusedVariables false

def markB (k : Nat) : ByteArray := ⟨(109 :: dec k).toArray⟩

set_option maxRecDepth 100000 in
set_option maxHeartbeats 1000000 in
theorem markT_any (n0 : Nat) (w : World) (h0 : 0 < n0) (hn : n0 ≤ 1000000000) :
    Calls Try.prog 24 #[.int .i64 n0] w fun e w' => e = .returned (.string (markB n0)) ∧ Below w.heap.size w w' := by
  go_enter Try.func24, Try.ntmps24
  go_wp2
  go_loopw [0, 3] (fun n s wr => ∃ (m : Nat) (l : List UInt8), n = .int .i64 m ∧ s = .string ⟨l.toArray⟩ ∧ l.length + m ≤ n0 ∧ Hid (dec n0 = dec m ++ l) ∧ Below w.heap.size w wr)
    (fun n _ _ => (intOf n).toNat)
  case atStart => exact ⟨n0, [], rfl, rfl, by simp, by simp [Hid], Below.refl _ _⟩
  case round =>
    obtain ⟨m, l, rfl, rfl, hm, hD, hb⟩ := hrel
    have hbs := hb.size
    by_cases h : m = 0
    · subst h
      have e : Hid (markB n0 = ⟨(109 :: l).toArray⟩) := by unfold Hid markB; rw [hD.out, dec_zero]; rfl
      have hadd := fun wx => add_cons (P := Try.prog) wx 109 l (by omega)
      go_wp2
      go_ret
      exact ⟨by rw [e.out]; rfl, hb⟩
    · have hmp : 0 < m := by omega
      obtain ⟨b, hbb⟩ : ∃ b, b = hexD (m % 10) := ⟨_, rfl⟩
      have hD' : Hid (dec n0 = dec (m / 10) ++ (b :: l)) := by unfold Hid; rw [hD.out, dec_pos m (by omega), hbb]; simp
      have hcv := conv_one wr (48 + (m : Int) % 10) b (by rw [hbb, hexD_toNat _ (by omega)]; unfold hexN; rw [if_pos (by omega)]; omega)
      have hadd := fun wx => add_cons (P := Try.prog) wx b l (by omega)
      clear hbb hD
      go_wp2
      go_roundw
      case rel => exact ⟨m / 10, b :: l, by go_num, rfl, by simp; omega, hD', hb.alloc hbs _⟩
      case measure => simp [intOf]; omega

def rowS (xs : List ByteArray) : List Value := xs.map Value.string

theorem rowS_at (xs : List ByteArray) (k : Nat) (h : k < xs.length) : (rowS xs)[k]? = some (.string xs[k]) := by simp [rowS, h]

theorem own_form {w : World} {base e : Nat} {v : Value} {n : Nat} {xs : List Value} (h : w.ownsRow base e 1 v n xs) : ∃ a c, v = .slice a n c ∧ (0 < n → ∃ g, a = some ⟨g, 0, none⟩) := by
  rcases h.2 with ⟨rfl, h0⟩ | ⟨g, cap, _, rfl, _⟩
  · exact ⟨none, 0, by rw [h0], by omega⟩
  · exact ⟨_, _, rfl, fun _ => ⟨g, rfl⟩⟩

set_option maxRecDepth 100000 in
set_option maxHeartbeats 1000000 in
theorem eqS_same (xs : List ByteArray) (va vb : Value) (Ba Bb : Nat) (w : World) (ha : w.ownsRow Ba 9 1 va xs.length (rowS xs)) (hb : w.ownsRow Bb 9 1 vb xs.length (rowS xs)) (hl : xs.length ≤ 1000000) :
    Calls Try.prog 13 #[va, vb] w fun e w' => e = .returned (.bool true) ∧ Below w.heap.size w w' := by
  obtain ⟨a1, c1, rfl, h1⟩ := own_form ha
  obtain ⟨a2, c2, rfl, h2⟩ := own_form hb
  by_cases h0 : xs.length = 0
  · obtain ⟨n, hn⟩ : ∃ n, n = xs.length := ⟨_, rfl⟩
    rw [← hn] at h0 ⊢
    subst h0
    clear ha hb h1 h2 hn hl
    go_enter Try.func13, Try.ntmps13
    go_wp2
    refine wp_loop_rounds 1 ?_
    rw [rounds_succ]
    go_wp2
    go_ret
    exact ⟨rfl, Below.refl _ _⟩
  · obtain ⟨g1, rfl⟩ := h1 (by omega)
    obtain ⟨g2, rfl⟩ := h2 (by omega)
    clear h1 h2
    go_enter Try.func13, Try.ntmps13
    go_wp2
    go_loopw [5] (fun i wr => ∃ k : Nat, i = .int .i64 k ∧ k ≤ xs.length ∧ Below w.heap.size w wr) (fun i _ => xs.length - (intOf i).toNat)
    case atStart => exact ⟨0, rfl, by omega, Below.refl _ _⟩
    case round =>
      obtain ⟨k, rfl, hk, hbel⟩ := hrel
      by_cases hlt : k < xs.length
      · have c1' : wr.cell? ⟨g1, k, none⟩ = some (.string xs[k]) := by rw [(own_below ha hbel).cellAt k (by omega)]; exact rowS_at xs k hlt
        have c2' : wr.cell? ⟨g2, k, none⟩ = some (.string xs[k]) := by rw [(own_below hb hbel).cellAt k (by omega)]; exact rowS_at xs k hlt
        have hki : (k : Int) < (xs.length : Int) := by omega
        go_wp2
        go_quiet (fail)
        go_wp2
        go_roundw
        case rel => exact ⟨k + 1, by go_num, by omega, below_drewN hbel _⟩
        case measure => simp [intOf]; omega
      · go_wp2
        go_ret
        exact ⟨rfl, hbel⟩

def marks (k0 n : Nat) : List ByteArray := (List.range n).map fun j => markB (k0 + j)

theorem marks_length (k0 n : Nat) : (marks k0 n).length = n := by simp [marks]
theorem marks_succ (k0 n : Nat) : marks k0 (n + 1) = marks k0 n ++ [markB (k0 + n)] := by simp [marks, List.range_succ]
theorem marks_at (k0 n k : Nat) (h : k < n) : (rowS (marks k0 n))[k]? = some (.string (markB (k0 + k))) := by simp [rowS, marks, h]

theorem marks_set (k0 i : Nat) (xs : List Value) (h : i < xs.length) : ((rowS (marks k0 i)) ++ xs.drop i).set i (.string (markB (k0 + i))) = rowS (marks k0 (i + 1)) ++ xs.drop (i + 1) := by
  have hl : (rowS (marks k0 i)).length = i := by simp [rowS, marks]
  rw [List.set_append_right _ _ (by omega), hl, Nat.sub_self, List.drop_eq_getElem_cons h, List.set_cons_zero, marks_succ]
  simp only [rowS, List.map_append, List.map_cons, List.map_nil, List.append_assoc, List.cons_append, List.nil_append]

set_option maxRecDepth 100000 in
set_option maxHeartbeats 1000000 in
theorem markS_any (n k0 B : Nat) (v : Value) (xs : List Value) (w : World) (hown : w.ownsRow B 9 1 v n xs) (hB : B ≤ w.heap.size) (hn : n ≤ 1000000) (hk : 0 < k0) (hk2 : k0 ≤ 1000000) :
    Calls Try.prog 14 #[v, .int .i64 k0] w fun e w' => e = .returned (.int .i64 ((k0 + n : Nat) : Int)) ∧ w'.ownsRow B 9 1 v n (rowS (marks k0 n)) ∧ Below B w w' := by
  have hxl : xs.length = n := by simpa using hown.1
  obtain ⟨a1, c1, rfl, h1⟩ := own_form hown
  by_cases h0 : n = 0
  · subst h0
    have hx0 : xs = [] := List.length_eq_zero_iff.1 hxl
    subst hx0
    clear h1 hxl
    have H := hown
    clear hown
    go_enter Try.func14, Try.ntmps14
    go_wp2
    refine wp_loop_rounds 1 ?_
    rw [rounds_succ]
    go_wp2
    go_ret
    exact ⟨rfl, H, Below.refl _ _⟩
  · obtain ⟨g, rfl⟩ := h1 (by omega)
    clear h1
    have hg := (hown.lt g rfl).1
    go_enter Try.func14, Try.ntmps14
    go_wp2
    go_loopw [1, 5] (fun kk i wr => ∃ k : Nat, i = .int .i64 k ∧ kk = .int .i64 ((k0 + k : Nat) : Int) ∧ k ≤ n ∧ wr.ownsRow B 9 1 (.slice (some ⟨g, 0, none⟩) n c1) n (rowS (marks k0 k) ++ xs.drop k) ∧ Below B w wr) (fun _ i _ => n - (intOf i).toNat)
    case atStart => exact ⟨0, rfl, rfl, by omega, by simpa [marks, rowS] using hown, Below.refl _ _⟩
    case round =>
      obtain ⟨k, rfl, rfl, hkn, hownr, hbel⟩ := hrel
      have hbs := hbel.size
      by_cases hlt : k < n
      · have hki : (k : Int) < (n : Int) := by omega
        go_wp2_with fail
        refine (markT_any (k0 + k) _ (by omega) (by omega)).mono ?_
        rintro e1 w1 ⟨rfl, hb1⟩
        have hown1 := own_below hownr hb1
        have hst := (hown1.stored k (.string (markB (k0 + k)))).1
        rw [marks_set k0 k xs (by omega)] at hst
        have hfz := hown1.frozenAt k
        have hc1 : ∃ u, w1.cell? ⟨g, k, none⟩ = some u := by
          rw [hown1.cellAt k (by omega)]
          exact ⟨_, List.getElem?_eq_getElem (by simp [rowS, marks]; omega)⟩
        obtain ⟨u, hc1⟩ := hc1
        have hb2 : Below B w (w1.setCell ⟨g, k, none⟩ (.string (markB (k0 + k)))) := (hbel.trans (hb1.mono (by omega))).setCell hg _
        clear hown1 hownr hb1
        go_wp2
        go_roundw
        case rel => first | exact ⟨k + 1, by go_num, by go_num, by omega, hst, hb2⟩ | ((repeat apply Exists.intro); exact ⟨⟨k + 1, by go_num, by go_num, by omega, hst, hb2⟩, rfl⟩)
        case measure => simp [intOf]; omega
      · have hkk : k = n := by omega
        subst hkk
        go_wp2
        go_ret
        refine ⟨rfl, ?_, hbel⟩
        have : xs.drop k = [] := List.drop_eq_nil_of_le (by omega)
        rw [this, List.append_nil] at hownr
        exact hownr

end Go.Proofs.Ytfhkafbcopolcaa
