/- What DrawPlaces answers: twelve numbers below 10000, in new memory. -/
import Derived.Test.YtfhkafbcopolcaaDoorDraws2
namespace Go.Proofs.YtfhkafbcopolcaaDoor
open Go.RowKit
set_option linter.unusedVariables false

theorem Tryd.infoI : (Tryd.prog.info? 3).map (fun i => (i.zero, i.size, i.bytes)) = some (some (.int .i64 0), 1, 8) := by kernel_rfl

def intsV (l : List Nat) : List Value := l.map fun (z : Nat) => Value.int .i64 (z : Int)

theorem intsV_push (l : List Nat) (z : Nat) : intsV l ++ [Value.int .i64 (z : Int)] = intsV (l ++ [z]) := by simp [intsV]

theorem own_lower {w : World} {base base' e size : Nat} {v : Value} {n : Nat} {xs : List Value} (h : w.ownsRow base e size v n xs) (hb : base' ≤ base) : w.ownsRow base' e size v n xs := by
  refine ⟨h.1, ?_⟩
  rcases h.2 with hn | ⟨g, cap, cur, rfl, hg, rest⟩
  · exact .inl hn
  · exact .inr ⟨g, cap, cur, rfl, Nat.le_trans hb hg, rest⟩

set_option maxRecDepth 100000 in
set_option maxHeartbeats 1000000 in
theorem placesD_any (a : Option Addr) (len cap : Nat) (w : World) (hC : Came w a len) :
    Calls Tryd.prog 11 #[.slice a len cap] w fun e w' => ∃ (v : Value) (l : List Nat), e = .returned v ∧ l.length = 12 ∧ (∀ z ∈ l, z < 10000) ∧ w'.ownsRow w.heap.size 3 1 v 12 (intsV l) ∧ Below w.heap.size w w' := by
  obtain ⟨i0, hi, hz0, hz1, hz2⟩ := info_parts Tryd.infoI
  go_enter Tryd.func11, Tryd.ntmps11
  go_wp2_with fail
  refine (new_any a len cap _ hC).mono ?_
  rintro e w1 ⟨rfl, hc1, hb1⟩
  have HB1 : Hid (Below w.heap.size w w1) := hb1
  have hs1 := hb1.size
  clear hb1 hC
  go_wp2_with fail
  refine (byte_any _ a len cap _ hc1).mono ?_
  rintro e w2 ⟨x, hx, rfl, hc2, hg2⟩
  have hb2 := below_new HB1.out hg2
  have HB2 : Hid (Below w.heap.size w w2) := hb2
  have hs2 := hb2.size
  have hpl := hc2.lt
  have HCO : Hid (∀ b off, a = some ⟨b, off, none⟩ → 0 < len → b < w2.heap.size) := hc2.code
  have HC2 : Hid (Cur w2 w.heap.size a len cap) := hc2
  clear hb2 hc2 hc1 hg2
  go_wp2
  go_loopw [4, 5] (fun v i wr => ∃ (k : Nat) (l : List Nat), i = .int .i64 k ∧ k ≤ 12 ∧ Hid (l.length = k) ∧ l.length ≤ 12 ∧ Hid (∀ z ∈ l, z < 10000) ∧ wr.ownsRow w2.heap.size 3 1 v l.length (intsV l) ∧ Cur wr w.heap.size a len cap ∧ w2.grownBy wr (some w.heap.size)) (fun _ i _ => 12 - (intOf i).toNat)
  case atStart =>
    refine ⟨0, [], rfl, by omega, rfl, by simp, by unfold Hid; simp, World.ownsRow_lit (e := 3) (size := 1) w2 #[] 0 (Nat.le_refl _) (by decide) rfl, HC2.out.grown (World.grownBy_alloc w2 _ none) hpl HCO.out (by simp), ?_⟩
    exact World.grownBy_alloc w2 _ _
  case round =>
    obtain ⟨k, l, rfl, hk, hlk, hln, hlz, hown, hcur, hg⟩ := hrel
    have hgs := hg.size
    by_cases hlt : k < 12
    · go_wp2_with fail
      refine (below_any 10000 _ a len cap _ hcur (by omega)).mono ?_
      rintro e w3 ⟨z, hz, _, _, rfl, hc3, hg3⟩
      have hz1k := hz (by omega)
      have hown1 := hown.kept hg3 (by
        right
        intro e2
        have := hown.lt w.heap.size e2
        omega)
      have hg4 : w2.grownBy w3 (some w.heap.size) := grown_trans hg hg3
      have hgs3 := hg3.size
      clear hg3 hown hcur hg hz
      go_wp2_with (at_builtin; refine wpList_append_own _ rfl _ _ 30 rfl w2.heap.size 3 i0 (.int .i64 0) 1 8 Tryd.underlying30 hi hz0 hz1 hz2 rfl (by decide) _ _ _ rfl (hown1.alloc _) ⟨w3.heap.size, 0, none⟩ 1 1 [.int .i64 (z : Int)] rfl rfl ?c1 ?c2 ?c3 ?c4 ?c5 ?_)
      case c1 => exact cell_one_new _ _ _
      case c2 => intro u hu; simp at hu; subst hu; rfl
      case c3 => unfold maxLen; omega
      case c4 => omega
      case c5 => simp; omega
      · intro v' w4 hown' hgrow _
        rw [intsV_push l z] at hown'
        have hlo := fun y hy => (hown1.lt y hy).1
        have hc4 : Cur w4 w.heap.size a len cap := (hc3.grown (World.grownBy_alloc w3 _ none) hpl HCO.out (by simp)).grown hgrow hpl HCO.out hlo
        have hg5 : w2.grownBy w4 (some w.heap.size) := grown_own (grown_trans hg4 (World.grownBy_alloc w3 _ _)) hgrow hlo
        have hlz' : Hid (∀ y ∈ l ++ [z], y < 10000) := by
          unfold Hid
          intro y hy
          rcases List.mem_append.1 hy with h | h
          · exact hlz.out y h
          · simp at h; omega
        clear hgrow hown1 hc3 hg4 hlo
        go_wp2
        go_roundw
        case rel => first | exact ⟨k + 1, l ++ [z], by go_num, by omega, by have := hlk.out; unfold Hid; simp; omega, by have := hlk.out; simp; omega, hlz', by simpa using hown', hc4, hg5⟩ | ((repeat apply Exists.intro); exact ⟨⟨k + 1, l ++ [z], by go_num, by omega, by have := hlk.out; unfold Hid; simp; omega, by have := hlk.out; simp; omega, hlz', by simpa using hown', hc4, hg5⟩, rfl⟩)
        case measure => simp [intOf]; omega
    · have hl12 : l.length = 12 := by have := hlk.out; omega
      have hb := below_new HB2.out hg
      have hown2 := own_lower (base' := w.heap.size) hown (by omega)
      rw [hl12] at hown2
      clear hown
      go_wp2
      go_ret
      exact ⟨_, l, rfl, hl12, hlz.out, hown2, hb⟩

end Go.Proofs.YtfhkafbcopolcaaDoor
