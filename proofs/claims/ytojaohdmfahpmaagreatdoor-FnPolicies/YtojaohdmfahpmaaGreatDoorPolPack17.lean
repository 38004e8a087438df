/- What spec.CallNames and impl.CallNames, spec.CallNumber and impl.CallNumber answer: twelve names in memory of their own; the place of a name among them. -/
import Derived.Test.YtojaohdmfahpmaaGreatDoorRows
import Derived.Test.YtojaohdmfahpmaaGreatDoorPolPack14
import Derived.Maps.OwnOps
import Derived.Deep.AppendLies
import Derived.Maps.OwnSet
import Derived.WalkKit
import Derived.WalkSpells
namespace Go.Proofs.YtojaohdmfahpmaaGreatDoor
open Go.RowKit Go.WideMaps Go.Maps
set_option linter.unusedVariables false

def nameL : List (List UInt8) := [[114, 101, 97, 100], [119, 114, 105, 116, 101], [111, 112, 101, 110], [99, 108, 111, 115, 101], [115, 116, 97, 116], [109, 109, 97, 112], [101, 120, 101, 99], [102, 111, 114, 107], [107, 105, 108, 108], [115, 101, 110, 100], [114, 101, 99, 118], [101, 120, 105, 116]]

def txt (l : List UInt8) : ByteArray := ⟨l.toArray⟩

theorem txt_inj {a b : List UInt8} (h : txt a = txt b) : a = b := by
  have := congrArg (fun x : ByteArray => x.data.toList) h
  simpa [txt] using this

theorem txt_data (s : ByteArray) : txt s.data.toList = s := by cases s; rfl

def nameB : List ByteArray := nameL.map txt

theorem nameL_length : nameL.length = 12 := rfl
theorem nameB_length : nameB.length = 12 := rfl

/-- The place of a name, or -1. -/
def callN (s : List UInt8) : Int := match nameL.findIdx? (· == s) with
  | some j => (j : Int)
  | none => -1

theorem callN_at {s : List UInt8} {k : Nat} (hk : k < 12) (h : nameL.getD k [] = s) : callN s = (k : Int) := by
  subst h
  revert k
  decide

theorem callN_none {s : List UInt8} (h : ∀ k, k < 12 → ¬ nameL.getD k [] = s) : callN s = -1 := by
  unfold callN
  have : nameL.findIdx? (· == s) = none := by
    rw [List.findIdx?_eq_none_iff]
    intro x hx
    obtain ⟨k, hk, rfl⟩ := List.getElem_of_mem hx
    have h1 := h k hk
    simp only [List.getD_eq_getElem?_getD, List.getElem?_eq_getElem hk, Option.getD_some] at h1
    simpa using h1
  rw [this]

theorem names_row (w : World) : (w.alloc (.cells (rowS nameB).toArray 9)).ownsRow w.heap.size 9 1 (.slice (some ⟨w.heap.size, 0, none⟩) 12 12) 12 (rowS nameB) :=
  World.ownsRow_lit (base := w.heap.size) (e := 9) (size := 1) w (rowS nameB).toArray 12 (Nat.le_refl _) (by decide) rfl

theorem sNames_any (w : World) :
    Calls Tryz.prog 128 #[] w fun e w' => ∃ g v, e = .returned v ∧ v = .slice (some ⟨g, 0, none⟩) 12 12 ∧ w'.ownsRow w.heap.size 9 1 v 12 (rowS nameB) ∧ Below w.heap.size w w' := by
  go_enter Tryz.func128, Tryz.ntmps128
  go_wp2
  go_ret
  exact ⟨w.heap.size, _, rfl, rfl, names_row w, (Below.refl _ _).alloc (Nat.le_refl _) _⟩

theorem iNames_any (w : World) :
    Calls Tryz.prog 162 #[] w fun e w' => ∃ g v, e = .returned v ∧ v = .slice (some ⟨g, 0, none⟩) 12 12 ∧ w'.ownsRow w.heap.size 9 1 v 12 (rowS nameB) ∧ Below w.heap.size w w' := by
  go_enter Tryz.func162, Tryz.ntmps162
  go_wp2
  go_ret
  exact ⟨w.heap.size, _, rfl, rfl, names_row w, (Below.refl _ _).alloc (Nat.le_refl _) _⟩

theorem name_cell {w : World} {B g : Nat} (h : w.ownsRow B 9 1 (.slice (some ⟨g, 0, none⟩) 12 12) 12 (rowS nameB)) (k : Nat) (hk : k < 12) : w.cell? ⟨g, k, none⟩ = some (.string (txt (nameL.getD k []))) := by
  rw [h.cellAt k hk, rowS_at nameB k (by rw [nameB_length]; exact hk)]
  have hk' : k < nameL.length := hk
  simp [nameB, hk']

set_option maxRecDepth 100000 in
set_option maxHeartbeats 1000000 in
theorem sNumber_any (s : ByteArray) (w : World) :
    Calls Tryz.prog 113 #[.string s] w fun e w' => e = .returned (.int .i64 (callN s.data.toList)) ∧ Below w.heap.size w w' := by
  go_enter Tryz.func113, Tryz.ntmps113
  go_wp2_with fail
  refine (sNames_any _).mono ?_
  rintro e w1 ⟨g, v, rfl, rfl, hown, hb1⟩
  go_wp2
  go_loopw [4] (fun i wr => ∃ k : Nat, i = .int .i64 k ∧ k ≤ 12 ∧ Hid (∀ j, j < k → ¬ nameL.getD j [] = s.data.toList) ∧ wr = w1) (fun i _ => 12 - (intOf i).toNat)
  case atStart => exact ⟨0, rfl, by omega, fun j hj => by omega, rfl⟩
  case round =>
    obtain ⟨k, rfl, hk, hN, rfl⟩ := hrel
    by_cases hlt : k < 12
    · have hc := name_cell hown k hlt
      obtain ⟨x, hx⟩ : ∃ x, x = nameL.getD k [] := ⟨_, rfl⟩
      rw [← hx] at hc
      by_cases he : x = s.data.toList
      · have e : Hid (callN s.data.toList = (k : Int)) := callN_at hlt (by rw [← hx, he])
        have hxs : txt x = s := by rw [he]; exact txt_data s
        rw [hxs] at hc
        clear hx he hN hown
        go_wp2
        go_ret
        exact ⟨by rw [e.out]; rfl, hb1⟩
      · have hN' : Hid (∀ j, j < k + 1 → ¬ nameL.getD j [] = s.data.toList) := by
          intro j hj
          rcases Nat.lt_or_ge j k with h | h
          · exact hN.out j h
          · have : j = k := by omega
            rw [this, ← hx]; exact he
        have hne : ((txt x).toList == s.toList) = false := by
          rw [beq_eq_false_iff_ne]
          intro h
          apply he
          have h1 : txt x = s := by
            have e1 := ByteArray.toList_eq (txt x)
            have e2 := ByteArray.toList_eq s
            rw [e1, e2] at h
            have := congrArg txt h
            rwa [txt_data, txt_data] at this
          rw [← h1]; simp [txt]
        clear hx he hN hown
        go_wp2
        go_roundw
        case rel => exact ⟨k + 1, by go_num, by omega, hN', trivial⟩
        case measure => simp [intOf]; omega
    · have e : Hid (callN s.data.toList = -1) := callN_none fun j hj => hN.out j (by omega)
      clear hN hown
      go_wp2
      go_ret
      exact ⟨by rw [e.out]; rfl, hb1⟩

theorem keyS : Keyed Tryz.prog 9 := string_keyed Tryz.underlying9
theorem zeroI (w : World) : (zeroValue 3).run Tryz.prog w = .ok (.int .i64 0) w := by kernel_rfl

/-- The map of the first k names. -/
def placesD : Nat → DataW Unit
  | 0 => .map []
  | k + 1 => (placesD k).put (.string (nameL.getD k [])) (.lit (.int .i64 (k : Int)))

theorem placesD_isMap : ∀ k, IsMap (placesD k)
  | 0 => ⟨_, rfl⟩
  | k + 1 => by
    obtain ⟨es, h⟩ := placesD_isMap k
    unfold placesD
    rw [h]
    exact ⟨_, rfl⟩

theorem lit_str_inj {a b : List UInt8} (h : Lit.string a = Lit.string b) : a = b := by injection h

theorem placesD_none (s : List UInt8) : ∀ k, (∀ j, j < k → ¬ nameL.getD j [] = s) → Maps.has (placesD k) (.string s) = false
  | 0, _ => rfl
  | k + 1, h => by
    unfold placesD
    rw [has_put_other (fun e => h k (by omega) (lit_str_inj e).symm)]
    exact placesD_none s k fun j hj => h j (by omega)

theorem placesD_at (s : List UInt8) (i : Nat) (hi : nameL.getD i [] = s) : ∀ k, i < k → (∀ j, i < j → j < k → ¬ nameL.getD j [] = s) → Maps.has (placesD k) (.string s) = true ∧ (placesD k).atKey (.string s) (.lit (.int .i64 0)) = .lit (.int .i64 (i : Int))
  | 0, h, _ => by omega
  | k + 1, h, hn => by
    by_cases e : i = k
    · subst e
      unfold placesD
      rw [hi]
      exact ⟨has_put_same (placesD_isMap i) (by trivial) _, atKey_put_same (placesD_isMap i) (by trivial) _ _⟩
    · have hne : Lit.string s ≠ .string (nameL.getD k []) := fun e' => hn k (by omega) (by omega) (lit_str_inj e').symm
      unfold placesD
      rw [has_put_other hne, atKey_put_other hne]
      exact placesD_at s i hi k (by omega) fun j h1 h2 => hn j h1 (by omega)

theorem nameL_apart : ∀ i, i < 12 → ∀ j, j < 12 → i < j → ¬ nameL.getD j [] = nameL.getD i [] := by decide

theorem name_short : ∀ k, k < 12 → (nameL.getD k []).length ≤ 5 := by decide

set_option maxRecDepth 100000 in
set_option maxHeartbeats 1000000 in
theorem places_any (w : World) :
    Calls Tryz.prog 149 #[] w fun e w' => e = .returned (.map (some w.heap.size)) ∧ w'.ownsMap Tryz.prog 9 (plainElem Tryz.prog 3) w.heap.size 12 (placesD 12) ∧ Below w.heap.size w w' := by
  have hmm := @run_makeMap Tryz.prog
  go_enter Tryz.func149, Tryz.ntmps149
  go_wp2_with (go_at_call 162; refine (iNames_any _).mono ?_; rintro e w1 ⟨g, v, rfl, rfl, hown, hb1⟩)
  have hgl := hown.lt g rfl
  have hz1 : w.heap.size + 1 ≤ g := by simpa using hgl.1
  have hgs : g < w1.heap.size := hgl.2
  have hcell : Hid (∀ j, j < 12 → w1.cell? ⟨g, j, none⟩ = some (.string (txt (nameL.getD j [])))) := fun j hj => name_cell hown j hj
  have hm0 : w1.ownsMap Tryz.prog 9 (plainElem (H := Unit) Tryz.prog 3) w.heap.size 0 (placesD 0) := by
    have h0 := World.ownsMap_made w Tryz.prog 9 (plainElem (H := Unit) Tryz.prog 3)
    have hlt := h0.lt
    obtain ⟨es, clock, hb, r⟩ := h0
    exact ⟨es, clock, (hb1.block _ hlt).trans hb, r⟩
  have hB0 : Below w.heap.size w w1 := ((Below.refl _ _).alloc (Nat.le_refl _) _).trans (hb1.mono (by simp))
  clear hown hb1 hgl
  go_wp2
  go_loopw [7] (fun i wr => ∃ k : Nat, i = .int .i64 k ∧ k ≤ 12 ∧ g < wr.heap.size ∧ Hid (∀ j, j < 12 → wr.cell? ⟨g, j, none⟩ = some (.string (txt (nameL.getD j [])))) ∧ wr.ownsMap Tryz.prog 9 (plainElem Tryz.prog 3) w.heap.size k (placesD k) ∧ Below w.heap.size w wr) (fun i _ => 12 - (intOf i).toNat)
  case atStart => exact ⟨0, rfl, by omega, hgs, hcell, hm0, hB0⟩
  case round =>
    obtain ⟨k, rfl, hk, hgs', hcl, hown, hnx⟩ := hrel
    clear hcell hm0 hB0
    by_cases hlt : k < 12
    · have hc := hcl.out k hlt
      have hps : placesD (k + 1) = (placesD k).put (.string (nameL.getD k [])) (.lit (.int .i64 (k : Int))) := rfl
      have hsh := name_short k hlt
      obtain ⟨x, hx⟩ : ∃ x, x = nameL.getD k [] := ⟨_, rfl⟩
      rw [← hx] at hc hps hsh
      have hkey : keyOf Tryz.prog 9 (.string (txt x)) = some (.string x) := by
        have h := keyOf_string_mk (P := Tryz.prog) Tryz.underlying9 (s := txt x) (by show x.toArray.size ≤ maxLen; unfold maxLen; simp; omega)
        simpa [txt] using h
      clear hx hsh
      obtain ⟨T, hT⟩ : ∃ T, T = txt x := ⟨_, rfl⟩
      rw [← hT] at hc hkey
      clear hT
      have hki : (k : Int) < 12 := by omega
      go_wp2_with (first
        | (at_mapUpdate; refine wpList_mapUpdate_own _ rfl _ _ _ 162 rfl 9 3 keyS Tryz.underlying162 _ w.heap.size k _ rfl hown (by unfold maxLen; omega) _ _ _ rfl rfl hkey _ [] (plainElem_int Tryz.underlying3 (WalkArith.wf_i64 (by omega))) ?_)
        | go_in)
      intro w2 hown2 hgrow2
      have R1 := hps.symm ▸ hown2
      have R2 := hnx.grown hgrow2 hnx.size (fun j hj => by cases hj; exact Nat.le_refl _)
      have R3 : Hid (∀ j, j < 12 → w2.cell? ⟨g, j, none⟩ = some (.string (txt (nameL.getD j [])))) := fun j hj => (hgrow2.cell_far ⟨g, j, none⟩ hgs' (by simp; omega)).trans (hcl.out j hj)
      have R4 : g < w2.heap.size := Nat.lt_of_lt_of_le hgs' hgrow2.size
      clear hown2 hgrow2 hown hc hcl hkey hps
      go_wp2
      go_roundw
      case rel => exact ⟨k + 1, by go_num, by omega, R4, R3, R1, R2⟩
      case measure => simp [intOf]; omega
    · have : k = 12 := by omega
      subst this
      have HO := hown
      clear hown hcl
      go_wp2
      go_ret
      exact ⟨rfl, HO, hnx⟩

theorem name_cases (s : List UInt8) : (∃ i, i < 12 ∧ nameL.getD i [] = s) ∨ (∀ i, i < 12 → ¬ nameL.getD i [] = s) := by
  by_cases h : ∃ i, i < 12 ∧ nameL.getD i [] = s
  · exact .inl h
  · exact .inr fun i hi e => h ⟨i, hi, e⟩

set_option maxRecDepth 100000 in
set_option maxHeartbeats 1000000 in
theorem iNumber_any (s : ByteArray) (w : World) (hs : s.size ≤ maxLen) :
    Calls Tryz.prog 137 #[.string s] w fun e w' => e = .returned (.int .i64 (callN s.data.toList)) ∧ Below w.heap.size w w' := by
  have hkey := keyOf_string_mk (P := Tryz.prog) Tryz.underlying9 hs
  obtain ⟨b, n, hhas, hat, hans⟩ : ∃ (b : Bool) (n : Int), Hid (Maps.has (placesD 12) (.string s.data.toList) = b) ∧ Hid (b = true → (placesD 12).atKey (.string s.data.toList) (.lit (.int .i64 0)) = .lit (.int .i64 n)) ∧ Hid (callN s.data.toList = if b then n else -1) := by
    rcases name_cases s.data.toList with ⟨i, hi, h⟩ | h
    · obtain ⟨h1, h2⟩ := placesD_at _ i h 12 hi (fun j h1 h2 => by rw [← h]; exact nameL_apart i hi j h2 h1)
      exact ⟨true, i, h1, fun _ => h2, by unfold Hid; simp [callN_at hi h]⟩
    · exact ⟨false, 0, placesD_none _ 12 h, (fun h => by cases h), by unfold Hid; simp [callN_none h]⟩
  cases b with
  | true =>
    have HA : Hid (callN s.data.toList = n) := by unfold Hid; simpa using hans.out
    have HAT : Hid ((placesD 12).atKey (.string s.data.toList) (.lit (.int .i64 0)) = .lit (.int .i64 n)) := hat.out rfl
    clear hans hat
    go_enter Tryz.func137, Tryz.ntmps137
    go_wp2_with fail
    refine (places_any _).mono ?_
    rintro e w1 ⟨rfl, hown, hb1⟩
    go_wp2_with (at_lookup; refine wpList_lookup_own_ok_int _ rfl _ _ 162 rfl 9 3 .i64 keyS Tryz.underlying162 Tryz.underlying3 (zeroI _) w.heap.size 12 _ rfl hown _ _ rfl hkey ?_; intro c hc hwc; obtain rfl : c = n := (by have := hc.symm.trans HAT.out; injection this with h; injection h); rw [hhas.out]; clear hc hwc)
    go_ret
    exact ⟨by rw [HA.out]; rfl, hb1⟩
  | false =>
    have HA : Hid (callN s.data.toList = -1) := by unfold Hid; simpa using hans.out
    clear hans hat
    go_enter Tryz.func137, Tryz.ntmps137
    go_wp2_with fail
    refine (places_any _).mono ?_
    rintro e w1 ⟨rfl, hown, hb1⟩
    go_wp2_with (at_lookup; refine wpList_lookup_own_ok_int _ rfl _ _ 162 rfl 9 3 .i64 keyS Tryz.underlying162 Tryz.underlying3 (zeroI _) w.heap.size 12 _ rfl hown _ _ rfl hkey ?_; intro c hc hwc; rw [hhas.out]; clear hc hwc)
    go_ret
    exact ⟨by rw [HA.out]; rfl, hb1⟩

end Go.Proofs.YtojaohdmfahpmaaGreatDoor
