/- Plain facts on sealed texts: a text with its sum behind it is taken apart; with one byte turned its sum does not fit. -/
import Derived.Test.YtjanhiaadjbleaaDoorSeal
namespace Go.Proofs.YtjanhiaadjbleaaDoor
open Go.RowKit
set_option linter.unusedVariables false

def sumI (l : List UInt8) : Nat := sumL 4294967295 l

theorem extract_list (L : List UInt8) (a b : Nat) : (⟨L.toArray⟩ : ByteArray).extract a b = ⟨((L.drop a).take (b - a)).toArray⟩ := by
  apply ByteArray.ext
  apply Array.toList_inj.1
  rw [Lib.extract_data]

theorem sumT_list (l : List UInt8) : sumT ⟨l.toArray⟩ = sumI l := rfl

theorem fourT_list (l : List UInt8) : fourT ⟨l.toArray⟩ = ⟨(four (sumI l)).toArray⟩ := rfl

theorem mk_inj (a b : List UInt8) : ((⟨a.toArray⟩ : ByteArray) = ⟨b.toArray⟩) ↔ a = b := by
  constructor
  · intro h
    have := congrArg (fun x => x.data.toList) h
    simpa using this
  · intro h; rw [h]

def UnsealedV (n : Nat) (L : List UInt8) : Value := if L.drop n = four (sumI (L.take n)) then .tuple #[.string ⟨(L.take n).toArray⟩, .bool true] else no2

theorem iUnsealed_list (L : List UInt8) (n : Nat) (w : World) (hL : L.length = n + 4) (hn : n ≤ 20000) (hT : Tab w) :
    Calls Tryd.prog 12 #[.string ⟨L.toArray⟩] w fun e w' => e = .returned (UnsealedV n L) ∧ Below w.heap.size w w' := by
  have h := iUnsealed_in ⟨L.toArray⟩ ⟨(L.take n).toArray⟩ ⟨(L.drop n).toArray⟩ (fourT ⟨(L.take n).toArray⟩) n _ w (by show L.toArray.size = _; rw [List.size_toArray]; exact hL) hn hT
    (by rw [extract_list]; simp) (by rw [extract_list, mk_inj, List.take_of_length_le (by simp; omega)]) rfl rfl
  unfold UnsealedV
  rw [fourT_list] at h
  simp only [mk_inj] at h
  exact h

theorem iSealed_list (l : List UInt8) (w : World) (hn : l.length ≤ 20000) (hT : Tab w) :
    Calls Tryd.prog 11 #[.string ⟨l.toArray⟩] w fun e w' => e = .returned (.tuple #[.string ⟨(l ++ four (sumI l)).toArray⟩, .bool true]) ∧ Below w.heap.size w w' := by
  have h := iSealed_in ⟨l.toArray⟩ w (by show l.toArray.size ≤ _; rw [List.size_toArray]; exact hn) hT
  rw [fourT_list, ByteArray.mk_append_mk] at h
  exact h

theorem UnsealedV_sealed (l : List UInt8) (n : Nat) (hn : l.length = n) : UnsealedV n (l ++ four (sumI l)) = .tuple #[.string ⟨l.toArray⟩, .bool true] := by
  subst hn
  unfold UnsealedV
  rw [List.drop_left, List.take_left, if_pos rfl]

theorem set_split (l : List UInt8) (i : Nat) (c : UInt8) (h : i < l.length) : ∃ a r, l = a ++ l[i] :: r ∧ l.set i c = a ++ c :: r :=
  ⟨l.take i, l.drop (i + 1), by simp, by rw [List.set_eq_take_append_cons_drop, if_pos h]⟩

/-- With one byte turned a sealed text is none. -/
theorem UnsealedV_turned (l : List UInt8) (n i : Nat) (c d : UInt8) (hn : l.length = n) (hi : i < n + 4) (hd : (l ++ four (sumI l))[i]? = some d) (hc : c ≠ d) : UnsealedV n ((l ++ four (sumI l)).set i c) = no2 := by
  subst hn
  unfold UnsealedV
  rw [if_neg]
  intro he
  by_cases hlt : i < l.length
  · rw [List.set_append_left _ _ hlt] at he
    have e1 : (l.set i c ++ four (sumI l)).drop l.length = four (sumI l) := by
      have : l.length = (l.set i c).length := by simp
      rw [this, List.drop_left]
    have e2 : (l.set i c ++ four (sumI l)).take l.length = l.set i c := by
      have : l.length = (l.set i c).length := by simp
      rw [this, List.take_left]
    rw [e1, e2] at he
    have hs := four_inj _ _ (sumL_lt _ _ (by omega)) (sumL_lt _ _ (by omega)) he
    obtain ⟨a, r, h1, h2⟩ := set_split l i c hlt
    unfold sumI at hs
    rw [h2] at hs
    have h3 : sumL 4294967295 (a ++ l[i] :: r) = sumL 4294967295 (a ++ c :: r) := by rw [← hs, ← h1]
    have h4 := sumL_turned _ (by omega) a r _ _ h3
    rw [List.getElem?_append_left hlt, List.getElem?_eq_getElem hlt] at hd
    exact hc (by rw [← h4]; exact Option.some.inj hd)
  · rw [List.set_append_right _ _ (by omega), List.drop_left, List.take_left] at he
    have h5 := congrArg (fun z => z[i - l.length]?) he
    rw [List.getElem?_append_right (by omega)] at hd
    rw [hd, List.getElem?_set] at h5
    have h4 : i - l.length < (four (sumI l)).length := by rw [four_length]; omega
    simp [h4] at h5
    exact hc h5

theorem u8_xor_ne (a d : Nat) (hd : 0 < d) (hd2 : d < 256) (ha : a < 256) : UInt8.ofNat (a ^^^ d) ≠ UInt8.ofNat a := by
  intro h
  have hx : a ^^^ d < 256 := by
    have h1 : a < 2 ^ 8 := by omega
    have h2 : d < 2 ^ 8 := by omega
    have := Nat.xor_lt_two_pow h1 h2
    omega
  have := ofNat_inj _ _ hx ha h
  have h0 : a ^^^ d = a ^^^ 0 := by rw [this]; simp
  have := xor_left_inj d 0 a h0
  omega

end Go.Proofs.YtjanhiaadjbleaaDoor
