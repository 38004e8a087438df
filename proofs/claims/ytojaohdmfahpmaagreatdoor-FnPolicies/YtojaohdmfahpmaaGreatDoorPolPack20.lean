/- What impl's sign answers of a piece. -/
import Derived.Test.YtojaohdmfahpmaaGreatDoorPolPack17
import Derived.Test.YtojaohdmfahpmaaGreatDoorPolPack7
import Derived.Test.YtojaohdmfahpmaaGreatDoorPolPack12
import Derived.Test.YtojaohdmfahpmaaGreatDoorPolPack10
import Derived.Test.YtojaohdmfahpmaaGreatDoorPolPack11
import Derived.Test.YtojaohdmfahpmaaGreatDoorPolPack3
import Derived.Laws.RangeAny
import Derived.Laws.Runes
import Derived.Handy
import Derived.Laws.Concat
/- What impl's small functions of signs answer: runeKind, isMark, goesOn, halfIn, worded, sign. -/
namespace Go.Proofs.YtojaohdmfahpmaaGreatDoor
open Go.RowKit
set_option linter.unusedVariables false

/-- The kind of a rune. -/
def kindR (r : Int) : Nat := if r = 32 ∨ r = 10 then 0 else if 97 ≤ r ∧ r ≤ 122 then 1 else if 48 ≤ r ∧ r ≤ 57 then 2 else 3

theorem kindR_byte (b : UInt8) : kindR (b.toNat : Int) = kindB b := by
  unfold kindR kindB
  have e1 : ((b.toNat : Int) = 32 ∨ (b.toNat : Int) = 10) ↔ (b.toNat = 32 ∨ b.toNat = 10) := by omega
  have e2 : (97 ≤ (b.toNat : Int) ∧ (b.toNat : Int) ≤ 122) ↔ (97 ≤ b.toNat ∧ b.toNat ≤ 122) := by omega
  have e3 : (48 ≤ (b.toNat : Int) ∧ (b.toNat : Int) ≤ 57) ↔ (48 ≤ b.toNat ∧ b.toNat ≤ 57) := by omega
  simp only [e1, e2, e3]

theorem kindR_high {r : Int} (h : 128 ≤ r) : kindR r = 3 := by
  unfold kindR
  rw [if_neg (by omega), if_neg (by omega), if_neg (by omega)]

theorem runeKind_any (r : Int) (w : World) : Calls Tryz.prog 100 #[.int .i32 r] w fun e w' => e = .returned (.int .i64 ((kindR r : Nat) : Int)) ∧ w = w' := by
  by_cases h0 : r = 32
  · subst h0
    go_enter Tryz.func100, Tryz.ntmps100
    go_wp2
    go_ret
    exact ⟨rfl, rfl⟩
  by_cases h1 : r = 10
  · subst h1
    go_enter Tryz.func100, Tryz.ntmps100
    go_wp2
    go_ret
    exact ⟨rfl, rfl⟩
  have d0 : (r == 32) = false := by simpa using h0
  have d1 : (r == 10) = false := by simpa using h1
  obtain ⟨z, hz⟩ : ∃ z, z = kindR r := ⟨_, rfl⟩
  rw [← hz]
  by_cases h2 : 97 ≤ r ∧ r ≤ 122
  · have HZ : Hid (z = 1) := by rw [hz]; unfold kindR; rw [if_neg (by omega), if_pos h2]; rfl
    obtain ⟨ha, hb⟩ := h2
    clear hz
    go_enter Tryz.func100, Tryz.ntmps100
    go_wp2
    go_ret
    exact ⟨by rw [HZ.out]; rfl, rfl⟩
  by_cases h3 : 48 ≤ r ∧ r ≤ 57
  · have HZ : Hid (z = 2) := by rw [hz]; unfold kindR; rw [if_neg (by omega), if_neg h2, if_pos h3]; rfl
    obtain ⟨ha, hb⟩ := h3
    have hc : ¬ 97 ≤ r := by omega
    clear hz h2
    go_enter Tryz.func100, Tryz.ntmps100
    go_wp2
    go_ret
    exact ⟨by rw [HZ.out]; rfl, rfl⟩
  have HZ : Hid (z = 3) := by rw [hz]; unfold kindR; rw [if_neg (by omega), if_neg h2, if_neg h3]; rfl
  have H2 : Hid (¬ (97 ≤ r ∧ r ≤ 122)) := h2
  have H3 : Hid (¬ (48 ≤ r ∧ r ≤ 57)) := h3
  clear hz h2 h3
  by_cases k1 : 97 ≤ r
  · have k2 : ¬ r ≤ 122 := by have := H2.out; omega
    have k3 : ¬ r ≤ 57 := by omega
    have k4 : 48 ≤ r := by omega
    go_enter Tryz.func100, Tryz.ntmps100
    go_wp2
    go_ret
    exact ⟨by rw [HZ.out]; rfl, rfl⟩
  · by_cases k3 : 48 ≤ r
    · have k4 : ¬ r ≤ 57 := by have := H3.out; omega
      go_enter Tryz.func100, Tryz.ntmps100
      go_wp2
      go_ret
      exact ⟨by rw [HZ.out]; rfl, rfl⟩
    · go_enter Tryz.func100, Tryz.ntmps100
      go_wp2
      go_ret
      exact ⟨by rw [HZ.out]; rfl, rfl⟩

theorem isMark_yes {l : List UInt8} (h : l ∈ markL) (w : World) : Calls Tryz.prog 103 #[.string (txt l)] w fun e w' => e = .returned (.bool true) ∧ w = w' := by
  unfold markL at h
  simp only [List.mem_cons, List.not_mem_nil, or_false] at h
  rcases h with rfl | rfl | rfl | rfl | rfl | rfl | rfl | rfl | rfl | rfl
  all_goals
    unfold txt
    go_enter Tryz.func103, Tryz.ntmps103
    go_wp2
    go_ret
    exact ⟨rfl, rfl⟩

theorem isMark_no (t : ByteArray) (h : isMarkL t.data.toList = false) (w : World) : Calls Tryz.prog 103 #[.string t] w fun e w' => e = .returned (.bool false) ∧ w = w' := by
  have hne : ∀ m ∈ markL, (t.toList == m) = false := fun m hm => by
    rw [beq_eq_false_iff_ne]
    intro e
    rw [ByteArray.toList_eq] at e
    rw [e, isMark_of hm] at h
    cases h
  have m0 := hne [61, 61] (by decide)
  have m1 := hne [33, 61] (by decide)
  have m2 := hne [60, 61] (by decide)
  have m3 := hne [62, 61] (by decide)
  have m4 := hne [60] (by decide)
  have m5 := hne [62] (by decide)
  have m6 := hne [38] (by decide)
  have m7 := hne [58] (by decide)
  have m8 := hne [59] (by decide)
  have m9 := hne [44] (by decide)
  clear hne h
  go_enter Tryz.func103, Tryz.ntmps103
  go_wp2
  go_ret
  exact ⟨rfl, rfl⟩

theorem isMark_any (t : ByteArray) (w : World) : Calls Tryz.prog 103 #[.string t] w fun e w' => e = .returned (.bool (isMarkL t.data.toList)) ∧ w = w' := by
  cases h : isMarkL t.data.toList
  · exact isMark_no t h w
  · have := isMark_yes (isMark_mem h) w
    rw [txt_data] at this
    exact this

theorem clone_any (s : ByteArray) (w : World) (hlim : s.size ≤ 281474976710656) :
    Calls Tryz.prog 123 #[.string s] w fun e w' => e = .returned (.string s) ∧ Ext w w' := by
  go_enter Tryz.func123, Tryz.ntmps123
  go_wp2_with fail
  refine (Tryz.stringslite_Clone _ _ hlim).mono ?_
  rintro e w' ⟨rfl, hb⟩
  go_wp2
  go_ret
  exact ⟨rfl, hb⟩

/-- Does the piece go on with this rune? -/
def goB (k : Nat) (T : ByteArray) (r : Int) : Bool := decide (kindR r = k) && (!decide (k = 3) || isMarkL (T ++ Utf8.encode r).data.toList)

set_option maxRecDepth 100000 in
set_option maxHeartbeats 1000000 in
theorem goesOn_any (k : Nat) (T : ByteArray) (r : Int) (w : World) (hT : T.size ≤ 1048576) (hk : k ≤ 3) (hE : (Utf8.encode r).size ≤ 4) :
    Calls Tryz.prog 99 #[.agg #[.int .i64 (k : Int), .string T], .int .i32 r] w fun e w' => e = .returned (.bool (goB k T r)) ∧ Ext w w' := by
  obtain ⟨z, hz⟩ : ∃ z, z = goB k T r := ⟨_, rfl⟩
  rw [← hz]
  obtain ⟨q, hq⟩ : ∃ q, q = kindR r := ⟨_, rfl⟩
  have hrk := runeKind_any r
  rw [← hq] at hrk
  have HK : Hid (∀ w : World, Calls Tryz.prog 100 #[.int .i32 r] w fun e w' => e = .returned (.int .i64 (q : Int)) ∧ w = w') := hrk
  have HZ : Hid (z = (decide (q = k) && (!decide (k = 3) || isMarkL (T ++ Utf8.encode r).data.toList))) := by rw [hz, hq]; rfl
  clear hz hq hrk
  have c0 : CellsAt (w.alloc (.cells #[.int .i64 (k : Int), .string T] 96)) w.heap.size [.int .i64 (k : Int), .string T] := CellsAt.new w _ _
  have E0 : Hid (Ext w (w.alloc (.cells #[.int .i64 (k : Int), .string T] 96))) := Ext.one _ _
  obtain ⟨W, hW⟩ : ∃ W, W = w.alloc (.cells #[.int .i64 (k : Int), .string T] 96) := ⟨_, rfl⟩
  rw [← hW] at c0 E0
  have hadd := fun wx => run_string_add_sum (P := Tryz.prog) wx T (Utf8.encode r) (by omega)
  go_enter Tryz.func99, Tryz.ntmps99
  go_wp2_with fail
  rw [← hW]
  clear hW
  refine' wp_region_loose (.inl _ :: .inl _ :: .inl _ :: .inl _ :: .inl _ :: []) (fun w' => CellsAt w' w.heap.size [.int .i64 (k : Int), .string T]) (by kernel_rfl) (by kernel_rfl) (c0.drew) (fun _ _ h hE => h.step hE) ?hAa ?hla ?hMa
  case' hMa => skip
  apply wpLoose_val rfl rfl
  case hs =>
    intro w1 hC hd Q1 hQ1
    obtain ⟨hE, hS⟩ := hC
    dsimp only [bare]
    obtain ⟨q0, q1⟩ := (⟨hS.2 0 _ rfl, hS.2 1 _ rfl⟩ : _ ∧ _)
    clear hd hE
    try clear hS
    go_wp2
    exact Ext.refl _
  case ha => rfl
  apply wpLoose_val rfl rfl
  case hs =>
    intro w1 hC hd Q1 hQ1
    obtain ⟨hE, hS⟩ := hC
    dsimp only [bare]
    clear hd
    go_wp2_with fail
    refine (HK.out _).mono ?_
    rintro e w2 ⟨rfl, rfl⟩
    go_wp2_with fail
    exact Ext.refl _
  case ha => rfl
  apply wpLoose_val rfl rfl
  case hs =>
    intro w1 hC hd Q1 hQ1
    obtain ⟨hE, hS⟩ := hC
    dsimp only [bare]
    obtain ⟨q0, q1⟩ := (⟨hS.2 0 _ rfl, hS.2 1 _ rfl⟩ : _ ∧ _)
    clear hd hE
    try clear hS
    go_wp2
    exact Ext.refl _
  case ha => rfl
  apply wpLoose_val rfl rfl
  case hs =>
    intro w1 hC hd Q1 hQ1
    obtain ⟨hE, hS⟩ := hC
    dsimp only [bare]
    obtain ⟨q0, q1⟩ := (⟨hS.2 0 _ rfl, hS.2 1 _ rfl⟩ : _ ∧ _)
    clear hd hE
    try clear hS
    go_wp2
    exact Ext.refl _
  case ha => rfl
  apply wpLoose_val rfl rfl
  case hs =>
    intro w1 hC hd Q1 hQ1
    obtain ⟨hE, hS⟩ := hC
    dsimp only [bare]
    obtain ⟨q0, q1⟩ := (⟨hS.2 0 _ rfl, hS.2 1 _ rfl⟩ : _ ∧ _)
    clear hd hE
    try clear hS
    go_wp2
    exact Ext.refl _
  case ha => rfl
  refine wpLoose_nil ?_
  intro wa hEa hSa hFa
  have E1 : Hid (Ext w wa) := E0.out.trans (Ext.ofDrew hEa)
  obtain ⟨q0, q1⟩ := (⟨hSa.2 0 _ rfl, hSa.2 1 _ rfl⟩ : _ ∧ _)
  clear hFa hEa c0 E0 hSa
  by_cases hqk : q = k
  · subst hqk
    by_cases h3 : q = 3
    · subst h3
      have HY : Hid (z = isMarkL (T ++ Utf8.encode r).data.toList) := by unfold Hid; rw [HZ.out]; simp
      clear HZ
      go_wp2_with (go_at_call 103; refine (isMark_any _ _).mono ?_; rintro e w2 ⟨rfl, rfl⟩)
      go_ret
      exact ⟨by rw [HY.out]; rfl, E1.out⟩
    · have d3 : ((q : Int) != 3) = true := by simp; omega
      have HY : Hid (z = true) := by unfold Hid; rw [HZ.out]; simp [h3]
      clear HZ
      go_wp2
      go_ret
      exact ⟨by rw [HY.out]; rfl, E1.out⟩
  · have dq : ((q : Int) != (k : Int)) = true := by simp; omega
    have HY : Hid (z = false) := by unfold Hid; rw [HZ.out]; simp [hqk]
    clear HZ
    go_wp2
    go_ret
    exact ⟨by rw [HY.out]; rfl, E1.out⟩
  case hAa => kernel_rfl
  case hla => exact ⟨trivial, trivial, trivial, trivial, trivial, trivial⟩

/-- A number of figures, and whether it is a half. -/
def halfR (l : List UInt8) : Nat × Bool := if 10 < l.length then (0, false) else match numF 10 l 0 with
  | none => (0, false)
  | some n => (n, decide (n ≤ 4294967295))

theorem numF_lt (l : List UInt8) (n : Nat) (h : numF 10 l 0 = some n) (hl : l.length ≤ 10) : n < 1099511627776 := by
  have key : ∀ (l : List UInt8) (m n : Nat), numF 10 l m = some n → n < (m + 1) * 16 ^ l.length := by
    intro l
    induction l with
    | nil => intro m n h; simp only [numF, Option.some.injEq] at h; subst h; simp
    | cons b r ih =>
      intro m n h
      simp only [numF] at h
      split at h
      · cases h
      · rename_i d hd
        have hd9 : d < 10 := by
          unfold fig at hd
          split at hd
          · rename_i h1; simp at hd; omega
          · split at hd
            · rename_i h1; simp at hd; omega
            · cases hd
        have := ih _ _ h
        rw [List.length_cons, Nat.pow_succ]
        have h2 : m * 10 + d + 1 ≤ (m + 1) * 16 := by omega
        calc n < (m * 10 + d + 1) * 16 ^ r.length := this
          _ ≤ ((m + 1) * 16) * 16 ^ r.length := Nat.mul_le_mul_right _ h2
          _ = (m + 1) * (16 ^ r.length * 16) := by rw [Nat.mul_assoc, Nat.mul_comm 16]
  have h1 := key l 0 n h
  have h2 : (16 : Nat) ^ l.length ≤ 16 ^ 10 := Nat.pow_le_pow_right (by omega) hl
  have h3 : (16 : Nat) ^ 10 = 1099511627776 := by decide
  omega

set_option maxRecDepth 100000 in
set_option maxHeartbeats 1000000 in
theorem halfIn_any (T : ByteArray) (w : World) :
    Calls Tryz.prog 102 #[.string T] w fun e w' => e = .returned (.tuple #[.int .i64 ((halfR T.data.toList).1 : Int), .bool (halfR T.data.toList).2]) ∧ Ext w w' := by
  obtain ⟨p, hp⟩ : ∃ p, p = halfR T.data.toList := ⟨_, rfl⟩
  rw [← hp]
  have hlen : T.data.toList.length = T.size := by simp
  by_cases h10 : 10 < T.size
  · have HP : Hid (p = (0, false)) := by rw [hp]; unfold halfR; rw [if_pos (by omega)]; rfl
    clear hp hlen
    go_enter Tryz.func102, Tryz.ntmps102
    go_wp2
    go_ret2
    exact ⟨by rw [HP.out]; rfl, Ext.refl _⟩
  · cases hn : numF 10 T.data.toList 0 with
    | none =>
      have HP : Hid (p = (0, false)) := by rw [hp]; unfold halfR; rw [if_neg (by omega), hn]; rfl
      have HN : Hid (∀ w : World, Calls Tryz.prog 124 #[.string T, .int .i64 10] w fun e w' => e = .returned (.tuple #[.int .i64 0, .bool false]) ∧ Below w.heap.size w w') := fun w => by
        have := numberIn_any T 10 w (by omega) (by omega)
        rw [hn] at this
        exact this
      clear hp hlen hn
      go_enter Tryz.func102, Tryz.ntmps102
      go_wp2_with fail
      refine (HN.out _).mono ?_
      rintro e w1 ⟨rfl, hb⟩
      go_wp2
      go_ret2
      exact ⟨by rw [HP.out]; rfl, hb⟩
    | some n =>
      have hnl := numF_lt _ n hn (by omega)
      have HP : Hid (p = (n, decide (n ≤ 4294967295))) := by rw [hp]; unfold halfR; rw [if_neg (by omega), hn]; rfl
      have HN : Hid (∀ w : World, Calls Tryz.prog 124 #[.string T, .int .i64 10] w fun e w' => e = .returned (.tuple #[.int .i64 (n : Int), .bool true]) ∧ Below w.heap.size w w') := fun w => by
        have := numberIn_any T 10 w (by omega) (by omega)
        rw [hn] at this
        exact this
      have HB : Hid (halfB (n : Int) = decide (n ≤ 4294967295)) := by
        unfold Hid halfB
        rw [Bool.eq_iff_iff]
        simp
        omega
      clear hp hlen hn
      go_enter Tryz.func102, Tryz.ntmps102
      go_wp2_with fail
      refine (HN.out _).mono ?_
      rintro e w1 ⟨rfl, hb⟩
      go_wp2_with (go_at_call 52; refine (iHalf_any _ _).mono ?_; rintro e w' ⟨rfl, rfl⟩)
      go_ret2
      exact ⟨by rw [HP.out, HB.out]; rfl, hb⟩

/-- A sign as a value. -/
def sgV (p : Sg) : Value := .agg #[.int .i64 p.1, .string (txt p.2.1), .int .i64 p.2.2]

theorem free_new8 (W : World) (cs : Array Value) (t : TypeId) (k j : Nat) (hk : k = W.heap.size) : (W.alloc (.cells cs t)).frozen? ⟨k, j, none⟩ = false := by
  subst hk
  have h : (W.alloc (.cells cs t)).heap[W.heap.size]? = some (.cells cs t (0, 0)) := by unfold World.alloc; simp
  unfold World.frozen?
  rw [h]
  simp

set_option maxRecDepth 100000 in
set_option maxHeartbeats 1000000 in
theorem worded_any (k : Int) (T : ByteArray) (w : World) (hT : T.size ≤ 281474976710656) :
    Calls Tryz.prog 101 #[.agg #[.int .i64 k, .string T]] w fun e w' => e = .returned (.agg #[.int .i64 k, .string T, .int .i64 0]) ∧ Ext w w' := by
  obtain ⟨W, hW⟩ : ∃ W, W = (w.alloc (.cells #[.int .i64 k, .string T] 96)).alloc (.cells #[.int .i64 0, .string ⟨#[]⟩, .int .i64 0] 98) := ⟨_, rfl⟩
  have c0 : CellsAt W w.heap.size [.int .i64 k, .string T] := by rw [hW]; exact (CellsAt.new w _ _).step (Ext.one _ _)
  have c1 : CellsAt W (w.heap.size + 1) [.int .i64 0, .string ⟨#[]⟩, .int .i64 0] := by rw [hW]; exact CellsAt.new' _ _ _ _ (by simp)
  have f1 : ∀ j, W.frozen? ⟨w.heap.size + 1, j, none⟩ = false := fun j => by rw [hW]; exact free_new8 _ _ _ _ _ (by simp)
  have E0 : Hid (Ext w W) := by rw [hW]; exact (Ext.one _ _).alloc _
  go_enter Tryz.func101, Tryz.ntmps101
  go_wp2_with fail
  rw [← hW]
  clear hW
  refine' wp_region_loose_tail 6 (.inl _ :: .inl _ :: .inl _ :: .inl _ :: .inl _ :: .inl _ :: []) (fun w' => CellsAt w' w.heap.size [.int .i64 k, .string T] ∧ CellsAt w' (w.heap.size + 1) [.int .i64 0, .string ⟨#[]⟩, .int .i64 0] ∧ (∀ j, w'.frozen? ⟨w.heap.size + 1, j, none⟩ = false)) (by kernel_rfl) (by kernel_rfl) (⟨c0.drew, c1.drew, f1⟩) (fun _ _ h hE => ⟨h.1.step hE, h.2.1.step hE, fun j => (hE.frozen (p := ⟨_, j, none⟩) h.2.1.1).trans (h.2.2 j)⟩) ?hAa ?hla ?hMa
  case' hMa => skip
  simp only [List.take_succ_cons, List.take_zero, List.drop_succ_cons, List.drop_zero]
  apply wpLoose_val rfl rfl
  case hs =>
    intro w1 hC hd Q1 hQ1
    obtain ⟨hE, hS⟩ := hC
    dsimp only [bare]
    obtain ⟨q0, q1⟩ := (⟨hS.1.2 0 _ rfl, hS.1.2 1 _ rfl⟩ : _ ∧ _)
    clear hd hE
    try clear hS
    go_wp2
    exact Ext.refl _
  case ha => rfl
  apply wpLoose_val rfl rfl
  case hs =>
    intro w1 hC hd Q1 hQ1
    obtain ⟨hE, hS⟩ := hC
    dsimp only [bare]
    obtain ⟨q0, q1⟩ := (⟨hS.1.2 0 _ rfl, hS.1.2 1 _ rfl⟩ : _ ∧ _)
    clear hd hE
    try clear hS
    go_wp2
    exact Ext.refl _
  case ha => rfl
  apply wpLoose_val rfl rfl
  case hs =>
    intro w1 hC hd Q1 hQ1
    obtain ⟨hE, hS⟩ := hC
    dsimp only [bare]
    obtain ⟨q0, q1⟩ := (⟨hS.1.2 0 _ rfl, hS.1.2 1 _ rfl⟩ : _ ∧ _)
    clear hd hE
    try clear hS
    go_wp2
    exact Ext.refl _
  case ha => rfl
  apply wpLoose_val rfl rfl
  case hs =>
    intro w1 hC hd Q1 hQ1
    obtain ⟨hE, hS⟩ := hC
    dsimp only [bare]
    obtain ⟨q0, q1⟩ := (⟨hS.1.2 0 _ rfl, hS.1.2 1 _ rfl⟩ : _ ∧ _)
    clear hd hE
    try clear hS
    go_wp2
    exact Ext.refl _
  case ha => rfl
  apply wpLoose_val rfl rfl
  case hs =>
    intro w1 hC hd Q1 hQ1
    obtain ⟨hE, hS⟩ := hC
    dsimp only [bare]
    clear hd
    go_wp2_with fail
    refine (clone_any T _ hT).mono ?_
    rintro e w2 ⟨rfl, hb⟩
    go_wp2_with fail
    exact hb
  case ha => rfl
  apply wpLoose_val rfl rfl
  case hs =>
    intro w1 hC hd Q1 hQ1
    obtain ⟨hE, hS⟩ := hC
    dsimp only [bare]
    obtain ⟨q0, q1⟩ := (⟨hS.1.2 0 _ rfl, hS.1.2 1 _ rfl⟩ : _ ∧ _)
    clear hd hE
    try clear hS
    go_wp2
    exact Ext.refl _
  case ha => rfl
  refine wpLoose_nil ?_
  intro wa hEa hSa hFa
  have E1 : Hid (Ext w wa) := E0.out.trans (Ext.ofDrew hEa)
  obtain ⟨q0, q1, q2⟩ := (⟨hSa.2.1.2 0 _ rfl, hSa.2.1.2 1 _ rfl, hSa.2.1.2 2 _ rfl⟩ : _ ∧ _ ∧ _)
  have ff := hSa.2.2
  have hsz : w.heap.size + 1 < wa.heap.size := hSa.2.1.1
  clear hFa hEa c0 c1 f1 E0 hSa
  go_wp2
  refine bodyPost_ret (v := .agg #[.int .i64 k, .string T, .int .i64 0]) (by simp [results, Tryz.results101, go_sem, *]) rfl ⟨rfl, ?_⟩
  exact ((Below.setCell E1.out (by simp) _).setCell (by simp) _).setCell (by simp) _
  case hAa => kernel_rfl
  case hla => exact ⟨trivial, trivial, trivial, trivial, trivial, trivial, trivial⟩

set_option maxRecDepth 100000 in
set_option maxHeartbeats 1000000 in
theorem sign_1 (T : ByteArray) (w : World) (hT : T.size ≤ 281474976710656) :
    Calls Tryz.prog 60 #[.agg #[.int .i64 1, .string T]] w fun e w' => e = .returned (.tuple #[.agg #[.int .i64 1, .string T, .int .i64 0], .bool (decide ((T.size : Int) ≤ 12))]) ∧ Ext w w' := by
  obtain ⟨W, hW⟩ : ∃ W, W = (w.alloc (.cells #[.int .i64 1, .string T] 96)).alloc (.cells #[.int .i64 0, .string ⟨#[]⟩, .int .i64 0] 98) := ⟨_, rfl⟩
  have c0 : CellsAt W w.heap.size [.int .i64 1, .string T] := by rw [hW]; exact (CellsAt.new w _ _).step (Ext.one _ _)
  have c1 : CellsAt W (w.heap.size + 1) [.int .i64 0, .string ⟨#[]⟩, .int .i64 0] := by rw [hW]; exact CellsAt.new' _ _ _ _ (by simp)
  have f1 : ∀ j, W.frozen? ⟨w.heap.size + 1, j, none⟩ = false := fun j => by rw [hW]; exact free_new8 _ _ _ _ _ (by simp)
  have E0 : Hid (Ext w W) := by rw [hW]; exact (Ext.one _ _).alloc _
  go_enter Tryz.func60, Tryz.ntmps60
  go_wp2_with fail
  rw [← hW]
  clear hW
  obtain ⟨p0, p1⟩ := (⟨c0.drew.2 0 _ rfl, c0.drew.2 1 _ rfl⟩ : _ ∧ _)
  have cd0 : CellsAt W.drew w.heap.size [.int .i64 1, .string T] := c0
  have cd1 : CellsAt W.drew (w.heap.size + 1) [.int .i64 0, .string ⟨#[]⟩, .int .i64 0] := c1
  have fd1 : ∀ j, W.drew.frozen? ⟨w.heap.size + 1, j, none⟩ = false := f1
  go_region_with (go_at_call 101; refine (worded_any 1 T _ hT).mono ?_; rintro e w1 ⟨rfl, e1⟩; have c2 := CellsAt.step cd0 e1; have c3 := CellsAt.step cd1 e1; have r1 := c2.2 1 _ rfl; have r2 := c3.2 0 _ rfl; have r3 := c3.2 1 _ rfl; have r4 := c3.2 2 _ rfl; have r5 : ∀ j, w1.frozen? ⟨w.heap.size + 1, j, none⟩ = false := fun j => (e1.frozen (p := ⟨_, j, none⟩) cd1.1).trans (fd1 j); have E1 : Hid (Ext w w1) := E0.out.trans (Ext.ofDrew e1); have hsz : w.heap.size + 1 < w1.heap.size := c3.1; clear e1 c2 c3)
  all_goals
    clear c0 c1 f1 E0 p0 p1 cd0 cd1 fd1
    dsimp [Act.put]
    go_wp2
    refine bodyPost_ret (v := .tuple #[.agg #[.int .i64 1, .string T, .int .i64 0], .bool (decide ((T.size : Int) ≤ 12))]) (by simp [results, Tryz.results60, go_sem, *]) rfl ⟨rfl, ?_⟩
    exact ((Below.setCell E1.out (by simp) _).setCell (by simp) _).setCell (by simp) _

set_option maxRecDepth 100000 in
set_option maxHeartbeats 1000000 in
theorem sign_3 (T : ByteArray) (w : World) (hT : T.size ≤ 281474976710656) :
    Calls Tryz.prog 60 #[.agg #[.int .i64 3, .string T]] w fun e w' => e = .returned (.tuple #[.agg #[.int .i64 3, .string T, .int .i64 0], .bool (isMarkL T.data.toList)]) ∧ Ext w w' := by
  obtain ⟨W, hW⟩ : ∃ W, W = (w.alloc (.cells #[.int .i64 3, .string T] 96)).alloc (.cells #[.int .i64 0, .string ⟨#[]⟩, .int .i64 0] 98) := ⟨_, rfl⟩
  have c0 : CellsAt W w.heap.size [.int .i64 3, .string T] := by rw [hW]; exact (CellsAt.new w _ _).step (Ext.one _ _)
  have c1 : CellsAt W (w.heap.size + 1) [.int .i64 0, .string ⟨#[]⟩, .int .i64 0] := by rw [hW]; exact CellsAt.new' _ _ _ _ (by simp)
  have f1 : ∀ j, W.frozen? ⟨w.heap.size + 1, j, none⟩ = false := fun j => by rw [hW]; exact free_new8 _ _ _ _ _ (by simp)
  have E0 : Hid (Ext w W) := by rw [hW]; exact (Ext.one _ _).alloc _
  go_enter Tryz.func60, Tryz.ntmps60
  go_wp2_with fail
  rw [← hW]
  clear hW
  refine' wp_region_loose_tail 5 (.inl _ :: .inl _ :: .inl _ :: .inl _ :: .inl _ :: []) (fun w' => CellsAt w' w.heap.size [.int .i64 3, .string T] ∧ CellsAt w' (w.heap.size + 1) [.int .i64 0, .string ⟨#[]⟩, .int .i64 0] ∧ (∀ j, w'.frozen? ⟨w.heap.size + 1, j, none⟩ = false)) (by kernel_rfl) (by kernel_rfl) (⟨c0.drew, c1.drew, f1⟩) (fun _ _ h hE => ⟨h.1.step hE, h.2.1.step hE, fun j => (hE.frozen (p := ⟨_, j, none⟩) h.2.1.1).trans (h.2.2 j)⟩) ?hAa ?hla ?hMa
  case' hMa => skip
  simp only [List.take_succ_cons, List.take_zero, List.drop_succ_cons, List.drop_zero]
  apply wpLoose_val rfl rfl
  case hs =>
    intro w1 hC hd Q1 hQ1
    obtain ⟨hE, hS⟩ := hC
    dsimp only [bare]
    obtain ⟨q0, q1⟩ := (⟨hS.1.2 0 _ rfl, hS.1.2 1 _ rfl⟩ : _ ∧ _)
    clear hd hE
    try clear hS
    go_wp2
    exact Ext.refl _
  case ha => rfl
  apply wpLoose_val rfl rfl
  case hs =>
    intro w1 hC hd Q1 hQ1
    obtain ⟨hE, hS⟩ := hC
    dsimp only [bare]
    clear hd
    go_wp2_with fail
    refine (worded_any 3 T _ hT).mono ?_
    rintro e w2 ⟨rfl, hb⟩
    go_wp2_with fail
    exact hb
  case ha => rfl
  apply wpLoose_val rfl rfl
  case hs =>
    intro w1 hC hd Q1 hQ1
    obtain ⟨hE, hS⟩ := hC
    dsimp only [bare]
    obtain ⟨q0, q1⟩ := (⟨hS.1.2 0 _ rfl, hS.1.2 1 _ rfl⟩ : _ ∧ _)
    clear hd hE
    try clear hS
    go_wp2
    exact Ext.refl _
  case ha => rfl
  apply wpLoose_val rfl rfl
  case hs =>
    intro w1 hC hd Q1 hQ1
    obtain ⟨hE, hS⟩ := hC
    dsimp only [bare]
    obtain ⟨q0, q1⟩ := (⟨hS.1.2 0 _ rfl, hS.1.2 1 _ rfl⟩ : _ ∧ _)
    clear hd hE
    try clear hS
    go_wp2
    exact Ext.refl _
  case ha => rfl
  apply wpLoose_val rfl rfl
  case hs =>
    intro w1 hC hd Q1 hQ1
    obtain ⟨hE, hS⟩ := hC
    dsimp only [bare]
    clear hd
    go_wp2_with fail
    refine (isMark_any T _).mono ?_
    rintro e w2 ⟨rfl, rfl⟩
    go_wp2_with fail
    exact Ext.refl _
  case ha => rfl
  refine wpLoose_nil ?_
  intro wa hEa hSa hFa
  have E1 : Hid (Ext w wa) := E0.out.trans (Ext.ofDrew hEa)
  obtain ⟨q0, q1, q2⟩ := (⟨hSa.2.1.2 0 _ rfl, hSa.2.1.2 1 _ rfl, hSa.2.1.2 2 _ rfl⟩ : _ ∧ _ ∧ _)
  have ff := hSa.2.2
  have hsz : w.heap.size + 1 < wa.heap.size := hSa.2.1.1
  clear hFa hEa c0 c1 f1 E0 hSa
  go_wp2
  refine bodyPost_ret (v := .tuple #[.agg #[.int .i64 3, .string T, .int .i64 0], .bool (isMarkL T.data.toList)]) (by simp [results, Tryz.results60, go_sem, *]) rfl ⟨rfl, ?_⟩
  exact ((Below.setCell E1.out (by simp) _).setCell (by simp) _).setCell (by simp) _
  case hAa => kernel_rfl
  case hla => exact ⟨trivial, trivial, trivial, trivial, trivial, trivial⟩

set_option maxRecDepth 100000 in
set_option maxHeartbeats 1000000 in
theorem sign_2 (T : ByteArray) (w : World) :
    Calls Tryz.prog 60 #[.agg #[.int .i64 2, .string T]] w fun e w' => e = .returned (.tuple #[.agg #[.int .i64 2, .string ⟨#[]⟩, .int .i64 ((halfR T.data.toList).1 : Int)], .bool (halfR T.data.toList).2]) ∧ Ext w w' := by
  obtain ⟨⟨n, b⟩, hp⟩ : ∃ p, p = halfR T.data.toList := ⟨_, rfl⟩
  have HH : Hid (∀ w : World, Calls Tryz.prog 102 #[.string T] w fun e w' => e = .returned (.tuple #[.int .i64 (n : Int), .bool b]) ∧ Ext w w') := fun w => by
    have := halfIn_any T w
    rw [← hp] at this
    exact this
  rw [← hp]
  clear hp
  obtain ⟨W, hW⟩ : ∃ W, W = (w.alloc (.cells #[.int .i64 2, .string T] 96)).alloc (.cells #[.int .i64 0, .string ⟨#[]⟩, .int .i64 0] 98) := ⟨_, rfl⟩
  have c0 : CellsAt W w.heap.size [.int .i64 2, .string T] := by rw [hW]; exact (CellsAt.new w _ _).step (Ext.one _ _)
  have c1 : CellsAt W (w.heap.size + 1) [.int .i64 0, .string ⟨#[]⟩, .int .i64 0] := by rw [hW]; exact CellsAt.new' _ _ _ _ (by simp)
  have f1 : ∀ j, W.frozen? ⟨w.heap.size + 1, j, none⟩ = false := fun j => by rw [hW]; exact free_new8 _ _ _ _ _ (by simp)
  have E0 : Hid (Ext w W) := by rw [hW]; exact (Ext.one _ _).alloc _
  go_enter Tryz.func60, Tryz.ntmps60
  go_wp2_with fail
  rw [← hW]
  clear hW
  refine (HH.out _).mono ?_
  rintro e w1 ⟨rfl, e1⟩
  have E1 : Hid (Ext w w1) := E0.out.trans e1
  have c2 := c1.step e1
  obtain ⟨q0, q1, q2⟩ := (⟨c2.2 0 _ rfl, c2.2 1 _ rfl, c2.2 2 _ rfl⟩ : _ ∧ _ ∧ _)
  have ff : ∀ j, w1.frozen? ⟨w.heap.size + 1, j, none⟩ = false := fun j => (e1.frozen (p := ⟨_, j, none⟩) c1.1).trans (f1 j)
  have hsz : w.heap.size + 1 < w1.heap.size := c2.1
  clear e1 E0 c0 c1 f1 c2
  go_wp2
  refine bodyPost_ret (v := .tuple #[.agg #[.int .i64 2, .string ⟨#[]⟩, .int .i64 (n : Int)], .bool b]) (by simp [results, Tryz.results60, go_sem, *]) rfl ⟨rfl, ?_⟩
  exact ((Below.setCell E1.out (by simp) _).setCell (by simp) _).setCell (by simp) _

/-- What sign a piece is, and whether it is one. -/
theorem sign_any (k : Nat) (T : ByteArray) (w : World) (hT : T.size ≤ 281474976710656) (hk : k = 1 ∨ k = 2 ∨ k = 3) :
    Calls Tryz.prog 60 #[.agg #[.int .i64 (k : Int), .string T]] w fun e w' => ∃ p : Sg, e = .returned (.tuple #[sgV p, .bool (signOf k T.data.toList).isSome]) ∧ (∀ s, signOf k T.data.toList = some s → p = s) ∧ Ext w w' := by
  have hlen : T.data.toList.length = T.size := by simp
  rcases hk with rfl | rfl | rfl
  · refine (sign_1 T w hT).mono ?_
    rintro e w' ⟨rfl, hE⟩
    refine ⟨(1, T.data.toList, 0), ?_, ?_, hE⟩
    · rw [sgV, txt_data]
      by_cases h : T.size ≤ 12
      · rw [decide_eq_true (by omega)]; simp [signOf, hlen, h]
      · rw [decide_eq_false (by omega)]; simp [signOf, hlen, h]
    · intro s hs
      simp only [signOf, if_true] at hs
      split at hs
      · exact (Option.some.inj hs)
      · cases hs
  · refine (sign_2 T w).mono ?_
    rintro e w' ⟨rfl, hE⟩
    refine ⟨(2, [], ((halfR T.data.toList).1 : Int)), ?_, ?_, hE⟩
    · have : (halfR T.data.toList).2 = (signOf 2 T.data.toList).isSome := by
        unfold halfR signOf
        rw [if_neg (show ¬ (2 : Nat) = 1 by decide), if_pos (show (2 : Nat) = 2 from rfl)]
        by_cases h : 10 < T.data.toList.length
        · rw [if_pos h]
          cases numF 10 T.data.toList 0 with
          | none => rfl
          | some n => have : ¬ (T.data.toList.length ≤ 10 ∧ n ≤ 4294967295) := (by omega); simp only [this]; rfl
        · rw [if_neg h]
          cases numF 10 T.data.toList 0 with
          | none => rfl
          | some n =>
            by_cases hn : n ≤ 4294967295
            · have : T.data.toList.length ≤ 10 ∧ n ≤ 4294967295 := ⟨by omega, hn⟩
              simp only [this]; simp
            · have : ¬ (T.data.toList.length ≤ 10 ∧ n ≤ 4294967295) := fun h => hn h.2
              simp [hn]
      rw [this]
      rfl
    · intro s hs
      unfold signOf at hs
      rw [if_neg (show ¬ (2 : Nat) = 1 by decide), if_pos (show (2 : Nat) = 2 from rfl)] at hs
      unfold halfR
      cases hn : numF 10 T.data.toList 0 with
      | none => rw [hn] at hs; cases hs
      | some n =>
        rw [hn] at hs
        simp only at hs
        split at hs
        · rename_i h
          rw [if_neg (by omega)]
          exact Option.some.inj hs
        · cases hs
  · refine (sign_3 T w hT).mono ?_
    rintro e w' ⟨rfl, hE⟩
    refine ⟨(3, T.data.toList, 0), ?_, ?_, hE⟩
    · rw [sgV, txt_data]
      cases h : isMarkL T.data.toList <;> simp [signOf, h]
    · intro s hs
      cases h : isMarkL T.data.toList
      · simp [signOf, h] at hs
      · simp [signOf, h] at hs; exact hs

end Go.Proofs.YtojaohdmfahpmaaGreatDoor
