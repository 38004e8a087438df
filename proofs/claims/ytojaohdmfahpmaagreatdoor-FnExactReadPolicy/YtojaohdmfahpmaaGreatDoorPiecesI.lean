/- What impl's piecesOf answers of a text: pieces that tell its signs. -/
import Derived.Test.YtojaohdmfahpmaaGreatDoorIterLaw
import Derived.Deep.AppendLies
namespace Go.Proofs.YtojaohdmfahpmaaGreatDoor
open Go.RowKit
set_option linter.unusedVariables false

/-- The step of a rune that is a byte. -/
theorem go_low {l : List UInt8} {P : List (Nat × List UInt8)} {f k a : Nat} {b : UInt8} (h : PS8 l P f k a) (hb : l[a]? = some b) (h128 : b.toNat < 128) :
    (goB k (txt (cutL l f a)) (b.toNat : Int) = true → PS8 l P f k (a + 1)) ∧ (goB k (txt (cutL l f a)) (b.toNat : Int) = false → PS8 l (P ++ [(k, cutL l f a)]) a (kindB b) (a + 1)) := by
  have e : (txt (cutL l f a) ++ Utf8.encode (b.toNat : Int)).data.toList = cutL l f a ++ [b] := by
    have h1 := enc_low h128
    simp [txt, h1]
  unfold goB
  rw [kindR_byte, e]
  constructor
  · intro hg
    simp only [Bool.and_eq_true, decide_eq_true_eq, Bool.or_eq_true, Bool.not_eq_true', decide_eq_false_iff_not] at hg
    exact h.more hb h128 hg.1 fun h3 => by rcases hg.2 with h' | h'; exact absurd h3 h'; exact h'
  · intro hg
    refine h.next hb ?_ (Nat.le_refl _) (fun _ => rfl)
    by_cases hk : kindB b = k
    · right
      by_cases h3 : k = 3
      · exact ⟨h3, by simpa [hk, h3] using hg⟩
      · simp [hk, h3] at hg
    · exact .inl hk

/-- The step of any other rune. -/
theorem go_high {l : List UInt8} {P : List (Nat × List UInt8)} {f k a : Nat} {b : UInt8} {r : Int} {d : Nat} (h : PS8 l P f k a) (hb : l[a]? = some b) (h128 : 128 ≤ b.toNat) (hr : 128 ≤ r) (hd : 1 ≤ d) :
    goB k (txt (cutL l f a)) r = false ∧ kindR r = kindB b ∧ PS8 l (P ++ [(k, cutL l f a)]) a (kindB b) (a + d) := by
  have hkb := kindB_high h128
  obtain ⟨ha, hba⟩ := List.getElem?_eq_some_iff.1 hb
  have hm : k = 3 → isMarkL (cutL l f a ++ [b]) = false := by
    intro _
    cases hc : isMarkL (cutL l f a ++ [b])
    · rfl
    · exfalso
      have hsh := isMarkL_short hc
      cases hcut : cutL l f a with
      | nil => rw [hcut] at hc; have := isMarkL_head hc; omega
      | cons x t =>
        rw [hcut] at hc hsh
        cases t with
        | nil => have := (isMarkL_second hc).1; omega
        | cons y u => simp at hsh
  refine ⟨?_, ?_, h.next hb ?_ hd (fun h' => by omega)⟩
  · unfold goB
    rw [kindR_high hr]
    by_cases hk : (3 : Nat) = k
    · subst hk
      obtain ⟨x, y, t, he, hx⟩ := enc_high hr
      have e : (txt (cutL l f a) ++ Utf8.encode r).data.toList = cutL l f a ++ (x :: y :: t) := by simp [txt, he]
      rw [e]
      have : isMarkL (cutL l f a ++ (x :: y :: t)) = false := by
        cases hc : isMarkL (cutL l f a ++ (x :: y :: t))
        · rfl
        · exfalso
          have hsh := isMarkL_short hc
          cases hcut : cutL l f a with
          | nil => rw [hcut] at hc; have := isMarkL_head hc; omega
          | cons z u => rw [hcut] at hsh; simp at hsh; omega
      simp [this]
    · simp [hk]
  · rw [kindR_high hr, hkb]
  · by_cases hk : kindB b = k
    · exact .inr ⟨by omega, hm (by omega)⟩
    · exact .inl hk

/-- Both steps in one: what goesOn says, and the state behind it. -/
theorem go_step8 (s : ByteArray) {P : List (Nat × List UInt8)} {f k a : Nat} (ha : a < s.size) (h : PS8 s.data.toList P f k a) :
    ∃ (z : Bool) (r : Int) (d q : Nat), Utf8.decode s a = (r.toNat, d) ∧ ((Utf8.decode s a).1 : Int) = r ∧ (Utf8.decode s a).2 = d ∧ 1 ≤ d ∧ goB k (s.extract f a) r = z ∧ kindR r = q ∧ q ≤ 3 ∧
      (z = true → PS8 s.data.toList P f k (a + d)) ∧ (z = false → PS8 s.data.toList (P ++ [(k, cutL s.data.toList f a)]) a q (a + d)) := by
  have hl : a < s.data.toList.length := by simpa using ha
  have hb : s.data.toList[a]? = some s[a] := by rw [List.getElem?_eq_getElem hl]; rfl
  rw [cutB]
  by_cases h128 : s[a].toNat < 128
  · have hd := decode_ascii s a ha h128
    obtain ⟨h1, h2⟩ := go_low h hb h128
    refine ⟨_, (s[a].toNat : Int), 1, _, by rw [hd]; rfl, by rw [hd], by rw [hd], Nat.le_refl _, rfl, kindR_byte _, kindB_le _, h1, h2⟩
  · have hd := decode_high s a ha (by omega)
    obtain ⟨h1, h2, h3⟩ := go_high (r := ((Utf8.decode s a).1 : Int)) (d := (Utf8.decode s a).2) h hb (by omega) (by omega) hd.2
    refine ⟨_, ((Utf8.decode s a).1 : Int), (Utf8.decode s a).2, _, by simp, rfl, rfl, hd.2, h1, h2, kindB_le _, (fun h => by cases h), fun _ => h3⟩

theorem own8_grown {w w' : World} {B e size k : Nat} {v : Value} {n : Nat} {xs : List Value} (h : w.ownsRow B e size v n xs) (hg : w.grownBy w' (some k)) (hk : k < B) : w'.ownsRow B e size v n xs := by
  refine ⟨h.1, ?_⟩
  rcases h.2 with hn | ⟨g, cap, cur, rfl, hgb, hh, rest⟩
  · exact .inl hn
  · exact .inr ⟨g, cap, cur, rfl, hgb, (hg.block g (Array.getElem?_eq_some_iff.1 hh).1 (by simp; omega)).trans hh, rest⟩

theorem own8_base {w : World} {B B' e size : Nat} {v : Value} {n : Nat} {xs : List Value} (h : w.ownsRow B e size v n xs) (hB : B' ≤ B) : w.ownsRow B' e size v n xs := by
  refine ⟨h.1, ?_⟩
  rcases h.2 with hn | ⟨g, cap, cur, rfl, hgb, rest⟩
  · exact .inl hn
  · exact .inr ⟨g, cap, cur, rfl, by omega, rest⟩

theorem iterPos_at {w : World} {k : Nat} {s : ByteArray} {p : Nat} (h : w.heap[k]? = some (.stringIter s p)) : w.iterPos k = p := by
  unfold World.iterPos
  rw [h]

set_option maxRecDepth 100000 in
set_option maxHeartbeats 2000000 in
theorem pieces_any (s : ByteArray) (w : World) (hs : s.size ≤ 1200) :
    Calls Tryz.prog 59 #[.string s] w fun e w' => ∃ (v : Value) (P : List (Nat × List UInt8)), e = .returned v ∧ w'.ownsRow w.heap.size 96 2 v P.length (flatP P) ∧ SG s.data.toList = SP P ∧ (∀ p ∈ P, p.1 ≤ 3 ∧ p.2.length ≤ 1200) ∧ P.length ≤ 1201 ∧ Ext w w' := by
  obtain ⟨i0, hi, hz0, hz1, hz2⟩ := info_parts Tryz.infoP
  have hlen : s.data.toList.length = s.size := by simp
  have HL : Hid (s.data.toList.length = s.size) := hlen
  clear hlen
  go_enter Tryz.func59, Tryz.ntmps59
  go_wp2_with fail
  have hit0 : (w.iter s 0).heap[w.heap.size]? = some (.stringIter s 0) := World.iter_heap w s 0
  have hE0 : Ext w (w.iter s 0) := Ext.one w _
  generalize w.iter s 0 = W0 at hit0 hE0 ⊢
  go_loopw [3, 4, 5] (fun v fv kv wr => ∃ (P : List (Nat × List UInt8)) (f k a : Nat), fv = .int .i64 f ∧ kv = .int .i64 k ∧ f ≤ a ∧ f ≤ s.size ∧ k ≤ 3 ∧ P.length ≤ a ∧ P.length ≤ s.size ∧ wr.heap[w.heap.size]? = some (.stringIter s a) ∧ wr.ownsRow (w.heap.size + 1) 96 2 v P.length (flatP P) ∧ Hid (PS8 s.data.toList P f k a ∧ ∀ p ∈ P, p.1 ≤ 3 ∧ p.2.length ≤ 1200) ∧ Ext w wr) (fun _ _ _ wr => s.size - wr.iterPos w.heap.size)
  case atStart => exact ⟨[], 0, 0, 0, rfl, rfl, by omega, by omega, by omega, by simp, by simp, hit0, World.ownsRow_nil _ _ _ _, ⟨PS8.start _, fun p hp => by cases hp⟩, hE0⟩
  case round =>
    obtain ⟨P, f, k, a, rfl, rfl, hfa, hfs, hk3, hPa, hPs, hit, hown, HP, hE⟩ := hrel
    clear hit0 hE0
    by_cases ha : a < s.size
    · obtain ⟨z, r, d, q, hdec, hr, hd, hd1, hgo, hkr, hq3, hT, hF⟩ := go_step8 s ha HP.out.1
      obtain ⟨T, hTT⟩ : ∃ T, T = s.extract f a := ⟨_, rfl⟩
      have hTs : T.size ≤ 1200 := by rw [hTT, ByteArray.size_extract]; omega
      have hTc : T = txt (cutL s.data.toList f a) := by rw [hTT, cutB]
      have hnx : Hid (wr.heap[w.heap.size]? = some (.stringIter s a)) := hit
      have HI0 : Hid (wr.iterPos w.heap.size = a) := iterPos_at hit
      have HG : Hid (∀ w : World, Calls Tryz.prog 99 #[.agg #[.int .i64 (k : Int), .string T], .int .i32 r] w fun e w' => e = .returned (.bool z) ∧ Ext w w') := fun w => by
        have := goesOn_any k T r w (by omega) hk3 (enc_size r)
        rw [hTT, hgo, ← hTT] at this
        exact this
      have HD : Hid (((Utf8.decode s a).1 : Int) = r ∧ (Utf8.decode s a).2 = d) := ⟨hr, hd⟩
      have HQ : Hid (∀ w : World, Calls Tryz.prog 100 #[.int .i32 r] w fun e w' => e = .returned (.int .i64 (q : Int)) ∧ w = w') := fun w => by
        have := runeKind_any r w
        rw [hkr] at this
        exact this
      have HS : Hid ((z = true → PS8 s.data.toList P f k (a + d)) ∧ (z = false → PS8 s.data.toList (P ++ [(k, cutL s.data.toList f a)]) a q (a + d))) := ⟨hT, hF⟩
      have HC : Hid (T = txt (cutL s.data.toList f a) ∧ (cutL s.data.toList f a).length ≤ 1200) := ⟨hTc, by unfold cutL; simp; have := HL.out; omega⟩
      have hex : s.extract f a = T := hTT.symm
      clear hdec hr hd hgo hkr hT hF hTT hTc hit
      have ha' : a ≤ s.size := by omega
      go_wp2_with (first | (refine wpList_next_on _ rfl (.tmp 10) rfl w.heap.size a s rfl hnx.out ha ?_; intro w1 hit1 hgr1; rw [HD.out.1]; rw [HD.out.2] at hit1; have own1 := own8_grown hown hgr1 (Nat.lt_succ_self _); have E1 : Hid (Ext w w1) := Below.grown hE hgr1 hE.size (fun j hj => by cases hj; exact Nat.le_refl _); have HI1 : Hid (w1.heap[w.heap.size]? = some (.stringIter s (a + d))) := hit1; have HO1 : Hid (w1.ownsRow (w.heap.size + 1) 96 2 u3 P.length (flatP P)) := own1; clear hit1 hgr1 own1 hown hE) | (rw [hex]))
      refine (HG.out _).mono ?_
      rintro e w2 ⟨rfl, e2⟩
      have hs1 : w.heap.size < w1.heap.size := (Array.getElem?_eq_some_iff.1 HI1.out).1
      have hx2 : Ext w1 w2 := (Ext.one _ _).trans e2
      have HI2 : Hid (w2.heap[w.heap.size]? = some (.stringIter s (a + d))) := (hx2.block _ hs1).trans HI1.out
      have HO2 : Hid (w2.ownsRow (w.heap.size + 1) 96 2 u3 P.length (flatP P)) := own_below HO1.out hx2
      have E2 : Hid (Ext w w2) := E1.out.trans hx2
      have c2 := (CellsAt.new w1 [.int .i64 (k : Int), .string T] 96).step e2
      obtain ⟨q0, q1⟩ := (⟨c2.2 0 _ rfl, c2.2 1 _ rfl⟩ : _ ∧ _)
      have hs2 : w.heap.size + 1 ≤ w2.heap.size := by have := hx2.size; omega
      clear e2 hx2 c2 HI1 HO1 E1 HG hnx
      cases z with
      | true =>
        have HN : Hid (PS8 s.data.toList P f k (a + d)) := HS.out.1 rfl
        clear HS HQ HC
        go_wp2
        go_roundw
        case rel => exact ⟨P, f, k, a + d, rfl, rfl, by omega, hfs, hk3, by omega, hPs, HI2.out, HO2.out, ⟨HN.out, HP.out.2⟩, E2.out⟩
        case measure => rw [iterPos_at HI2.out, HI0.out]; omega
      | false =>
        have HN : Hid (PS8 s.data.toList (P ++ [(k, cutL s.data.toList f a)]) a q (a + d)) := HS.out.2 rfl
        clear HS
        have hown2 := HO2.out
        clear HO2
        go_wp2_with (at_builtin; refine wpList_append_own _ rfl _ _ 93 rfl (w.heap.size + 1) 96 i0 (.agg #[.int .i64 0, .string ⟨#[]⟩]) 2 24 Tryz.underlying93 hi hz0 hz1 hz2 rfl (by decide) _ P.length _ rfl (hown2.alloc _) ⟨w2.heap.size, 0, none⟩ 1 1 [.int .i64 (k : Int), .string T] rfl rfl ?c1 ?c2 ?c3 ?c4 ?c5 ?_)
        case c1 =>
          intro j u hu
          have := (CellsAt.new w2 [.int .i64 (k : Int), .string T] 96).2 j u hu
          rw [Addr.add_lit, Nat.zero_add]
          exact this
        case c2 => intro u hu; simp at hu; rcases hu with rfl | rfl <;> rfl
        case c3 => unfold maxLen; omega
        case c4 => omega
        case c5 => simp; omega
        · intro v' w3 hown3 hgrow _
          have hown3' : Hid (w3.ownsRow (w.heap.size + 1) 96 2 v' (P ++ [(k, cutL s.data.toList f a)]).length (flatP (P ++ [(k, cutL s.data.toList f a)]))) := by
            have e : flatP P ++ [.int .i64 (k : Int), .string T] = flatP (P ++ [(k, cutL s.data.toList f a)]) := by rw [HC.out.1]; exact flatP_push _ _ _
            rw [e] at hown3
            rw [List.length_append]
            exact hown3
          have E3 : Hid (Ext w w3) := Below.grown (E2.out.alloc _) hgrow (by simp; omega) (fun x hx => by have := (hown2.lt x hx).1; omega)
          have HI3 : Hid (w3.heap[w.heap.size]? = some (.stringIter s (a + d))) := by
            refine (hgrow.block _ (by simp; omega) ?_).trans ((Below.heap_alloc _ _ _ (by omega)).trans HI2.out)
            intro e
            have := (hown2.lt _ e.symm).1
            omega
          clear hgrow hown2 hown3 E2 HI2 q0 q1
          go_wp2_with fail
          refine (HQ.out _).mono ?_
          rintro e w' ⟨rfl, rfl⟩
          go_wp2
          go_roundw
          case rel =>
            refine ⟨P ++ [(k, cutL s.data.toList f a)], a, q, a + d, rfl, rfl, by omega, by omega, hq3, by simp; omega, by simp; omega, HI3.out, hown3'.out, ⟨HN.out, fun p hp => ?_⟩, E3.out⟩
            rw [List.mem_append] at hp
            rcases hp with hp | hp
            · exact HP.out.2 p hp
            · simp at hp
              rw [hp]
              exact ⟨hk3, HC.out.2⟩
          case measure => rw [iterPos_at HI3.out, HI0.out]; omega
    · have HD : Hid (SG s.data.toList = SP (P ++ [(k, s.data.toList.drop f)])) := HP.out.1.done (by have := HL.out; omega)
      obtain ⟨T, hTT⟩ : ∃ T, T = s.extract f s.size := ⟨_, rfl⟩
      have HC : Hid (T = txt (s.data.toList.drop f) ∧ (s.data.toList.drop f).length ≤ 1200) := by
        refine ⟨?_, by simp; have := HL.out; omega⟩
        rw [hTT, cutB]
        congr 1
        unfold cutL
        rw [List.take_of_length_le (by simp)]
      have hex : s.extract f s.size = T := hTT.symm
      clear hTT
      have hs2 : w.heap.size < wr.heap.size := (Array.getElem?_eq_some_iff.1 hit).1
      go_wp2_with (first | (refine wpList_next_off _ rfl (.tmp 10) rfl w.heap.size a s rfl hit ha ?_) | (rw [hex]) | (at_builtin; refine wpList_append_own _ rfl _ _ 93 rfl (w.heap.size + 1) 96 i0 (.agg #[.int .i64 0, .string ⟨#[]⟩]) 2 24 Tryz.underlying93 hi hz0 hz1 hz2 rfl (by decide) _ P.length _ rfl (hown.alloc _) ⟨wr.heap.size, 0, none⟩ 1 1 [.int .i64 (k : Int), .string T] rfl rfl ?c1 ?c2 ?c3 ?c4 ?c5 ?_))
      case c1 =>
        intro j u hu
        have := (CellsAt.new wr [.int .i64 (k : Int), .string T] 96).2 j u hu
        rw [Addr.add_lit, Nat.zero_add]
        exact this
      case c2 => intro u hu; simp at hu; rcases hu with rfl | rfl <;> rfl
      case c3 => unfold maxLen; omega
      case c4 => omega
      case c5 => simp; omega
      · intro v' w3 hown3 hgrow _
        have hown3' : Hid (w3.ownsRow w.heap.size 96 2 v' (P ++ [(k, s.data.toList.drop f)]).length (flatP (P ++ [(k, s.data.toList.drop f)]))) := by
          have e : flatP P ++ [.int .i64 (k : Int), .string T] = flatP (P ++ [(k, s.data.toList.drop f)]) := by rw [HC.out.1]; exact flatP_push _ _ _
          rw [e] at hown3
          rw [List.length_append]
          exact own8_base hown3 (Nat.le_succ _)
        have E3 : Hid (Ext w w3) := Below.grown (hE.alloc _) hgrow (by simp; omega) (fun x hx => by have := (hown.lt x hx).1; omega)
        clear hgrow hown hown3 hE hit
        go_wp2
        go_ret
        refine ⟨v', P ++ [(k, s.data.toList.drop f)], rfl, hown3'.out, HD.out, fun p hp => ?_, by simp; omega, E3.out⟩
        rw [List.mem_append] at hp
        rcases hp with hp | hp
        · exact HP.out.2 p hp
        · simp at hp
          rw [hp]
          exact ⟨hk3, HC.out.2⟩

end Go.Proofs.YtojaohdmfahpmaaGreatDoor
