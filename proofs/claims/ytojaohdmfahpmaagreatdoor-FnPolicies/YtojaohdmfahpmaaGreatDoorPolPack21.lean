/- How many signs a text has: no more than it has bytes. -/
import Derived.Test.YtojaohdmfahpmaaGreatDoorPolPack20
import Derived.Laws.RangeAny
import Derived.Maps.Own
import Derived.Deep.AppendLies
import Derived.Deep.RegionHeld3
/- A range over a text, round by round, whatever else memory has got. -/
namespace Go.Proofs.YtojaohdmfahpmaaGreatDoor
open Go.RowKit
set_option linter.unusedVariables false

def setIter (w : World) (k : Nat) (s : ByteArray) (p : Nat) : World := { w with heap := w.heap.setIfInBounds k (.stringIter s p) }

theorem setIter_heap {w : World} {k : Nat} (hk : k < w.heap.size) (s : ByteArray) (p : Nat) : (setIter w k s p).heap[k]? = some (.stringIter s p) := by
  unfold setIter
  simp [hk]

theorem setIter_grown (w : World) (k : Nat) (s : ByteArray) (p : Nat) : w.grownBy (setIter w k s p) (some k) :=
  ⟨rfl, rfl, rfl, by unfold setIter; simp, fun i hi hne => by unfold setIter; simp only [Array.getElem?_setIfInBounds]; rw [if_neg (fun e => hne (by rw [e]))]⟩

theorem run_next_on {P : Program} (w : World) (k : Nat) (s : ByteArray) (pos : Nat) (ty : TypeId) (hk : w.heap[k]? = some (.stringIter s pos)) (h : pos < s.size) :
    (Instr.next (.pointer (some ⟨k, 0, none⟩)) true ty).run P w = .ok (.tuple #[.bool true, .int .i64 pos, .int .i32 (Utf8.decode s pos).1]) (setIter w k s (pos + (Utf8.decode s pos).2)) := by
  simp only [Instr.next, getObj, setObj, Sem.run_bind, Sem.run, hk, Result.andThen, h, if_true]
  simp [goInt, setIter]

theorem run_next_off {P : Program} (w : World) (k : Nat) (s : ByteArray) (pos : Nat) (ty : TypeId) (hk : w.heap[k]? = some (.stringIter s pos)) (h : ¬ pos < s.size) :
    (Instr.next (.pointer (some ⟨k, 0, none⟩)) true ty).run P w = .ok (.tuple #[.bool false]) w := by
  simp [Instr.next, getObj, Sem.run, hk, h]

theorem wpList_next_on {P : Program} (w : World) {ops : Array Oper} {rest : List Oper} {o : Oper} {a : Act} {Q : Exit → Act → World → Prop}
    (hg : o.guard = none) (x : Operand) (hop : o.op = Op.next x true) (k pos : Nat) (s : ByteArray) (hx : a.eval x = .pointer (some ⟨k, 0, none⟩)) (hk : w.heap[k]? = some (.stringIter s pos)) (h : pos < s.size)
    (hK : ∀ w', w'.heap[k]? = some (.stringIter s (pos + (Utf8.decode s pos).2)) → w.grownBy w' (some k) → wpList P ops Q rest (a.put o.dst (.tuple #[.bool true, .int .i64 pos, .int .i32 (Utf8.decode s pos).1])) w') :
    wpList P ops Q (o :: rest) a w := by
  refine wpList_plain hg fun K' hK' => ?_
  have hrun := run_next_on (P := P) w k s pos o.type hk h
  unfold Oper.wp
  simp [execOp, hop, hx, hrun, Result.andThen]
  exact hK' _ _ (hK _ (setIter_heap (Array.getElem?_eq_some_iff.1 hk).1 _ _) (setIter_grown _ _ _ _))

theorem wpList_next_off {P : Program} (w : World) {ops : Array Oper} {rest : List Oper} {o : Oper} {a : Act} {Q : Exit → Act → World → Prop}
    (hg : o.guard = none) (x : Operand) (hop : o.op = Op.next x true) (k pos : Nat) (s : ByteArray) (hx : a.eval x = .pointer (some ⟨k, 0, none⟩)) (hk : w.heap[k]? = some (.stringIter s pos)) (h : ¬ pos < s.size)
    (hK : wpList P ops Q rest (a.put o.dst (.tuple #[.bool false])) w) :
    wpList P ops Q (o :: rest) a w := by
  refine wpList_plain hg fun K' hK' => ?_
  have hrun := run_next_off (P := P) w k s pos o.type hk h
  unfold Oper.wp
  simp [execOp, hop, hx, hrun, Result.andThen]
  exact hK' _ _ hK

/-- The cells of pieces in a row. -/
def flatP (ps : List (Nat × List UInt8)) : List Value := ps.flatMap fun p => [.int .i64 (p.1 : Int), .string (txt p.2)]

theorem flatP_push (ps : List (Nat × List UInt8)) (k : Nat) (t : List UInt8) : flatP ps ++ [.int .i64 (k : Int), .string (txt t)] = flatP (ps ++ [(k, t)]) := by simp [flatP]

theorem flatP_at : ∀ (ps : List (Nat × List UInt8)) (j : Nat), j < ps.length → (flatP ps)[j * 2]? = some (.int .i64 ((ps.getD j (0, [])).1 : Int)) ∧ (flatP ps)[j * 2 + 1]? = some (.string (txt (ps.getD j (0, [])).2))
  | p :: ps, 0, _ => by simp [flatP]
  | p :: ps, j + 1, h => by
    have ih := flatP_at ps j (by simpa using h)
    have e : ∀ i, (flatP (p :: ps))[(j + 1) * 2 + i]? = (flatP ps)[j * 2 + i]? := fun i => by
      have hf : flatP (p :: ps) = [.int .i64 (p.1 : Int), .string (txt p.2)] ++ flatP ps := by simp [flatP]
      rw [hf, List.getElem?_append_right (by simp; omega)]
      congr 1
      simp
      omega
    rw [e 1, ← Nat.add_zero ((j + 1) * 2), e 0]
    exact ih

theorem Tryz.infoP : (Tryz.prog.info? 96).map (fun i => (i.zero, i.size, i.bytes)) = some (some (.agg #[.int .i64 0, .string ⟨#[]⟩]), 2, 24) := by kernel_rfl

theorem cutB (s : ByteArray) (f a : Nat) : s.extract f a = txt (cutL s.data.toList f a) := by
  apply ByteArray.ext
  apply Array.toList_inj.1
  simp [cutL, txt, ByteArray.data_extract]

theorem enc_low {r : Nat} (h : r < 128) : (Utf8.encode (r : Int)).data.toList = [UInt8.ofNat r] := by
  have hv : Utf8.valid (r : Int) = true := by unfold Utf8.valid; simp; omega
  unfold Utf8.encode
  simp only [hv, if_true]
  rw [if_pos (by omega)]
  simp

theorem enc_size (r : Int) : (Utf8.encode r).size ≤ 4 := by
  obtain ⟨c, hc⟩ : ∃ c : Nat, c = (if Utf8.valid r = true then r.toNat else Utf8.runeError) := ⟨_, rfl⟩
  unfold Utf8.encode
  simp only [← hc]
  split
  · show 1 ≤ 4; omega
  · split
    · show 2 ≤ 4; omega
    · split
      · show 3 ≤ 4; omega
      · show 4 ≤ 4; omega

theorem enc_high {r : Int} (h : 128 ≤ r) : ∃ b c t, (Utf8.encode r).data.toList = b :: c :: t ∧ 128 ≤ b.toNat := by
  obtain ⟨c, hc, hcl⟩ : ∃ c : Nat, c = (if Utf8.valid r = true then r.toNat else Utf8.runeError) ∧ 128 ≤ c ∧ c < 1114112 := by
    refine ⟨_, rfl, ?_⟩
    by_cases hv : Utf8.valid r = true
    · rw [if_pos hv]
      unfold Utf8.valid at hv
      simp at hv
      omega
    · rw [if_neg hv]
      decide
  unfold Utf8.encode
  simp only [← hc]
  rw [if_neg (by omega)]
  split
  · exact ⟨_, _, _, rfl, by simp; omega⟩
  · split
    · exact ⟨_, _, _, rfl, by simp; omega⟩
    · exact ⟨_, _, _, rfl, by simp; omega⟩

/-- The step of a rune that is a byte. -/
theorem go_low {l : List UInt8} {P : List (Nat × List UInt8)} {f k a : Nat} {b : UInt8} (h : PS8 l P f k a) (hb : l[a]? = some b) (h128 : b.toNat < 128) :
    (goB k (txt (cutL l f a)) (b.toNat : Int) = true → PS8 l P f k (a + 1)) ∧ (goB k (txt (cutL l f a)) (b.toNat : Int) = false → PS8 l (P ++ [(k, cutL l f a)]) a (kindB b) (a + 1)) := by
  have e : (txt (cutL l f a) ++ Utf8.encode (b.toNat : Int)).data.toList = cutL l f a ++ [b] := by
    have h1 := enc_low h128
    simp [txt, h1]
  unfold goB
  rw [kindR_byte, e]
  constructor
  · intro hg
    simp only [Bool.and_eq_true, decide_eq_true_eq, Bool.or_eq_true, Bool.not_eq_true', decide_eq_false_iff_not] at hg
    exact h.more hb h128 hg.1 fun h3 => by rcases hg.2 with h' | h'; exact absurd h3 h'; exact h'
  · intro hg
    refine h.next hb ?_ (Nat.le_refl _) (fun _ => rfl)
    by_cases hk : kindB b = k
    · right
      by_cases h3 : k = 3
      · exact ⟨h3, by simpa [hk, h3] using hg⟩
      · simp [hk, h3] at hg
    · exact .inl hk

/-- The step of any other rune. -/
theorem go_high {l : List UInt8} {P : List (Nat × List UInt8)} {f k a : Nat} {b : UInt8} {r : Int} {d : Nat} (h : PS8 l P f k a) (hb : l[a]? = some b) (h128 : 128 ≤ b.toNat) (hr : 128 ≤ r) (hd : 1 ≤ d) :
    goB k (txt (cutL l f a)) r = false ∧ kindR r = kindB b ∧ PS8 l (P ++ [(k, cutL l f a)]) a (kindB b) (a + d) := by
  have hkb := kindB_high h128
  obtain ⟨ha, hba⟩ := List.getElem?_eq_some_iff.1 hb
  have hm : k = 3 → isMarkL (cutL l f a ++ [b]) = false := by
    intro _
    cases hc : isMarkL (cutL l f a ++ [b])
    · rfl
    · exfalso
      have hsh := isMarkL_short hc
      cases hcut : cutL l f a with
      | nil => rw [hcut] at hc; have := isMarkL_head hc; omega
      | cons x t =>
        rw [hcut] at hc hsh
        cases t with
        | nil => have := (isMarkL_second hc).1; omega
        | cons y u => simp at hsh
  refine ⟨?_, ?_, h.next hb ?_ hd (fun h' => by omega)⟩
  · unfold goB
    rw [kindR_high hr]
    by_cases hk : (3 : Nat) = k
    · subst hk
      obtain ⟨x, y, t, he, hx⟩ := enc_high hr
      have e : (txt (cutL l f a) ++ Utf8.encode r).data.toList = cutL l f a ++ (x :: y :: t) := by simp [txt, he]
      rw [e]
      have : isMarkL (cutL l f a ++ (x :: y :: t)) = false := by
        cases hc : isMarkL (cutL l f a ++ (x :: y :: t))
        · rfl
        · exfalso
          have hsh := isMarkL_short hc
          cases hcut : cutL l f a with
          | nil => rw [hcut] at hc; have := isMarkL_head hc; omega
          | cons z u => rw [hcut] at hsh; simp at hsh; omega
      simp [this]
    · simp [hk]
  · rw [kindR_high hr, hkb]
  · by_cases hk : kindB b = k
    · exact .inr ⟨by omega, hm (by omega)⟩
    · exact .inl hk

/-- Both steps in one: what goesOn says, and the state behind it. -/
theorem go_step8 (s : ByteArray) {P : List (Nat × List UInt8)} {f k a : Nat} (ha : a < s.size) (h : PS8 s.data.toList P f k a) :
    ∃ (z : Bool) (r : Int) (d q : Nat), Utf8.decode s a = (r.toNat, d) ∧ ((Utf8.decode s a).1 : Int) = r ∧ (Utf8.decode s a).2 = d ∧ 1 ≤ d ∧ goB k (s.extract f a) r = z ∧ kindR r = q ∧ q ≤ 3 ∧
      (z = true → PS8 s.data.toList P f k (a + d)) ∧ (z = false → PS8 s.data.toList (P ++ [(k, cutL s.data.toList f a)]) a q (a + d)) := by
  have hl : a < s.data.toList.length := by simpa using ha
  have hb : s.data.toList[a]? = some s[a] := by rw [List.getElem?_eq_getElem hl]; rfl
  rw [cutB]
  by_cases h128 : s[a].toNat < 128
  · have hd := decode_ascii s a ha h128
    obtain ⟨h1, h2⟩ := go_low h hb h128
    refine ⟨_, (s[a].toNat : Int), 1, _, by rw [hd]; rfl, by rw [hd], by rw [hd], Nat.le_refl _, rfl, kindR_byte _, kindB_le _, h1, h2⟩
  · have hd := decode_high s a ha (by omega)
    obtain ⟨h1, h2, h3⟩ := go_high (r := ((Utf8.decode s a).1 : Int)) (d := (Utf8.decode s a).2) h hb (by omega) (by omega) hd.2
    refine ⟨_, ((Utf8.decode s a).1 : Int), (Utf8.decode s a).2, _, by simp, rfl, rfl, hd.2, h1, h2, kindB_le _, (fun h => by cases h), fun _ => h3⟩

theorem own8_grown {w w' : World} {B e size k : Nat} {v : Value} {n : Nat} {xs : List Value} (h : w.ownsRow B e size v n xs) (hg : w.grownBy w' (some k)) (hk : k < B) : w'.ownsRow B e size v n xs := by
  refine ⟨h.1, ?_⟩
  rcases h.2 with hn | ⟨g, cap, cur, rfl, hgb, hh, rest⟩
  · exact .inl hn
  · exact .inr ⟨g, cap, cur, rfl, hgb, (hg.block g (Array.getElem?_eq_some_iff.1 hh).1 (by simp; omega)).trans hh, rest⟩

theorem own8_base {w : World} {B B' e size : Nat} {v : Value} {n : Nat} {xs : List Value} (h : w.ownsRow B e size v n xs) (hB : B' ≤ B) : w.ownsRow B' e size v n xs := by
  refine ⟨h.1, ?_⟩
  rcases h.2 with hn | ⟨g, cap, cur, rfl, hgb, rest⟩
  · exact .inl hn
  · exact .inr ⟨g, cap, cur, rfl, by omega, rest⟩

theorem iterPos_at {w : World} {k : Nat} {s : ByteArray} {p : Nat} (h : w.heap[k]? = some (.stringIter s p)) : w.iterPos k = p := by
  unfold World.iterPos
  rw [h]

set_option maxRecDepth 100000 in
set_option maxHeartbeats 2000000 in
theorem pieces_any (s : ByteArray) (w : World) (hs : s.size ≤ 1200) :
    Calls Tryz.prog 59 #[.string s] w fun e w' => ∃ (v : Value) (P : List (Nat × List UInt8)), e = .returned v ∧ w'.ownsRow w.heap.size 96 2 v P.length (flatP P) ∧ SG s.data.toList = SP P ∧ (∀ p ∈ P, p.1 ≤ 3 ∧ p.2.length ≤ 1200) ∧ P.length ≤ 1201 ∧ Ext w w' := by
  obtain ⟨i0, hi, hz0, hz1, hz2⟩ := info_parts Tryz.infoP
  have hlen : s.data.toList.length = s.size := by simp
  have HL : Hid (s.data.toList.length = s.size) := hlen
  clear hlen
  go_enter Tryz.func59, Tryz.ntmps59
  go_wp2_with fail
  have hit0 : (w.iter s 0).heap[w.heap.size]? = some (.stringIter s 0) := World.iter_heap w s 0
  have hE0 : Ext w (w.iter s 0) := Ext.one w _
  generalize w.iter s 0 = W0 at hit0 hE0 ⊢
  go_loopw [3, 4, 5] (fun v fv kv wr => ∃ (P : List (Nat × List UInt8)) (f k a : Nat), fv = .int .i64 f ∧ kv = .int .i64 k ∧ f ≤ a ∧ f ≤ s.size ∧ k ≤ 3 ∧ P.length ≤ a ∧ P.length ≤ s.size ∧ wr.heap[w.heap.size]? = some (.stringIter s a) ∧ wr.ownsRow (w.heap.size + 1) 96 2 v P.length (flatP P) ∧ Hid (PS8 s.data.toList P f k a ∧ ∀ p ∈ P, p.1 ≤ 3 ∧ p.2.length ≤ 1200) ∧ Ext w wr) (fun _ _ _ wr => s.size - wr.iterPos w.heap.size)
  case atStart => exact ⟨[], 0, 0, 0, rfl, rfl, by omega, by omega, by omega, by simp, by simp, hit0, World.ownsRow_nil _ _ _ _, ⟨PS8.start _, fun p hp => by cases hp⟩, hE0⟩
  case round =>
    obtain ⟨P, f, k, a, rfl, rfl, hfa, hfs, hk3, hPa, hPs, hit, hown, HP, hE⟩ := hrel
    clear hit0 hE0
    by_cases ha : a < s.size
    · obtain ⟨z, r, d, q, hdec, hr, hd, hd1, hgo, hkr, hq3, hT, hF⟩ := go_step8 s ha HP.out.1
      obtain ⟨T, hTT⟩ : ∃ T, T = s.extract f a := ⟨_, rfl⟩
      have hTs : T.size ≤ 1200 := by rw [hTT, ByteArray.size_extract]; omega
      have hTc : T = txt (cutL s.data.toList f a) := by rw [hTT, cutB]
      have hnx : Hid (wr.heap[w.heap.size]? = some (.stringIter s a)) := hit
      have HI0 : Hid (wr.iterPos w.heap.size = a) := iterPos_at hit
      have HG : Hid (∀ w : World, Calls Tryz.prog 99 #[.agg #[.int .i64 (k : Int), .string T], .int .i32 r] w fun e w' => e = .returned (.bool z) ∧ Ext w w') := fun w => by
        have := goesOn_any k T r w (by omega) hk3 (enc_size r)
        rw [hTT, hgo, ← hTT] at this
        exact this
      have HD : Hid (((Utf8.decode s a).1 : Int) = r ∧ (Utf8.decode s a).2 = d) := ⟨hr, hd⟩
      have HQ : Hid (∀ w : World, Calls Tryz.prog 100 #[.int .i32 r] w fun e w' => e = .returned (.int .i64 (q : Int)) ∧ w = w') := fun w => by
        have := runeKind_any r w
        rw [hkr] at this
        exact this
      have HS : Hid ((z = true → PS8 s.data.toList P f k (a + d)) ∧ (z = false → PS8 s.data.toList (P ++ [(k, cutL s.data.toList f a)]) a q (a + d))) := ⟨hT, hF⟩
      have HC : Hid (T = txt (cutL s.data.toList f a) ∧ (cutL s.data.toList f a).length ≤ 1200) := ⟨hTc, by unfold cutL; simp; have := HL.out; omega⟩
      have hex : s.extract f a = T := hTT.symm
      clear hdec hr hd hgo hkr hT hF hTT hTc hit
      have ha' : a ≤ s.size := by omega
      go_wp2_with (first | (refine wpList_next_on _ rfl (.tmp 10) rfl w.heap.size a s rfl hnx.out ha ?_; intro w1 hit1 hgr1; rw [HD.out.1]; rw [HD.out.2] at hit1; have own1 := own8_grown hown hgr1 (Nat.lt_succ_self _); have E1 : Hid (Ext w w1) := Below.grown hE hgr1 hE.size (fun j hj => by cases hj; exact Nat.le_refl _); have HI1 : Hid (w1.heap[w.heap.size]? = some (.stringIter s (a + d))) := hit1; have HO1 : Hid (w1.ownsRow (w.heap.size + 1) 96 2 u3 P.length (flatP P)) := own1; clear hit1 hgr1 own1 hown hE) | (rw [hex]))
      refine (HG.out _).mono ?_
      rintro e w2 ⟨rfl, e2⟩
      have hs1 : w.heap.size < w1.heap.size := (Array.getElem?_eq_some_iff.1 HI1.out).1
      have hx2 : Ext w1 w2 := (Ext.one _ _).trans e2
      have HI2 : Hid (w2.heap[w.heap.size]? = some (.stringIter s (a + d))) := (hx2.block _ hs1).trans HI1.out
      have HO2 : Hid (w2.ownsRow (w.heap.size + 1) 96 2 u3 P.length (flatP P)) := own_below HO1.out hx2
      have E2 : Hid (Ext w w2) := E1.out.trans hx2
      have c2 := (CellsAt.new w1 [.int .i64 (k : Int), .string T] 96).step e2
      obtain ⟨q0, q1⟩ := (⟨c2.2 0 _ rfl, c2.2 1 _ rfl⟩ : _ ∧ _)
      have hs2 : w.heap.size + 1 ≤ w2.heap.size := by have := hx2.size; omega
      clear e2 hx2 c2 HI1 HO1 E1 HG hnx
      cases z with
      | true =>
        have HN : Hid (PS8 s.data.toList P f k (a + d)) := HS.out.1 rfl
        clear HS HQ HC
        go_wp2
        go_roundw
        case rel => exact ⟨P, f, k, a + d, rfl, rfl, by omega, hfs, hk3, by omega, hPs, HI2.out, HO2.out, ⟨HN.out, HP.out.2⟩, E2.out⟩
        case measure => rw [iterPos_at HI2.out, HI0.out]; omega
      | false =>
        have HN : Hid (PS8 s.data.toList (P ++ [(k, cutL s.data.toList f a)]) a q (a + d)) := HS.out.2 rfl
        clear HS
        have hown2 := HO2.out
        clear HO2
        go_wp2_with (at_builtin; refine wpList_append_own _ rfl _ _ 93 rfl (w.heap.size + 1) 96 i0 (.agg #[.int .i64 0, .string ⟨#[]⟩]) 2 24 Tryz.underlying93 hi hz0 hz1 hz2 rfl (by decide) _ P.length _ rfl (hown2.alloc _) ⟨w2.heap.size, 0, none⟩ 1 1 [.int .i64 (k : Int), .string T] rfl rfl ?c1 ?c2 ?c3 ?c4 ?c5 ?_)
        case c1 =>
          intro j u hu
          have := (CellsAt.new w2 [.int .i64 (k : Int), .string T] 96).2 j u hu
          rw [Addr.add_lit, Nat.zero_add]
          exact this
        case c2 => intro u hu; simp at hu; rcases hu with rfl | rfl <;> rfl
        case c3 => unfold maxLen; omega
        case c4 => omega
        case c5 => simp; omega
        · intro v' w3 hown3 hgrow _
          have hown3' : Hid (w3.ownsRow (w.heap.size + 1) 96 2 v' (P ++ [(k, cutL s.data.toList f a)]).length (flatP (P ++ [(k, cutL s.data.toList f a)]))) := by
            have e : flatP P ++ [.int .i64 (k : Int), .string T] = flatP (P ++ [(k, cutL s.data.toList f a)]) := by rw [HC.out.1]; exact flatP_push _ _ _
            rw [e] at hown3
            rw [List.length_append]
            exact hown3
          have E3 : Hid (Ext w w3) := Below.grown (E2.out.alloc _) hgrow (by simp; omega) (fun x hx => by have := (hown2.lt x hx).1; omega)
          have HI3 : Hid (w3.heap[w.heap.size]? = some (.stringIter s (a + d))) := by
            refine (hgrow.block _ (by simp; omega) ?_).trans ((Below.heap_alloc _ _ _ (by omega)).trans HI2.out)
            intro e
            have := (hown2.lt _ e.symm).1
            omega
          clear hgrow hown2 hown3 E2 HI2 q0 q1
          go_wp2_with fail
          refine (HQ.out _).mono ?_
          rintro e w' ⟨rfl, rfl⟩
          go_wp2
          go_roundw
          case rel =>
            refine ⟨P ++ [(k, cutL s.data.toList f a)], a, q, a + d, rfl, rfl, by omega, by omega, hq3, by simp; omega, by simp; omega, HI3.out, hown3'.out, ⟨HN.out, fun p hp => ?_⟩, E3.out⟩
            rw [List.mem_append] at hp
            rcases hp with hp | hp
            · exact HP.out.2 p hp
            · simp at hp
              rw [hp]
              exact ⟨hk3, HC.out.2⟩
          case measure => rw [iterPos_at HI3.out, HI0.out]; omega
    · have HD : Hid (SG s.data.toList = SP (P ++ [(k, s.data.toList.drop f)])) := HP.out.1.done (by have := HL.out; omega)
      obtain ⟨T, hTT⟩ : ∃ T, T = s.extract f s.size := ⟨_, rfl⟩
      have HC : Hid (T = txt (s.data.toList.drop f) ∧ (s.data.toList.drop f).length ≤ 1200) := by
        refine ⟨?_, by simp; have := HL.out; omega⟩
        rw [hTT, cutB]
        congr 1
        unfold cutL
        rw [List.take_of_length_le (by simp)]
      have hex : s.extract f s.size = T := hTT.symm
      clear hTT
      have hs2 : w.heap.size < wr.heap.size := (Array.getElem?_eq_some_iff.1 hit).1
      go_wp2_with (first | (refine wpList_next_off _ rfl (.tmp 10) rfl w.heap.size a s rfl hit ha ?_) | (rw [hex]) | (at_builtin; refine wpList_append_own _ rfl _ _ 93 rfl (w.heap.size + 1) 96 i0 (.agg #[.int .i64 0, .string ⟨#[]⟩]) 2 24 Tryz.underlying93 hi hz0 hz1 hz2 rfl (by decide) _ P.length _ rfl (hown.alloc _) ⟨wr.heap.size, 0, none⟩ 1 1 [.int .i64 (k : Int), .string T] rfl rfl ?c1 ?c2 ?c3 ?c4 ?c5 ?_))
      case c1 =>
        intro j u hu
        have := (CellsAt.new wr [.int .i64 (k : Int), .string T] 96).2 j u hu
        rw [Addr.add_lit, Nat.zero_add]
        exact this
      case c2 => intro u hu; simp at hu; rcases hu with rfl | rfl <;> rfl
      case c3 => unfold maxLen; omega
      case c4 => omega
      case c5 => simp; omega
      · intro v' w3 hown3 hgrow _
        have hown3' : Hid (w3.ownsRow w.heap.size 96 2 v' (P ++ [(k, s.data.toList.drop f)]).length (flatP (P ++ [(k, s.data.toList.drop f)]))) := by
          have e : flatP P ++ [.int .i64 (k : Int), .string T] = flatP (P ++ [(k, s.data.toList.drop f)]) := by rw [HC.out.1]; exact flatP_push _ _ _
          rw [e] at hown3
          rw [List.length_append]
          exact own8_base hown3 (Nat.le_succ _)
        have E3 : Hid (Ext w w3) := Below.grown (hE.alloc _) hgrow (by simp; omega) (fun x hx => by have := (hown.lt x hx).1; omega)
        clear hgrow hown hown3 hE hit
        go_wp2
        go_ret
        refine ⟨v', P ++ [(k, s.data.toList.drop f)], rfl, hown3'.out, HD.out, fun p hp => ?_, by simp; omega, E3.out⟩
        rw [List.mem_append] at hp
        rcases hp with hp | hp
        · exact HP.out.2 p hp
        · simp at hp
          rw [hp]
          exact ⟨hk3, HC.out.2⟩

/-- The cells of signs in a row. -/
def sg3 (p : Sg) : List Value := [.int .i64 p.1, .string (txt p.2.1), .int .i64 p.2.2]

def flatG (ps : List Sg) : List Value := ps.flatMap sg3

theorem flatG_push (ps : List Sg) (p : Sg) : flatG ps ++ sg3 p = flatG (ps ++ [p]) := by simp [flatG]

theorem flatG_at : ∀ (ps : List Sg) (j : Nat), j < ps.length → (flatG ps)[j * 3]? = some (.int .i64 (ps.getD j zeroG).1) ∧ (flatG ps)[j * 3 + 1]? = some (.string (txt (ps.getD j zeroG).2.1)) ∧ (flatG ps)[j * 3 + 2]? = some (.int .i64 (ps.getD j zeroG).2.2)
  | p :: ps, 0, _ => by simp [flatG, sg3]
  | p :: ps, j + 1, h => by
    have ih := flatG_at ps j (by simpa using h)
    have e : ∀ i, (flatG (p :: ps))[(j + 1) * 3 + i]? = (flatG ps)[j * 3 + i]? := fun i => by
      have hf : flatG (p :: ps) = sg3 p ++ flatG ps := by simp [flatG]
      rw [hf, List.getElem?_append_right (by simp [sg3]; omega)]
      congr 1
      simp [sg3]
      omega
    rw [e 1, e 2, ← Nat.add_zero ((j + 1) * 3), e 0]
    exact ih

theorem Tryz.infoG : (Tryz.prog.info? 98).map (fun i => (i.zero, i.size, i.bytes)) = some (some (.agg #[.int .i64 0, .string ⟨#[]⟩, .int .i64 0]), 3, 32) := by kernel_rfl

/-- These signs lie in a row of their own, not below B, which may be written. -/
def Own3 (w : World) (B : Nat) (v : Value) (ps : List Sg) : Prop := w.ownsRow B 98 3 v ps.length (flatG ps)

theorem Own3.ext {w w' : World} {B : Nat} {v : Value} {ps : List Sg} (h : Own3 w B v ps) (hE : Ext w w') : Own3 w' B v ps := own_below h hE

theorem Own3.nil (w : World) (B : Nat) : Own3 w B (.slice none 0 0) [] := World.ownsRow_nil _ _ _ _

theorem Own3.lit (w : World) (B : Nat) (hB : B ≤ w.heap.size) : Own3 (w.alloc (.cells #[] 98)) B (.slice (some ⟨w.heap.size, 0, none⟩) 0 0) [] := World.ownsRow_lit (e := 98) (size := 3) w #[] 0 hB (by decide) rfl

/-- A text's signs, or that it has none. -/
def signsR (l : List UInt8) : Option (List Sg) := if 1200 < l.length then none else SG l

theorem own_slice8 {w : World} {B e size : Nat} {v : Value} {n : Nat} {xs : List Value} (h : w.ownsRow B e size v n xs) : ∃ a c, v = .slice a n c ∧ (0 < n → ∃ g, a = some ⟨g, 0, none⟩) := by
  rcases h.2 with ⟨rfl, h0⟩ | ⟨g, cap, _, rfl, _⟩
  · exact ⟨none, 0, by rw [h0], by omega⟩
  · exact ⟨_, _, rfl, fun _ => ⟨g, rfl⟩⟩

theorem SP_take_blank {P : List (Nat × List UInt8)} {k : Nat} {t : List UInt8} {out : List Sg} (h : SP (P.take k) = some out) (hk : P[k]? = some (0, t)) : SP (P.take (k + 1)) = some out := by
  rw [List.take_add_one, hk, SP_append, h]
  simp [SP, behind]

theorem SP_take_some {P : List (Nat × List UInt8)} {k q : Nat} {t : List UInt8} {out : List Sg} {s : Sg} (h : SP (P.take k) = some out) (hk : P[k]? = some (q, t)) (hq : ¬ q = 0) (hs : signOf q t = some s) : SP (P.take (k + 1)) = some (out ++ [s]) := by
  rw [List.take_add_one, hk, SP_append, h]
  simp [SP, behind, hq, hs]

theorem SP_take_none {P : List (Nat × List UInt8)} {k q : Nat} {t : List UInt8} {out : List Sg} (h : SP (P.take k) = some out) (hk : P[k]? = some (q, t)) (hq : ¬ q = 0) (hs : signOf q t = none) : SP P = none := by
  have h1 : SP (P.take (k + 1)) = none := by
    rw [List.take_add_one, hk, SP_append, h]
    simp [SP, behind, hq, hs]
  rw [← List.take_append_drop (k + 1) P, SP_append, h1]
  rfl

set_option maxRecDepth 100000 in
set_option maxHeartbeats 2000000 in
theorem iSigns_any (s : ByteArray) (w : World) :
    Calls Tryz.prog 26 #[.string s] w fun e w' => ∃ v, e = .returned (.tuple #[v, .bool (signsR s.data.toList).isSome]) ∧ Own3 w' w.heap.size v ((signsR s.data.toList).getD []) ∧ Ext w w' := by
  obtain ⟨i0, hi, hz0, hz1, hz2⟩ := info_parts Tryz.infoG
  obtain ⟨r, hr⟩ : ∃ r, r = signsR s.data.toList := ⟨_, rfl⟩
  rw [← hr]
  have hlen : s.data.toList.length = s.size := by simp
  by_cases hbig : 1200 < s.size
  · have HR : Hid (r = none) := by rw [hr]; unfold signsR; rw [if_pos (by omega)]; rfl
    clear hr hlen
    go_enter Tryz.func26, Tryz.ntmps26
    go_wp2
    go_ret2
    exact ⟨_, by rw [HR.out]; rfl, by rw [HR.out]; exact Own3.nil _ _, Ext.refl _⟩
  have HR : Hid (r = SG s.data.toList) := by rw [hr]; unfold signsR; rw [if_neg (by omega)]; rfl
  clear hr hlen
  have hs : s.size ≤ 1200 := by omega
  go_enter Tryz.func26, Tryz.ntmps26
  go_wp2_with fail
  refine (pieces_any s _ hs).mono ?_
  rintro e w1 ⟨vp, P, rfl, hownP, hSG, hall, hPl, e1⟩
  have HS : Hid (r = SP P) := by rw [HR.out, hSG]; rfl
  have HA : Hid (∀ p ∈ P, p.1 ≤ 3 ∧ p.2.length ≤ 1200) := hall
  have HO : Hid (w1.ownsRow w.heap.size 96 2 vp P.length (flatP P)) := hownP
  have E1 : Hid (Ext w w1) := e1
  obtain ⟨ap, cp, rfl, hap⟩ := own_slice8 hownP
  obtain ⟨n, hn⟩ : ∃ n, n = P.length := ⟨_, rfl⟩
  rw [← hn] at hap HO hPl ⊢
  have HN : Hid (n = P.length) := hn
  clear hownP hSG hall e1 hn HR
  go_wp2_with fail
  go_loopw [4, 15] (fun v i wr => ∃ (k : Nat) (out : List Sg), i = .int .i64 k ∧ k ≤ n ∧ out.length ≤ k ∧ Hid (SP (P.take k) = some out) ∧ wr.ownsRow w1.heap.size 98 3 v out.length (flatG out) ∧ Ext w1 wr) (fun _ i _ => n - (intOf i).toNat)
  case atStart => exact ⟨0, [], rfl, by omega, by simp, by simp [Hid, SP], World.ownsRow_nil _ _ _ _, Ext.refl _⟩
  case round =>
    obtain ⟨k, out, rfl, hk, hol, HP, hown, hE⟩ := hrel
    by_cases hlt : k < n
    · have bk : (k : Int) < (n : Int) := by omega
      obtain ⟨g, rfl⟩ := hap (by omega)
      obtain ⟨⟨q, t⟩, hp⟩ : ∃ p, p = P.getD k (0, []) := ⟨_, rfl⟩
      have hkP : k < P.length := by have := HN.out; omega
      have hpk : P[k]? = some (q, t) := by rw [List.getElem?_eq_getElem hkP]; rw [List.getD_eq_getElem?_getD, List.getElem?_eq_getElem hkP] at hp; rw [hp]; rfl
      have hpm := HA.out _ (List.mem_of_getElem? hpk)
      have HT : Hid (P[k]? = some (q, t)) := hpk
      have hof := own_below HO.out hE
      obtain ⟨f0, f1⟩ := flatP_at P k hkP
      rw [← hp] at f0 f1
      have d0 : wr.cell? ⟨g, k * 2, none⟩ = some (.int .i64 (q : Int)) := by
        have := hof.cells (g := g) rfl (k * 2) _ f0
        rwa [Addr.add_lit, Nat.zero_add] at this
      have d1 : wr.cell? ⟨g, k * 2 + 1, none⟩ = some (.string (txt t)) := by
        have := hof.cells (g := g) rfl (k * 2 + 1) _ f1
        rwa [Addr.add_lit, Nat.zero_add] at this
      have hq3 : q ≤ 3 := hpm.1
      obtain ⟨T, hTT⟩ : ∃ T, T = txt t := ⟨_, rfl⟩
      have hTl : T.data.toList = t := by rw [hTT]; simp [txt]
      have hTs : T.size ≤ 1200 := by
        have h1 := hpm.2
        have h2 : T.data.toList.length = T.size := by simp
        rw [hTl] at h2
        simp only at h1
        omega
      rw [← hTT] at d1
      have HC : Hid (T.data.toList = t) := hTl
      have hz3 := hE.size
      clear hof f0 f1 hp hpk hpm hTT hTl
      by_cases hq0 : q = 0
      · subst hq0
        have HN2 : Hid (SP (P.take (k + 1)) = some out) := SP_take_blank HP.out HT.out
        clear HP
        go_wp2
        go_roundw
        case rel => exact ⟨k + 1, out, by go_num, by omega, by omega, HN2, hown.alloc _, hE.alloc _⟩
        case measure => simp [intOf]; omega
      · have dq : ((q : Int) == 0) = false := by simp; omega
        have HG : Hid (∀ w : World, Calls Tryz.prog 60 #[.agg #[.int .i64 (q : Int), .string T]] w fun e w' => ∃ p : Sg, e = .returned (.tuple #[sgV p, .bool (signOf q t).isSome]) ∧ (∀ s, signOf q t = some s → p = s) ∧ Ext w w') := fun w => by
          have := sign_any q T w (by omega) (by omega)
          rw [HC.out] at this
          exact this
        have HO2 : Hid (wr.ownsRow w1.heap.size 98 3 u4 out.length (flatG out)) := hown
        have HE : Hid (Ext w1 wr) := hE
        have hq0' : Hid (¬ q = 0) := hq0
        clear hown hE hq0
        go_wp2_with fail
        refine (HG.out _).mono ?_
        rintro e w2 ⟨⟨pk, pt, pn⟩, rfl, hps, e2⟩
        unfold sgV
        have hx2 : Ext wr w2 := (Ext.one _ _).trans e2
        have E2 : Hid (Ext w1 w2) := HE.out.trans hx2
        have hown2 := own_below HO2.out hx2
        have hz4 := E2.out.size
        have HPS : Hid (∀ s, signOf q t = some s → (pk, pt, pn) = s) := hps
        clear e2 hx2 hps HO2 HE HG d0 d1
        obtain ⟨tx, htx⟩ : ∃ tx, tx = txt pt := ⟨_, rfl⟩
        have HTX : Hid (tx = txt pt) := htx
        simp only
        rw [← htx]
        clear htx
        cases hsg : signOf q t with
        | none =>
          have HT2 : Hid (r = none) := by rw [HS.out]; exact SP_take_none HP.out HT.out hq0'.out hsg
          have E3 : Hid (Ext w w2) := E1.out.trans E2.out
          clear hsg HPS hown2
          simp only [Option.isSome_none]
          go_wp2
          go_ret2
          exact ⟨_, by rw [HT2.out]; rfl, by rw [HT2.out]; exact Own3.nil _ _, E3.out.alloc _⟩
        | some sg =>
          have hsge : (pk, pt, pn) = sg := HPS.out sg hsg
          have HN2 : Hid (SP (P.take (k + 1)) = some (out ++ [(pk, pt, pn)])) := SP_take_some HP.out HT.out hq0'.out (by rw [hsge]; exact hsg)
          clear hsg HPS hsge HP
          simp only [Option.isSome_some]
          go_wp2_with (at_builtin; refine wpList_append_own _ rfl _ _ 55 rfl w1.heap.size 98 i0 (.agg #[.int .i64 0, .string ⟨#[]⟩, .int .i64 0]) 3 32 Tryz.underlying55 hi hz0 hz1 hz2 rfl (by decide) _ out.length _ rfl ((hown2.alloc _).alloc _) ⟨w2.heap.size + 1, 0, none⟩ 1 1 [.int .i64 pk, .string tx, .int .i64 pn] rfl rfl ?c1 ?c2 ?c3 ?c4 ?c5 ?_)
          case c1 =>
            intro j u hu
            have := (CellsAt.new' (w2.alloc (.cells #[.int .i64 pk, .string tx, .int .i64 pn] 98)) [.int .i64 pk, .string tx, .int .i64 pn] 98 (w2.heap.size + 1) (by simp)).2 j u hu
            rw [Addr.add_lit, Nat.zero_add]
            exact this
          case c2 => intro u hu; simp at hu; rcases hu with rfl | rfl | rfl <;> rfl
          case c3 => unfold maxLen; omega
          case c4 => omega
          case c5 => simp; omega
          · intro v' w3 hown3 hgrow _
            have O3 : Hid (w3.ownsRow w1.heap.size 98 3 v' (out ++ [(pk, pt, pn)]).length (flatG (out ++ [(pk, pt, pn)]))) := by
              have e : flatG out ++ [.int .i64 pk, .string tx, .int .i64 pn] = flatG (out ++ [(pk, pt, pn)]) := by rw [HTX.out]; exact flatG_push out (pk, pt, pn)
              rw [e] at hown3
              rw [List.length_append]
              exact hown3
            have E3 : Hid (Ext w1 w3) := Below.grown ((E2.out.alloc _).alloc _) hgrow (by simp; omega) (fun x hx => (hown2.lt x hx).1)
            clear hgrow hown2 hown3 E2
            go_wp2
            go_roundw
            case rel => exact ⟨k + 1, out ++ [(pk, pt, pn)], by go_num, by omega, by simp; omega, HN2, O3.out, E3.out⟩
            case measure => simp [intOf]; omega
    · have bk : ¬ ((k : Int) < (n : Int)) := by omega
      have HT : Hid (r = some out) := by
        have h1 := HP.out
        rw [List.take_of_length_le (by have := HN.out; omega)] at h1
        rw [HS.out, h1]
        rfl
      have E2 : Hid (Ext w wr) := E1.out.trans hE
      have O2 : Hid (Own3 wr w.heap.size u4 out) := own8_base hown E1.out.size
      obtain ⟨a4, c4, rfl, _⟩ := own_slice8 hown
      clear hown hE HP
      go_wp2
      go_ret2
      exact ⟨_, by rw [HT.out]; rfl, by rw [HT.out]; exact O2.out, E2.out⟩

/-- A sign lies at o of block g. -/
def Tri (W : World) (g o : Nat) (k : Int) (t : ByteArray) (n : Int) : Prop := W.cell? ⟨g, o, none⟩ = some (.int .i64 k) ∧ W.cell? ⟨g, o + 1, none⟩ = some (.string t) ∧ W.cell? ⟨g, o + 2, none⟩ = some (.int .i64 n)

theorem Tri.lt {W : World} {g o : Nat} {k : Int} {t : ByteArray} {n : Int} (h : Tri W g o k t n) : g < W.heap.size := World.block_lt_of_cell? W _ h.1

theorem Tri.below {W W' : World} {B g o : Nat} {k : Int} {t : ByteArray} {n : Int} (h : Tri W g o k t n) (hb : Below B W W') (hg : g < B) : Tri W' g o k t n :=
  ⟨(hb.cell (p := ⟨g, o, none⟩) hg).trans h.1, (hb.cell (p := ⟨g, o + 1, none⟩) hg).trans h.2.1, (hb.cell (p := ⟨g, o + 2, none⟩) hg).trans h.2.2⟩

theorem Tri.ext {W W' : World} {g o : Nat} {k : Int} {t : ByteArray} {n : Int} (h : Tri W g o k t n) (hE : Ext W W') : Tri W' g o k t n := h.below hE h.lt

/-- These signs lie in a row. -/
def Signs (W : World) (a : Option Addr) (ps : List Sg) : Prop := 0 < ps.length → ∃ b off, a = some ⟨b, off, none⟩ ∧ ∀ j, j < ps.length → Tri W b (off + j * 3) (ps.getD j zeroG).1 (txt (ps.getD j zeroG).2.1) (ps.getD j zeroG).2.2

theorem Signs.ext {W W' : World} {a : Option Addr} {ps : List Sg} (h : Signs W a ps) (hE : Ext W W') : Signs W' a ps := fun hp => by
  obtain ⟨b, off, hb, hq⟩ := h hp
  exact ⟨b, off, hb, fun j hj => (hq j hj).ext hE⟩

theorem Signs.tri {W : World} {a : Option Addr} {ps : List Sg} (h : Signs W a ps) {k : Nat} (hk : k < ps.length) : ∃ b off, a = some ⟨b, off, none⟩ ∧ Tri W b (off + k * 3) (ps.getD k zeroG).1 (txt (ps.getD k zeroG).2.1) (ps.getD k zeroG).2.2 := by
  obtain ⟨b, off, hb, hq⟩ := h (by omega)
  exact ⟨b, off, hb, hq k hk⟩

theorem Own3.signs {w : World} {B : Nat} {v : Value} {ps : List Sg} (h : Own3 w B v ps) : ∃ a cap, v = .slice a ps.length cap ∧ Signs w a ps ∧ (0 < ps.length → ∃ g, a = some ⟨g, 0, none⟩ ∧ B ≤ g ∧ ∀ j, w.frozen? ⟨g, j, none⟩ = false) := by
  have hown : w.ownsRow B 98 3 v ps.length (flatG ps) := h
  rcases h.2 with ⟨rfl, h0⟩ | ⟨g, cap, cur, rfl, hg, hh, hnc, hcp, hcs, htake⟩
  · exact ⟨none, 0, by rw [h0], fun hp => by omega, fun hp => by omega⟩
  · refine ⟨_, cap, rfl, fun hp => ⟨g, 0, rfl, fun j hj => ?_⟩, fun hp => ⟨g, rfl, hg, fun j => frozen_of_row w g j cur 98 hh⟩⟩
    obtain ⟨e0, e1, e2⟩ := flatG_at ps j hj
    have cell : ∀ i v, (flatG ps)[i]? = some v → w.cell? ⟨g, i, none⟩ = some v := fun i v hv => by
      have hc := hown.cells (g := g) rfl i v hv
      rwa [Addr.add_lit, Nat.zero_add] at hc
    rw [Nat.zero_add]
    exact ⟨cell _ _ e0, cell _ _ e1, cell _ _ e2⟩

/-- How many bytes from a on lie in lo .. hi. -/
def runIn (lo hi : Nat) (l : List UInt8) : Nat := (l.takeWhile fun b => decide (lo ≤ b.toNat) && decide (b.toNat ≤ hi)).length

theorem runIn_name (l : List UInt8) : runIn 97 122 l = runL 1 l := by
  have e : (fun b : UInt8 => decide (97 ≤ b.toNat) && decide (b.toNat ≤ 122)) = fun b => kindB b == 1 := by
    funext b
    rw [Bool.eq_iff_iff]
    simp [kindB_1]
  unfold runIn runL
  rw [e]

theorem runIn_num (l : List UInt8) : runIn 48 57 l = runL 2 l := by
  have e : (fun b : UInt8 => decide (48 ≤ b.toNat) && decide (b.toNat ≤ 57)) = fun b => kindB b == 2 := by
    funext b
    rw [Bool.eq_iff_iff]
    simp [kindB_2]
  unfold runIn runL
  rw [e]

theorem runIn_stop {lo hi : Nat} {l : List UInt8} {m : Nat} (hm : m ≤ l.length) (ha : ∀ j b, j < m → l[j]? = some b → lo ≤ b.toNat ∧ b.toNat ≤ hi) (hs : m = l.length ∨ ∃ b, l[m]? = some b ∧ ¬ (lo ≤ b.toNat ∧ b.toNat ≤ hi)) : runIn lo hi l = m := by
  induction m generalizing l with
  | zero =>
    unfold runIn
    cases l with
    | nil => rfl
    | cons b r =>
      rcases hs with h | ⟨x, hx, hk⟩
      · simp at h
      · simp only [List.getElem?_cons_zero, Option.some.injEq] at hx
        subst hx
        rw [List.takeWhile_cons_of_neg (by simpa using hk)]
        rfl
  | succ m ih =>
    cases l with
    | nil => simp at hm
    | cons b r =>
      have hb := ha 0 b (by omega) rfl
      unfold runIn
      rw [List.takeWhile_cons_of_pos (by simpa using hb), List.length_cons]
      have := ih (l := r) (by simpa using hm) (fun j x hj hx => ha (j + 1) x (by omega) (by simpa using hx)) (by simpa using hs)
      unfold runIn at this
      rw [this]

set_option maxRecDepth 100000 in
set_option maxHeartbeats 1000000 in
theorem word_any (s : ByteArray) (a lo hi : Nat) (w : World) (hs : s.size ≤ 1200) (ha : a ≤ s.size) (hlo : lo < 256) (hhi : hi < 256) :
    Calls Tryz.prog 70 #[.string s, .int .i64 a, .int .u8 lo, .int .u8 hi] w fun e w' => e = .returned (.int .i64 ((runIn lo hi (s.data.toList.drop a) : Nat) : Int)) ∧ w = w' := by
  have hlen : s.data.toList.length = s.size := by simp
  have HL : Hid (s.data.toList.length = s.size) := hlen
  clear hlen
  go_enter Tryz.func70, Tryz.ntmps70
  go_wp2
  go_loop [9] (fun nv => ∃ m : Nat, nv = .int .i64 ((a + m : Nat) : Int) ∧ a + m ≤ s.size ∧ Hid (∀ j b, j < m → (s.data.toList.drop a)[j]? = some b → lo ≤ b.toNat ∧ b.toNat ≤ hi)) (fun nv => s.size - (intOf nv).toNat)
  case atStart => exact ⟨0, rfl, by omega, fun j b h => by omega⟩
  case round =>
    obtain ⟨m, rfl, hm, HA⟩ := hrel
    obtain ⟨p, hp⟩ : ∃ p, p = a + m := ⟨_, rfl⟩
    rw [← hp] at hm ⊢
    have HP : Hid (p = a + m) := hp
    clear hp
    by_cases hlt : p < s.size
    · have bl : (p : Int) < (s.size : Int) := by omega
      have hb : Hid ((s.data.toList.drop a)[m]? = some s[p]) := by
        unfold Hid
        rw [List.getElem?_drop, ← HP.out, List.getElem?_eq_getElem (by have := HL.out; omega)]
        rfl
      have hx : s[p].toNat < 256 := s[p].toNat_lt
      by_cases h1 : lo ≤ s[p].toNat
      · have d1 : (lo : Int) ≤ (s[p].toNat : Int) := by omega
        by_cases h2 : s[p].toNat ≤ hi
        · have d2 : (s[p].toNat : Int) ≤ (hi : Int) := by omega
          have HA' : Hid (∀ j b, j < m + 1 → (s.data.toList.drop a)[j]? = some b → lo ≤ b.toNat ∧ b.toNat ≤ hi) := by
            intro j b hj hjb
            rcases Nat.lt_or_ge j m with h | h
            · exact HA.out j b h hjb
            · have : j = m := by omega
              subst this
              rw [hb.out] at hjb
              obtain rfl := Option.some.inj hjb
              exact ⟨h1, h2⟩
          clear HA hb
          go_wp2
          go_round
          case rel => exact ⟨m + 1, by have := HP.out; go_num, by have := HP.out; omega, HA'⟩
          case measure => simp [intOf]; omega
        · have d2 : ¬ (s[p].toNat : Int) ≤ (hi : Int) := by omega
          have HF : Hid (runIn lo hi (s.data.toList.drop a) = m) := runIn_stop (by simp; have := HP.out; have := HL.out; omega) HA.out (.inr ⟨_, hb.out, fun h => h2 h.2⟩)
          clear HA hb
          go_wp2
          go_ret
          exact ⟨by rw [HF.out]; exact ret_int (by have := HP.out; omega), rfl⟩
      · have d1 : ¬ (lo : Int) ≤ (s[p].toNat : Int) := by omega
        have HF : Hid (runIn lo hi (s.data.toList.drop a) = m) := runIn_stop (by simp; have := HP.out; have := HL.out; omega) HA.out (.inr ⟨_, hb.out, fun h => h1 h.1⟩)
        clear HA hb
        go_wp2
        go_ret
        exact ⟨by rw [HF.out]; exact ret_int (by have := HP.out; omega), rfl⟩
    · have bl : ¬ (p : Int) < (s.size : Int) := by omega
      have HF : Hid (runIn lo hi (s.data.toList.drop a) = m) := runIn_stop (by simp; have := HP.out; have := HL.out; omega) HA.out (.inl (by simp; have := HP.out; have := HL.out; omega))
      clear HA
      go_wp2
      go_ret
      exact ⟨by rw [HF.out]; exact ret_int (by have := HP.out; omega), rfl⟩

def markB8 : List ByteArray := markL.map txt

theorem marks_row (w : World) : (w.alloc (.cells (rowS markB8).toArray 9)).ownsRow w.heap.size 9 1 (.slice (some ⟨w.heap.size, 0, none⟩) 10 10) 10 (rowS markB8) :=
  World.ownsRow_lit (base := w.heap.size) (e := 9) (size := 1) w (rowS markB8).toArray 10 (Nat.le_refl _) (by decide) rfl

theorem sMarks_any (w : World) :
    Calls Tryz.prog 111 #[] w fun e w' => ∃ g, e = .returned (.slice (some ⟨g, 0, none⟩) 10 10) ∧ w.heap.size ≤ g ∧ w'.ownsRow w.heap.size 9 1 (.slice (some ⟨g, 0, none⟩) 10 10) 10 (rowS markB8) ∧ Ext w w' := by
  go_enter Tryz.func111, Tryz.ntmps111
  go_wp2
  go_ret
  exact ⟨w.heap.size, rfl, Nat.le_refl _, marks_row w, Ext.one _ _⟩

theorem mark_cell {w : World} {B g : Nat} (h : w.ownsRow B 9 1 (.slice (some ⟨g, 0, none⟩) 10 10) 10 (rowS markB8)) (k : Nat) (hk : k < 10) : w.cell? ⟨g, k, none⟩ = some (.string (txt (markL.getD k []))) := by
  rw [h.cellAt k hk, rowS_at markB8 k hk]
  have hk' : k < markL.length := hk
  simp [markB8, hk']

theorem markAt_found {l : List UInt8} {k : Nat} (hk : k < 10) (h : l.take (markL.getD k []).length = markL.getD k []) (hn : ∀ j, j < k → ¬ l.take (markL.getD j []).length = markL.getD j []) : markAt l = markL.getD k [] := by
  have hk' : k < markL.length := hk
  have e : ∀ j (hj : j < markL.length), markL.getD j [] = markL[j] := fun j hj => by rw [List.getD_eq_getElem?_getD, List.getElem?_eq_getElem hj]; rfl
  unfold markAt
  have : markL.find? (fun m => l.take m.length == m) = some (markL.getD k []) := by
    rw [List.find?_eq_some_iff_getElem]
    refine ⟨by simpa using h, k, hk', (e k hk').symm, fun j hj => ?_⟩
    have := hn j hj
    rw [e j (by omega)] at this
    simpa using this
  rw [this]
  rfl

theorem markAt_not {l : List UInt8} (hn : ∀ j, j < 10 → ¬ l.take (markL.getD j []).length = markL.getD j []) : markAt l = [] := by
  unfold markAt
  have : markL.find? (fun m => l.take m.length == m) = none := by
    rw [List.find?_eq_none]
    intro m hm hc
    obtain ⟨j, hj, rfl⟩ := List.getElem_of_mem hm
    have := hn j hj
    rw [List.getD_eq_getElem?_getD, List.getElem?_eq_getElem hj] at this
    exact this (by simpa using hc)
  rw [this]
  rfl

theorem markL_len : ∀ k, k < 10 → (markL.getD k []).length = 1 ∨ (markL.getD k []).length = 2 := by decide

set_option maxRecDepth 100000 in
set_option maxHeartbeats 1000000 in
theorem sMark_any (s : ByteArray) (a : Nat) (w : World) (hs : s.size ≤ 1200) (ha : a ≤ s.size) :
    Calls Tryz.prog 72 #[.string s, .int .i64 a] w fun e w' => e = .returned (.string (txt (markAt (s.data.toList.drop a)))) ∧ Ext w w' := by
  have hlen : s.data.toList.length = s.size := by simp
  have HL : Hid (s.data.toList.length = s.size) := hlen
  clear hlen
  obtain ⟨l, hl⟩ : ∃ l, l = s.data.toList.drop a := ⟨_, rfl⟩
  rw [← hl]
  have HLL : Hid (l = s.data.toList.drop a) := hl
  clear hl
  go_enter Tryz.func72, Tryz.ntmps72
  go_wp2_with fail
  refine (sMarks_any _).mono ?_
  rintro e w1 ⟨g, rfl, hg, hown, hb1⟩
  have HO : Hid (w1.ownsRow w.heap.size 9 1 (.slice (some ⟨g, 0, none⟩) 10 10) 10 (rowS markB8)) := hown
  clear hown
  go_wp2
  go_loopw [6] (fun i wr => ∃ k : Nat, i = .int .i64 k ∧ k ≤ 10 ∧ Hid (∀ j, j < k → ¬ l.take (markL.getD j []).length = markL.getD j []) ∧ Ext w1 wr) (fun i _ => 10 - (intOf i).toNat)
  case atStart => exact ⟨0, rfl, by omega, fun j hj => by omega, Ext.refl _⟩
  case round =>
    obtain ⟨k, rfl, hk, HN, hE⟩ := hrel
    by_cases hlt : k < 10
    · have hc := mark_cell (own_below HO.out hE) k hlt
      have hml := markL_len k hlt
      obtain ⟨m, hm⟩ : ∃ m, m = markL.getD k [] := ⟨_, rfl⟩
      rw [← hm] at hc hml
      obtain ⟨n, hn⟩ : ∃ n, n = m.length := ⟨_, rfl⟩
      obtain ⟨M, hM⟩ : ∃ M, M = txt m := ⟨_, rfl⟩
      have hMs : M.size = n := by rw [hM, hn]; rfl
      rw [← hn] at hml
      rw [← hM] at hc
      have HM : Hid (M = txt m ∧ n = m.length ∧ m = markL.getD k []) := ⟨hM, hn, hm⟩
      have HMS : Hid (M.size = n) := hMs
      have hki : (k : Int) < 10 := by omega
      clear hM hn hm
      by_cases hfit : a + n ≤ s.size
      · obtain ⟨T, hT⟩ : ∃ T, T = s.extract a (a + n) := ⟨_, rfl⟩
        have HT : Hid (T = txt (l.take n)) := by
          rw [hT, cutB, HLL.out]
          unfold Hid cutL
          rw [show a + n - a = n by omega]
        have hex : s.extract a (a + n) = T := hT.symm
        clear hT
        have hfi : (a : Int) + (n : Int) ≤ (s.size : Int) := by omega
        have hfd : decide ((a : Int) + (n : Int) ≤ (s.size : Int)) = true := by simp; omega
        by_cases heq : T = M
        · have HF : Hid (markAt l = m) := by
            obtain ⟨h1, h2, h3⟩ := HM.out
            have h4 : l.take n = m := txt_inj (by rw [← HT.out, ← h1]; exact heq)
            rw [h3]
            exact markAt_found hlt (by rw [← h3, ← h2]; exact h4) HN.out
          subst heq
          clear HN
          go_wp2_with (first | rw [hMs] | rw [hex])
          go_quiet (fail)
          go_wp2
          go_ret
          exact ⟨by rw [HF.out, ← HM.out.1]; rfl, below_drewN (hb1.trans hE) _⟩
        · have hne : (T.toList == M.toList) = false := by
            rw [beq_eq_false_iff_ne]
            intro h
            apply heq
            rw [ByteArray.toList_eq, ByteArray.toList_eq] at h
            have := congrArg txt h
            rwa [txt_data, txt_data] at this
          have HN' : Hid (∀ j, j < k + 1 → ¬ l.take (markL.getD j []).length = markL.getD j []) := by
            intro j hj
            rcases Nat.lt_or_ge j k with h | h
            · exact HN.out j h
            · have : j = k := by omega
              subst this
              obtain ⟨h1, h2, h3⟩ := HM.out
              rw [← h3, ← h2]
              intro h4
              exact heq (by rw [HT.out, h4, h1])
          clear heq HN
          go_wp2_with (first | rw [hMs] | rw [hex])
          go_quiet (fail)
          go_wp2
          go_roundw
          case rel => exact ⟨k + 1, by go_num, by omega, HN', below_drewN hE _⟩
          case measure => simp [intOf]; omega
      · have hfd : decide ((a : Int) + (n : Int) ≤ (s.size : Int)) = false := by simp; omega
        have HN' : Hid (∀ j, j < k + 1 → ¬ l.take (markL.getD j []).length = markL.getD j []) := by
          intro j hj
          rcases Nat.lt_or_ge j k with h | h
          · exact HN.out j h
          · have : j = k := by omega
            subst this
            obtain ⟨h1, h2, h3⟩ := HM.out
            rw [← h3, ← h2]
            intro h4
            have h5 := congrArg List.length h4
            rw [List.length_take, ← h2, HLL.out, List.length_drop, HL.out] at h5
            omega
        clear HN
        go_wp2_with (rw [hMs])
        go_quiet (fail)
        go_wp2
        go_roundw
        case rel => exact ⟨k + 1, by go_num, by omega, HN', below_drewN hE _⟩
        case measure => simp [intOf]; omega
    · have HF : Hid (markAt l = []) := markAt_not fun j hj => HN.out j (by omega)
      clear HN
      go_wp2
      go_ret
      exact ⟨by rw [HF.out]; rfl, hb1.trans hE⟩

theorem runL_zero {k : Nat} {b : UInt8} {r : List UInt8} (h : ¬ kindB b = k) : runL k (b :: r) = 0 := by
  unfold runL
  rw [List.takeWhile_cons_of_neg (by simpa using h)]
  rfl

theorem runL_pos {k : Nat} {b : UInt8} {r : List UInt8} (h : kindB b = k) : 1 ≤ runL k (b :: r) := by
  unfold runL
  rw [List.takeWhile_cons_of_pos (by simpa using h), List.length_cons]
  omega

theorem runL_le (k : Nat) (l : List UInt8) : runL k l ≤ l.length := by
  unfold runL
  exact (List.takeWhile_prefix _).length_le

theorem runL_all {k : Nat} : ∀ {l : List UInt8} {b : UInt8}, b ∈ l.take (runL k l) → kindB b = k := by
  intro l b hb
  have e : l.take (runL k l) = l.takeWhile fun b => kindB b == k := by
    unfold runL
    exact (List.prefix_iff_eq_take.1 (List.takeWhile_prefix _)).symm
  rw [e] at hb
  have := List.all_takeWhile (p := fun b => kindB b == k) (l := l)
  rw [List.all_eq_true] at this
  simpa using this b hb

/-- The state behind one sign. -/
theorem sg_step {l : List UInt8} {a n : Nat} {b : UInt8} {out : List Sg} {s : Sg} (h : SG l = behind out (SG (l.drop a))) (hb : l[a]? = some b) (h0 : ¬ kindB b = 0) (hw : wideL b (l.drop (a + 1)) = n) (hs : signOf (kindB b) ((l.drop a).take n) = some s) : SG l = behind (out ++ [s]) (SG (l.drop (a + n))) := by
  obtain ⟨ha, hba⟩ := List.getElem?_eq_some_iff.1 hb
  have hd : l.drop a = b :: l.drop (a + 1) := by rw [drop_at ha, hba]
  rw [h, hd]
  rw [hd] at hs
  rw [SG_some h0 (by rw [hw]; exact hs), hw, behind_snoc, ← hd, List.drop_drop]

theorem sg_fail {l : List UInt8} {a n : Nat} {b : UInt8} {out : List Sg} (h : SG l = behind out (SG (l.drop a))) (hb : l[a]? = some b) (h0 : ¬ kindB b = 0) (hw : wideL b (l.drop (a + 1)) = n) (hs : signOf (kindB b) ((l.drop a).take n) = none) : SG l = none := by
  obtain ⟨ha, hba⟩ := List.getElem?_eq_some_iff.1 hb
  have hd : l.drop a = b :: l.drop (a + 1) := by rw [drop_at ha, hba]
  rw [h, hd]
  rw [hd] at hs
  rw [SG_none h0 (by rw [hw]; exact hs)]
  rfl

theorem sg_skip {l : List UInt8} {a : Nat} {b : UInt8} {out : List Sg} (h : SG l = behind out (SG (l.drop a))) (hb : l[a]? = some b) (h0 : kindB b = 0) : SG l = behind out (SG (l.drop (a + 1))) := by
  obtain ⟨ha, hba⟩ := List.getElem?_eq_some_iff.1 hb
  rw [h, drop_at ha, hba, SG_blank h0]

theorem markAt_cases (l : List UInt8) : markAt l = [] ∨ (markAt l ∈ markL ∧ l.take (markAt l).length = markAt l) := by
  unfold markAt
  cases h : markL.find? (fun m => l.take m.length == m) with
  | none => exact .inl rfl
  | some m =>
    refine .inr ⟨List.mem_of_find?_eq_some h, ?_⟩
    have := List.find?_some h
    simpa using this

set_option maxRecDepth 100000 in
set_option maxHeartbeats 4000000 in
theorem sSigns_any (s : ByteArray) (w : World) :
    Calls Tryz.prog 31 #[.string s] w fun e w' => ∃ v, e = .returned (.tuple #[v, .bool (signsR s.data.toList).isSome]) ∧ Own3 w' w.heap.size v ((signsR s.data.toList).getD []) ∧ Ext w w' := by
  obtain ⟨i0, hi, hz0, hz1, hz2⟩ := info_parts Tryz.infoG
  obtain ⟨r, hr⟩ : ∃ r, r = signsR s.data.toList := ⟨_, rfl⟩
  rw [← hr]
  have hlen : s.data.toList.length = s.size := by simp
  by_cases hbig : 1200 < s.size
  · have HR : Hid (r = none) := by rw [hr]; unfold signsR; rw [if_pos (by omega)]; rfl
    clear hr hlen
    go_enter Tryz.func31, Tryz.ntmps31
    go_wp2
    go_ret2
    exact ⟨_, by rw [HR.out]; rfl, by rw [HR.out]; exact Own3.lit w _ (Nat.le_refl _), Ext.one _ _⟩
  have HR : Hid (r = SG s.data.toList) := by rw [hr]; unfold signsR; rw [if_neg (by omega)]; rfl
  have HL : Hid (s.data.toList.length = s.size) := hlen
  clear hr hlen
  have hs : s.size ≤ 1200 := by omega
  obtain ⟨W, hW⟩ : ∃ W, W = w.alloc (.cells #[] 98) := ⟨_, rfl⟩
  have HO0 : Hid (Own3 W w.heap.size (.slice (some ⟨w.heap.size, 0, none⟩) 0 0) [] ∧ Ext w W ∧ W.heap.size = w.heap.size + 1) := by
    rw [hW]; exact ⟨Own3.lit w _ (Nat.le_refl _), Ext.one _ _, by simp⟩
  have o0 : Own3 (W.alloc (.cells #[] 98)) W.heap.size (.slice (some ⟨w.heap.size + 1, 0, none⟩) 0 0) [] := by
    have := Own3.lit W W.heap.size (Nat.le_refl _)
    rw [HO0.out.2.2] at this ⊢
    exact this
  have E0 : Ext W (W.alloc (.cells #[] 98)) := Ext.one _ _
  go_enter Tryz.func31, Tryz.ntmps31
  go_wp2_with fail
  rw [← hW]
  clear hW
  generalize W.alloc (.cells #[] 98) = W0 at o0 E0 ⊢
  go_loopw [5, 6] (fun v av wr => ∃ (a : Nat) (out : List Sg), av = .int .i64 a ∧ a ≤ s.size ∧ out.length ≤ a ∧ Hid (SG s.data.toList = behind out (SG (s.data.toList.drop a))) ∧ wr.ownsRow W.heap.size 98 3 v out.length (flatG out) ∧ Ext W wr) (fun _ av _ => s.size - (intOf av).toNat)
  case atStart => exact ⟨0, [], rfl, by omega, by simp, by unfold Hid; rw [behind_nil]; rfl, o0, E0⟩
  case round =>
    obtain ⟨a, out, rfl, ha, hoa, HI, hown, hE⟩ := hrel
    clear o0 E0
    have HE : Hid (Ext W wr) := hE
    have HO : Hid (wr.ownsRow W.heap.size 98 3 u5 out.length (flatG out)) := hown
    clear hown hE
    by_cases hlt : a < s.size
    · have hal : a < s.data.toList.length := by have := HL.out; omega
      have hb : Hid (s.data.toList[a]? = some s[a]) := by unfold Hid; rw [List.getElem?_eq_getElem hal]; rfl
      have hx : s[a].toNat < 256 := s[a].toNat_lt
      have bl : (a : Int) < (s.size : Int) := by omega
      have HDR : Hid (s.data.toList.drop a = s[a] :: s.data.toList.drop (a + 1)) := by unfold Hid; rw [drop_at hal]; rfl
      by_cases k0 : kindB s[a] = 0
      · have HN : Hid (SG s.data.toList = behind out (SG (s.data.toList.drop (a + 1)))) := sg_skip HI.out hb.out k0
        rw [kindB_0] at k0
        clear HI hb HDR
        rcases k0 with k0 | k0
        · have d1 : ((s[a].toNat : Int) == 32) = true := by simp; omega
          clear k0
          go_wp2
          go_roundw
          case rel => exact ⟨a + 1, out, by go_num, by omega, by omega, HN, HO.out, HE.out⟩
          case measure => simp [intOf]; omega
        · have d1 : ((s[a].toNat : Int) == 32) = false := by simp; omega
          have d2 : ((s[a].toNat : Int) == 10) = true := by simp; omega
          clear k0
          go_wp2
          go_roundw
          case rel => exact ⟨a + 1, out, by go_num, by omega, by omega, HN, HO.out, HE.out⟩
          case measure => simp [intOf]; omega
      · have d1 : ((s[a].toNat : Int) == 32) = false := by have := mt kindB_0.2 k0; simp; omega
        have d2 : ((s[a].toNat : Int) == 10) = false := by have := mt kindB_0.2 k0; simp; omega
        have K0 : Hid (¬ kindB s[a] = 0) := k0
        clear k0
        obtain ⟨n1, hn1⟩ : ∃ n, n = runL 1 (s.data.toList.drop a) := ⟨_, rfl⟩
        obtain ⟨n2, hn2⟩ : ∃ n, n = runL 2 (s.data.toList.drop a) := ⟨_, rfl⟩
        have W1 : Hid (∀ w : World, Calls Tryz.prog 70 #[.string s, .int .i64 a, .int .u8 97, .int .u8 122] w fun e w' => e = .returned (.int .i64 (n1 : Int)) ∧ w = w') := fun w => by
          have := word_any s a 97 122 w hs ha (by omega) (by omega)
          rw [runIn_name, ← hn1] at this
          exact this
        have W2 : Hid (∀ w : World, Calls Tryz.prog 70 #[.string s, .int .i64 a, .int .u8 48, .int .u8 57] w fun e w' => e = .returned (.int .i64 (n2 : Int)) ∧ w = w') := fun w => by
          have := word_any s a 48 57 w hs ha (by omega) (by omega)
          rw [runIn_num, ← hn2] at this
          exact this
        have b1 : a + n1 ≤ s.size := by have := runL_le 1 (s.data.toList.drop a); rw [← hn1, List.length_drop, HL.out] at this; omega
        have b2 : a + n2 ≤ s.size := by have := runL_le 2 (s.data.toList.drop a); rw [← hn2, List.length_drop, HL.out] at this; omega
        by_cases k1 : kindB s[a] = 1
        · have hp : 1 ≤ n1 := by rw [hn1, HDR.out]; exact runL_pos k1
          have HW : Hid (wideL s[a] (s.data.toList.drop (a + 1)) = n1) := by
            unfold Hid wideL
            rw [if_neg (by omega), ← HDR.out, k1, hn1]
          have HT : Hid (((s.data.toList.drop a).take n1).length = n1) := by unfold Hid; rw [List.length_take, List.length_drop, HL.out]; omega
          by_cases h12 : n1 ≤ 12
          · have HN : Hid (SG s.data.toList = behind (out ++ [(1, (s.data.toList.drop a).take n1, 0)]) (SG (s.data.toList.drop (a + n1)))) := sg_step HI.out hb.out K0.out HW.out (by rw [k1]; unfold signOf; rw [if_pos rfl, if_pos (by rw [HT.out]; exact h12)])
            obtain ⟨T, hTT⟩ : ∃ T, T = s.extract a (a + n1) := ⟨_, rfl⟩
            have HX : Hid (T = txt ((s.data.toList.drop a).take n1)) := by
              rw [hTT, cutB]
              unfold Hid cutL
              rw [show a + n1 - a = n1 by omega]
            have hex : s.extract a (a + n1) = T := hTT.symm
            have hown := HO.out
            have hzz := HE.out.size
            clear HI hb HDR HW HT W2 K0 hn1 hn2 k1 HO hTT
            go_wp2_with fail
            refine (W1.out _).mono ?_
            rintro e w' ⟨rfl, rfl⟩
            go_wp2_with (first | (rw [hex]) | (at_builtin; refine wpList_append_own _ rfl _ _ 55 rfl W.heap.size 98 i0 (.agg #[.int .i64 0, .string ⟨#[]⟩, .int .i64 0]) 3 32 Tryz.underlying55 hi hz0 hz1 hz2 rfl (by decide) _ out.length _ rfl (hown.alloc _) ⟨wr.heap.size, 0, none⟩ 1 1 [.int .i64 1, .string T, .int .i64 0] rfl rfl ?c1 ?c2 ?c3 ?c4 ?c5 ?_))
            case c1 =>
              intro j u hu
              have := (CellsAt.new wr [.int .i64 1, .string T, .int .i64 0] 98).2 j u hu
              rw [Addr.add_lit, Nat.zero_add]
              exact this
            case c2 => intro u hu; simp at hu; rcases hu with rfl | rfl | rfl <;> rfl
            case c3 => unfold maxLen; omega
            case c4 => omega
            case c5 => simp; omega
            · intro v' w3 hown3 hgrow _
              have O3 : Hid (w3.ownsRow W.heap.size 98 3 v' (out ++ [(1, (s.data.toList.drop a).take n1, 0)]).length (flatG (out ++ [(1, (s.data.toList.drop a).take n1, 0)]))) := by
                have e : flatG out ++ [.int .i64 1, .string T, .int .i64 0] = flatG (out ++ [(1, (s.data.toList.drop a).take n1, 0)]) := by rw [HX.out]; exact flatG_push out (1, (s.data.toList.drop a).take n1, 0)
                rw [e] at hown3
                rw [List.length_append]
                exact hown3
              have E3 : Hid (Ext W w3) := Below.grown (HE.out.alloc _) hgrow (by simp; omega) (fun x hx => (hown.lt x hx).1)
              clear hgrow hown hown3 HE
              go_wp2
              go_roundw
              case rel => exact ⟨a + n1, out ++ [(1, (s.data.toList.drop a).take n1, 0)], by go_num, by omega, by simp; omega, HN, O3.out, E3.out⟩
              case measure => simp [intOf]; omega
          · have HF : Hid (r = none) := by rw [HR.out]; exact sg_fail HI.out hb.out K0.out HW.out (by rw [k1]; unfold signOf; rw [if_pos rfl, if_neg (by rw [HT.out]; exact h12)])
            clear HI hb HDR HW HT W2 K0 hn1 hn2 k1 HO
            go_wp2_with fail
            refine (W1.out _).mono ?_
            rintro e w' ⟨rfl, rfl⟩
            go_wp2
            go_ret2
            exact ⟨_, by rw [HF.out]; rfl, by rw [HF.out]; exact HO0.out.1.ext HE.out, HO0.out.2.1.trans HE.out⟩
        · have z1 : n1 = 0 := by rw [hn1, HDR.out]; exact runL_zero k1
          have W10 : Hid (∀ w : World, Calls Tryz.prog 70 #[.string s, .int .i64 a, .int .u8 97, .int .u8 122] w fun e w' => e = .returned (.int .i64 0) ∧ w = w') := fun w => by
            have := W1.out w
            rw [z1] at this
            exact this
          clear W1 hn1 b1 z1
          by_cases k2 : kindB s[a] = 2
          · have hp : 1 ≤ n2 := by rw [hn2, HDR.out]; exact runL_pos k2
            have HW : Hid (wideL s[a] (s.data.toList.drop (a + 1)) = n2) := by
              unfold Hid wideL
              rw [if_neg (by omega), ← HDR.out, k2, hn2]
            obtain ⟨t, ht⟩ : ∃ t, t = (s.data.toList.drop a).take n2 := ⟨_, rfl⟩
            have HT : Hid (t.length = n2 ∧ t = (s.data.toList.drop a).take n2) := ⟨by rw [ht, List.length_take, List.length_drop, HL.out]; omega, ht⟩
            have HK : Hid (∀ b ∈ t, kindB b = 2) := fun b hb => by rw [ht, hn2] at hb; exact runL_all hb
            by_cases h10 : n2 ≤ 10
            · have HZ : Hid (∀ m, numF 10 t 0 = some m → (m ≤ 4294967295 → SG s.data.toList = behind (out ++ [(2, [], (m : Int))]) (SG (s.data.toList.drop (a + n2)))) ∧ (¬ m ≤ 4294967295 → r = none)) := by
                intro m hm
                refine ⟨fun h => sg_step HI.out hb.out K0.out HW.out ?_, fun h => ?_⟩
                · rw [k2, ← ht]
                  unfold signOf
                  rw [if_neg (by omega), if_pos rfl, hm]
                  simp only
                  rw [if_pos ⟨by rw [HT.out.1]; exact h10, h⟩]
                · rw [HR.out]
                  refine sg_fail HI.out hb.out K0.out HW.out ?_
                  rw [k2, ← ht]
                  unfold signOf
                  rw [if_neg (by omega), if_pos rfl, hm]
                  simp only
                  rw [if_neg (fun hh => h hh.2)]
              have hown := HO.out
              have hzz := HE.out.size
              clear HI hb HDR HW K0 hn2 k1 k2 HO ht
              go_wp2_with fail
              refine (W10.out _).mono ?_
              rintro e w' ⟨rfl, rfl⟩
              go_wp2_with fail
              refine (W2.out _).mono ?_
              rintro e w' ⟨rfl, rfl⟩
              go_wp2_with fail
              go_loopw [8, 9] (fun vv iv wx => ∃ (j m : Nat), iv = .int .i64 ((a + j : Nat) : Int) ∧ vv = .int .i64 m ∧ j ≤ n2 ∧ Hid (NS 10 t j m) ∧ wx = wr) (fun _ iv _ => a + n2 - (intOf iv).toNat)
              case atStart => exact ⟨0, 0, rfl, rfl, by omega, NS.start _ _, rfl⟩
              case round =>
                obtain ⟨j, m, rfl, rfl, hj, hNS, rfl⟩ := hrel
                obtain ⟨p, hpp⟩ : ∃ p, p = a + j := ⟨_, rfl⟩
                rw [← hpp]
                obtain ⟨hmb, _, _⟩ := hNS.out.bound (by omega) (by omega)
                by_cases hjn : j < n2
                · have hps : p < s.size := by omega
                  have hpl : (p : Int) < (a : Int) + (n2 : Int) := by omega
                  have hjt : j < t.length := by have := HT.out.1; omega
                  have htj : t[j] = s[p] := by
                    have h1 : t[j]? = some s[p] := by
                      rw [HT.out.2, List.getElem?_take, if_pos hjn, List.getElem?_drop, ← hpp, List.getElem?_eq_getElem (by have := HL.out; omega)]
                      rfl
                    rw [List.getElem?_eq_getElem hjt] at h1
                    exact Option.some.inj h1
                  have hk2 := HK.out t[j] (List.getElem_mem hjt)
                  rw [htj, kindB_2] at hk2
                  have hN' : Hid (NS 10 t (j + 1) (m * 10 + (s[p].toNat - 48))) := by
                    have := hNS.out.next10 hjt (by rw [htj]; exact hk2.1) (by rw [htj]; exact hk2.2)
                    rw [htj] at this
                    exact this
                  have hv : Hid (((m * 10 + (s[p].toNat - 48) : Nat) : Int) = 10 * (m : Int) + (s[p].toNat : Int) - 48) := by unfold Hid; omega
                  have hxl : s[p].toNat ≤ 57 := hk2.2
                  have HPP : Hid (p = a + j) := hpp
                  clear hNS hk2 htj hpp
                  go_wp2
                  go_roundw
                  case rel => exact ⟨j + 1, m * 10 + (s[p].toNat - 48), by have := HPP.out; go_num, by rw [hv.out], by omega, hN', trivial⟩
                  case measure => have := HPP.out; simp [intOf]; omega
                · have hpe : p = a + n2 := by omega
                  have hpl : ¬ (p : Int) < (a : Int) + (n2 : Int) := by omega
                  have hnum := hNS.out.done (by have := HT.out.1; omega)
                  obtain ⟨hz1', hz2'⟩ := HZ.out m hnum
                  have HZZ : Hid ((m ≤ 4294967295 → SG s.data.toList = behind (out ++ [(2, [], (m : Int))]) (SG (s.data.toList.drop (a + n2)))) ∧ (¬ m ≤ 4294967295 → r = none)) := ⟨hz1', hz2'⟩
                  have hh : Hid (halfB (m : Int) = decide (m ≤ 4294967295)) := by
                    unfold Hid halfB
                    rw [Bool.eq_iff_iff]
                    simp
                    omega
                  clear hNS hnum hz1' hz2' HZ HT HK hpp hpe
                  by_cases hm : m ≤ 4294967295
                  · have HH : Hid (∀ w : World, Calls Tryz.prog 71 #[.int .i64 (m : Int)] w fun e w' => e = .returned (.bool true) ∧ w = w') := fun w => by
                      have := sHalf_any (m : Int) w
                      rw [hh.out, decide_eq_true hm] at this
                      exact this
                    have HN : Hid (SG s.data.toList = behind (out ++ [(2, [], (m : Int))]) (SG (s.data.toList.drop (a + n2)))) := HZZ.out.1 hm
                    have HX : Hid (True ∧ (⟨#[]⟩ : ByteArray) = txt []) := ⟨trivial, rfl⟩
                    clear HZZ hh
                    go_wp2_with (first | (go_at_call 71; refine (HH.out _).mono ?_; rintro e w' ⟨rfl, rfl⟩) | (at_builtin; refine wpList_append_own _ rfl _ _ 55 rfl W.heap.size 98 i0 (.agg #[.int .i64 0, .string ⟨#[]⟩, .int .i64 0]) 3 32 Tryz.underlying55 hi hz0 hz1 hz2 rfl (by decide) _ out.length _ rfl (hown.alloc _) ⟨wr.heap.size, 0, none⟩ 1 1 [.int .i64 2, .string ⟨#[]⟩, .int .i64 (m : Int)] rfl rfl ?c1 ?c2 ?c3 ?c4 ?c5 ?_))
                    case c1 =>
                      intro j u hu
                      have := (CellsAt.new wr [.int .i64 2, .string ⟨#[]⟩, .int .i64 (m : Int)] 98).2 j u hu
                      rw [Addr.add_lit, Nat.zero_add]
                      exact this
                    case c2 => intro u hu; simp at hu; rcases hu with rfl | rfl | rfl <;> rfl
                    case c3 => unfold maxLen; omega
                    case c4 => omega
                    case c5 => simp; omega
                    · intro v' w3 hown3 hgrow _
                      have O3 : Hid (w3.ownsRow W.heap.size 98 3 v' (out ++ [(2, [], (m : Int))]).length (flatG (out ++ [(2, [], (m : Int))]))) := by
                        have e : flatG out ++ [.int .i64 2, .string ⟨#[]⟩, .int .i64 (m : Int)] = flatG (out ++ [(2, [], (m : Int))]) := by exact flatG_push out (2, [], (m : Int))
                        rw [e] at hown3
                        rw [List.length_append]
                        exact hown3
                      have E3 : Hid (Ext W w3) := Below.grown (HE.out.alloc _) hgrow (by simp; omega) (fun x hx => (hown.lt x hx).1)
                      clear hgrow hown hown3 HE
                      go_wp2
                      go_roundw
                      case rel => exact ⟨a + n2, out ++ [(2, [], (m : Int))], by go_num, by omega, by simp; omega, HN, O3.out, E3.out⟩
                      case measure => simp [intOf]; omega
                  · have HH : Hid (∀ w : World, Calls Tryz.prog 71 #[.int .i64 (m : Int)] w fun e w' => e = .returned (.bool false) ∧ w = w') := fun w => by
                      have := sHalf_any (m : Int) w
                      rw [hh.out, decide_eq_false hm] at this
                      exact this
                    have HF : Hid (r = none) := HZZ.out.2 hm
                    clear HZZ hh hown
                    go_wp2_with (go_at_call 71; refine (HH.out _).mono ?_; rintro e w' ⟨rfl, rfl⟩)
                    go_ret2
                    exact ⟨_, by rw [HF.out]; rfl, by rw [HF.out]; exact HO0.out.1.ext HE.out, HO0.out.2.1.trans HE.out⟩
            · have HF : Hid (r = none) := by
                rw [HR.out]
                refine sg_fail HI.out hb.out K0.out HW.out ?_
                rw [k2, ← ht]
                unfold signOf
                rw [if_neg (by omega), if_pos rfl]
                cases numF 10 t 0 with
                | none => rfl
                | some m => simp only; rw [if_neg (fun hh => h10 (by rw [HT.out.1] at hh; exact hh.1))]
              clear HI hb HDR HW K0 hn2 k1 k2 HO ht HT HK
              go_wp2_with fail
              refine (W10.out _).mono ?_
              rintro e w' ⟨rfl, rfl⟩
              go_wp2_with fail
              refine (W2.out _).mono ?_
              rintro e w' ⟨rfl, rfl⟩
              go_wp2_with fail
              refine wp_loop_rounds 1 ?_
              rw [rounds_succ]
              go_wp2
              go_ret2
              exact ⟨_, by rw [HF.out]; rfl, by rw [HF.out]; exact HO0.out.1.ext HE.out, HO0.out.2.1.trans HE.out⟩
          · have k3 : kindB s[a] = 3 := by have := kindB_le s[a]; have := K0.out; omega
            have z2 : n2 = 0 := by rw [hn2, HDR.out]; exact runL_zero k2
            have W20 : Hid (∀ w : World, Calls Tryz.prog 70 #[.string s, .int .i64 a, .int .u8 48, .int .u8 57] w fun e w' => e = .returned (.int .i64 0) ∧ w = w') := fun w => by
              have := W2.out w
              rw [z2] at this
              exact this
            clear W2 hn2 b2 z2
            obtain ⟨mk, hmk⟩ : ∃ mk, mk = markAt (s.data.toList.drop a) := ⟨_, rfl⟩
            have HM : Hid (∀ w : World, Calls Tryz.prog 72 #[.string s, .int .i64 a] w fun e w' => e = .returned (.string (txt mk)) ∧ Ext w w') := fun w => by rw [hmk]; exact sMark_any s a w hs ha
            have HW : Hid (wideL s[a] (s.data.toList.drop (a + 1)) = mk.length) := by
              unfold Hid wideL
              rw [if_pos k3, ← HDR.out, hmk]
            have HMK := markAt_cases (s.data.toList.drop a)
            rw [← hmk] at HMK
            by_cases hm0 : mk = []
            · have HF : Hid (r = none) := by
                rw [HR.out]
                refine sg_fail HI.out hb.out K0.out HW.out ?_
                rw [k3, hm0]
                simp [signOf, isMarkL_nil]
              subst hm0
              clear HI hb HDR HW K0 k1 k2 k3 HO hmk HMK
              go_wp2_with fail
              refine (W10.out _).mono ?_
              rintro e w' ⟨rfl, rfl⟩
              go_wp2_with fail
              refine (W20.out _).mono ?_
              rintro e w' ⟨rfl, rfl⟩
              go_wp2_with fail
              refine (HM.out _).mono ?_
              rintro e w2 ⟨rfl, e2⟩
              have E2 : Hid (Ext W w2) := HE.out.trans e2
              clear e2 HE
              unfold txt
              go_wp2
              go_ret2
              exact ⟨_, by rw [HF.out]; rfl, by rw [HF.out]; exact HO0.out.1.ext E2.out, HO0.out.2.1.trans E2.out⟩
            · obtain ⟨hmem, htk⟩ := HMK.resolve_left hm0
              have hml := marks_short mk hmem
              have HN : Hid (SG s.data.toList = behind (out ++ [(3, mk, 0)]) (SG (s.data.toList.drop (a + mk.length)))) := sg_step HI.out hb.out K0.out HW.out (by rw [k3, htk]; unfold signOf; rw [if_neg (by omega), if_neg (by omega), if_pos (isMark_of hmem)])
              have hfit : a + mk.length ≤ s.size := by
                have := congrArg List.length htk
                rw [List.length_take, List.length_drop, HL.out] at this
                omega
              obtain ⟨T, hTT⟩ : ∃ T, T = txt mk := ⟨_, rfl⟩
              obtain ⟨n, hn⟩ : ∃ n, n = mk.length := ⟨_, rfl⟩
              have hTs : T.size = n := by rw [hTT, hn]; rfl
              have hne : (T.toList == []) = false := by
                rw [beq_eq_false_iff_ne]
                intro h
                rw [ByteArray.toList_eq, hTT] at h
                simp [txt] at h
                exact hm0 h
              rw [← hn] at hml hfit HN
              rw [← hTT] at HM
              have HX : Hid (T = txt mk) := hTT
              have hown0 := HO.out
              clear HI hb HDR HW K0 k1 k2 k3 HO hmk HMK hmem htk hTT hn hm0
              go_wp2_with fail
              refine (W10.out _).mono ?_
              rintro e w' ⟨rfl, rfl⟩
              go_wp2_with fail
              refine (W20.out _).mono ?_
              rintro e w' ⟨rfl, rfl⟩
              go_wp2_with fail
              refine (HM.out _).mono ?_
              rintro e w2 ⟨rfl, e2⟩
              have hown := own_below hown0 e2
              have HE2 : Hid (Ext W w2) := HE.out.trans e2
              have hzz := HE2.out.size
              clear e2 HE hown0
              go_wp2_with (first | (at_builtin; refine wpList_append_own _ rfl _ _ 55 rfl W.heap.size 98 i0 (.agg #[.int .i64 0, .string ⟨#[]⟩, .int .i64 0]) 3 32 Tryz.underlying55 hi hz0 hz1 hz2 rfl (by decide) _ out.length _ rfl (hown.alloc _) ⟨w2.heap.size, 0, none⟩ 1 1 [.int .i64 3, .string T, .int .i64 0] rfl rfl ?c1 ?c2 ?c3 ?c4 ?c5 ?_))
              case c1 =>
                intro j u hu
                have := (CellsAt.new w2 [.int .i64 3, .string T, .int .i64 0] 98).2 j u hu
                rw [Addr.add_lit, Nat.zero_add]
                exact this
              case c2 => intro u hu; simp at hu; rcases hu with rfl | rfl | rfl <;> rfl
              case c3 => unfold maxLen; omega
              case c4 => omega
              case c5 => simp; omega
              · intro v' w3 hown3 hgrow _
                have O3 : Hid (w3.ownsRow W.heap.size 98 3 v' (out ++ [(3, mk, 0)]).length (flatG (out ++ [(3, mk, 0)]))) := by
                  have e : flatG out ++ [.int .i64 3, .string T, .int .i64 0] = flatG (out ++ [(3, mk, 0)]) := by rw [HX.out]; exact flatG_push out (3, mk, 0)
                  rw [e] at hown3
                  rw [List.length_append]
                  exact hown3
                have E3 : Hid (Ext W w3) := Below.grown (HE2.out.alloc _) hgrow (by simp; omega) (fun x hx => (hown.lt x hx).1)
                clear hgrow hown hown3 HE2
                go_wp2_with (rw [hTs])
                go_roundw
                case rel => exact ⟨a + n, out ++ [(3, mk, 0)], by go_num, by omega, by simp; omega, HN, O3.out, E3.out⟩
                case measure => simp [intOf]; omega
    · have HF : Hid (r = some out) := by
        rw [HR.out]
        have h1 := HI.out
        rw [List.drop_eq_nil_of_le (by have := HL.out; omega), behind_end] at h1
        exact h1
      have O2 : Hid (Own3 wr w.heap.size u5 out) := own8_base HO.out (by have := HO0.out.2.2; omega)
      obtain ⟨a5, c5, rfl, _⟩ := own_slice8 HO.out
      clear HI HO
      go_wp2
      go_ret2
      exact ⟨_, by rw [HF.out]; rfl, by rw [HF.out]; exact O2.out, HO0.out.2.1.trans HE.out⟩

theorem SGf_length : ∀ f l o, SGf f l = some o → o.length ≤ f
  | 0, _, o, h => by simp only [SGf, Option.some.injEq] at h; subst h; simp
  | f + 1, [], o, h => by simp only [SGf, Option.some.injEq] at h; subst h; simp
  | f + 1, b :: r, o, h => by
    simp only [SGf] at h
    split at h
    · have := SGf_length f _ o h; omega
    · split at h
      · cases h
      · cases hx : SGf f ((b :: r).drop (wideL b r)) with
        | none => rw [hx] at h; cases h
        | some x =>
          rw [hx] at h
          simp only [Option.map_some, Option.some.injEq] at h
          subst h
          have := SGf_length f _ x hx
          simp
          omega

theorem signsR_length (l : List UInt8) : ((signsR l).getD []).length ≤ 1200 := by
  unfold signsR
  split
  · simp
  · rename_i hl
    cases h : SG l with
    | none => simp
    | some o =>
      have := SGf_length _ _ o h
      simp only [Option.getD_some]
      omega

end Go.Proofs.YtojaohdmfahpmaaGreatDoor
