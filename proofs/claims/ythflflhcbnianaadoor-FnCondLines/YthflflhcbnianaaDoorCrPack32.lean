/- What impl's RuleLines answers. (Written by mkrule12.py.) -/
import Derived.Test.YthflflhcbnianaaDoorCrPack31
import Derived.Test.YthflflhcbnianaaDoorCrPack14
import Derived.Test.YthflflhcbnianaaDoorCrPack10
import Derived.Test.YthflflhcbnianaaDoorCrPack11
import Derived.Test.YthflflhcbnianaaDoorCrPack18
import Derived.Deep.RegionHeld3
/- Lines of a rule, in plain lists; lines of whatever slice appended to a row of the call's own; figures of a number. -/
namespace Go.Proofs.YthflflhcbnianaaDoor
open Go.RowKit
set_option linter.unusedVariables false

def figB (k : Nat) : ByteArray := ⟨(decS k).toArray⟩
def numB (base : ByteArray) (k : Nat) : ByteArray := base ++ figB k
def nextB (base : ByteArray) (k : Nat) : ByteArray := base ++ ⟨#[110]⟩ ++ figB k

/-- Lines of the first n conditions. -/
def rulesL (base no : ByteArray) (cs : List CN) : Nat → List Ln
  | 0 => []
  | n + 1 => rulesL base no cs n ++ (condL (cs.getD n c0) (numB base n) (nextB base n) no ++ [placeL (nextB base n)])

theorem rulesL_len (base no : ByteArray) (cs : List CN) : ∀ n, (rulesL base no cs n).length ≤ 10 * n
  | 0 => by simp [rulesL]
  | n + 1 => by
    have h1 := rulesL_len base no cs n
    have h2 := condL_len (cs.getD n c0) (numB base n) (nextB base n) no
    simp only [rulesL, List.length_append, List.length_cons, List.length_nil]
    omega

/-- What RuleLines answers. -/
def ruleL (r : RN) (base no : ByteArray) : List Ln := rulesL base no r.conds r.conds.length ++ [plainL 8 (resV r.act r.data)]

theorem ruleL_len (r : RN) (base no : ByteArray) : (ruleL r base no).length ≤ 10 * r.conds.length + 1 := by
  have := rulesL_len base no r.conds r.conds.length
  simp only [ruleL, List.length_append, List.length_cons, List.length_nil]
  omega

theorem decS_short : ∀ k n : Nat, n < 10 ^ (k + 1) → (decS n).length ≤ k + 1
  | 0, n, h => by
    rw [decS_digits n n (Nat.le_refl _), Lib.decDigits_one (by omega)]
    simp
  | k + 1, n, h => by
    by_cases h10 : n < 10
    · rw [decS_digits n n (Nat.le_refl _), Lib.decDigits_one h10]
      simp
    · have h1 : n / 10 < 10 ^ (k + 1) := by
        rw [Nat.div_lt_iff_lt_mul (by omega)]
        rw [Nat.pow_succ] at h
        omega
      have ih := decS_short k (n / 10) h1
      rw [decS_digits n n (Nat.le_refl _), Lib.decDigits, dif_neg h10]
      rw [decS_digits _ _ (Nat.le_refl _)] at ih
      simp only [List.length_append, List.length_cons, List.length_nil]
      omega

theorem figB_size {k : Nat} (h : k ≤ 1048576) : (figB k).size ≤ 8 := by
  have := decS_short 7 k (by omega)
  simpa [figB, ByteArray.size] using this

theorem gTab12 : Tryd.prog.globalNamed "internal/strconv.uint64pow10" = some 0 := by kernel_rfl

/-- The library's table of powers holds what its text lays. -/
def Pow12 (w : World) : Prop := Lib.TabIs Tryd.prog w "internal/strconv.uint64pow10" .u64 Lib.pow10Tab ∧ 0 < w.heap.size

theorem Pow12.ext {w w' : World} (h : Pow12 w) (hE : Ext w w') : Pow12 w' := ⟨var?_below hE gTab12 h.2 h.1, Nat.lt_of_lt_of_le h.2 hE.size⟩

theorem itoa12 (m : Nat) : Lib.itoa (m : Int) = decS m := by
  rw [decS_digits m m (Nat.le_refl _)]
  unfold Lib.itoa
  rw [if_neg (by omega)]
  simp

theorem iFig_any (m : Nat) (w : World) (h1 : m ≤ 9223372036854775807) (hP : Pow12 w) : Calls Tryd.prog 44 #[.int .i64 (m : Int)] w fun e w' => e = .returned (.string (figB m)) ∧ Ext w w' := by
  have := iDec_any (m : Int) w (by omega) (by omega) hP.1
  rw [itoa12] at this
  exact this

/-- Nothing is appended. -/
theorem run_append_none {P : Program} (w : World) (t ty e : TypeId) (i : TypeInfo) (ht : P.underlying t = some (.slice e)) (hi : P.info? e = some i) (base : Option Addr) (n c : Nat) (hle : n ≤ c) :
    (Builtin.append_ #[t, t] ty #[.slice base n c, .slice none 0 0]).run P w = .ok (.slice base n c) w := by
  cases base <;> simp [Builtin.append_, run_underlying ht, sizeOf, typeInfo, hi, Builtin.lenOf, Builtin.firstCells, loadCells, hle, storeCells]

theorem append_own_lines (w : World) {ops : Array Oper} {rest : List Oper} {o : Oper} {a : Act} {Q : Exit → Act → World → Prop} (hgd : o.guard = none) (s x : Operand)
    (ho : o.op = .call { callee := .builtin .append, args := #[s, x], argTypes := #[33, 33] })
    {w0 : World} (v : Value) (ls ms : List Ln) (hs : a.eval s = v) (hown : OwnL w w0.heap.size v ls) (hE : Ext w0 w) {C : Nat} (u : Value) (hx : a.eval x = u) (hu : OwnL w C u ms) (h63 : ls.length + ms.length ≤ 1000000000)
    (h : ∀ v' w', OwnL w' w0.heap.size v' (ls ++ ms) → Ext w0 w' → wpList Tryd.prog ops Q rest (a.put o.dst v') w') : wpList Tryd.prog ops Q (o :: rest) a w := by
  have hu2 : w.ownsRow C 38 7 u ms.length (flatL ms) := hu
  rcases hu2.2 with ⟨rfl, h0⟩ | ⟨g, cap, cur, rfl, _⟩
  · obtain rfl : ms = [] := List.eq_nil_of_length_eq_zero h0
    obtain ⟨i0, hi, hz0, hz1, hz2⟩ := info_parts Tryd.infoLn
    obtain ⟨b, cap, rfl, hle, _⟩ := hown.lns
    have hr := run_append_none (P := Tryd.prog) w 33 o.type 38 i0 Tryd.underlying33 hi b ls.length cap hle
    refine wpList_plain hgd fun _ hK => ?_
    unfold Oper.wp execOp
    simp only [ho, resolve, invoke, builtin, Sem.run_bind, Sem.run_pure, Result.andThen_ok, List.map_toArray, List.map_cons, List.map_nil, hs, hx, hr]
    exact hK _ _ (h _ _ (by rw [List.append_nil]; exact hown) hE)
  · exact append_lines w hgd s x ho v ls ms hs hown hE g ms.length cap hx rfl hu.cell h63 h

set_option maxRecDepth 100000 in
set_option maxHeartbeats 8000000 in
theorem iRuleLines_any (zs : List Int) (cs : List CN) (act data : Int) (a1 a2 : Option Addr) (n1 n c1 c2 : Nat) (base no : ByteArray) (w : World) (hn : n = cs.length) (hl : n ≤ 1048576) (h : Conds w a2 cs) (hb : base.size ≤ 1048576) (hno : no.size ≤ 1048576) (hP : Pow12 w) :
    Calls Tryd.prog 12 #[.agg #[.slice a1 n1 c1, .slice a2 n c2, .int .i64 act, .int .i64 data], .string base, .string no] w fun e w' => ∃ v, e = .returned v ∧ OwnL w' w.heap.size v (ruleL ⟨zs, cs, act, data⟩ base no) ∧ Ext w w' := by
  have HN : Hid (n = cs.length) := hn
  have HR : Hid (ruleL ⟨zs, cs, act, data⟩ base no = rulesL base no cs n ++ [plainL 8 (resV act data)]) := by rw [hn]; exact rfl
  have HA : Hid (∀ W, Ext w W → Conds W a2 cs) := fun W hE => h.step hE
  have HLN : Hid (∀ k, k ≤ n → (rulesL base no cs k).length ≤ 10485760) := fun k hk => by have := rulesL_len base no cs k; omega
  have HB : Hid (base.size ≤ 1048576 ∧ no.size ≤ 1048576) := ⟨hb, hno⟩
  rw [HR.out]
  clear h hn HR hb hno
  have HP : Hid (∀ W, Ext w W → Pow12 W) := fun W hE => hP.ext hE
  have HC : Hid (∀ W, Calls Tryd.prog 34 #[.string no] W fun e w' => e = .returned (.string no) ∧ Ext W w') := fun W => clone_any no W (by have := HB.out.2; omega)
  clear hP
  go_enter Tryd.func12, Tryd.ntmps12
  go_wp2_with fail
  refine (HC.out _).mono ?_
  rintro e w1 ⟨rfl, x1⟩
  have X1 : Hid (Ext w w1) := (Ext.one w _).trans x1
  have p1 := (CellsAt.new w [.slice a1 n1 c1, .slice a2 n c2, .int .i64 act, .int .i64 data] 47).step x1
  have HR1 : Hid (CellsAt w1 w.heap.size [.slice a1 n1 c1, .slice a2 n c2, .int .i64 act, .int .i64 data]) := p1
  obtain ⟨q0, q1, q2, q3⟩ := (⟨p1.2 0 _ rfl, p1.2 1 _ rfl, p1.2 2 _ rfl, p1.2 3 _ rfl⟩ : _ ∧ _ ∧ _ ∧ _)
  clear x1 p1 HC
  go_wp2_with fail
  go_loopw [7, 17] (fun v i wr => ∃ k : Nat, i = .int .i64 k ∧ k ≤ n ∧ Hid (OwnL wr w1.heap.size v (rulesL base no cs k) ∧ Ext w1 wr)) (fun _ i _ => n - (intOf i).toNat)
  case atStart => exact ⟨0, rfl, by omega, OwnL.nil _ _, Ext.refl _⟩
  case round =>
    obtain ⟨k, rfl, hk, HK⟩ := hrel
    clear q0 q1 q2 q3
    by_cases hlt : k < n
    · have bk : (k : Int) < (n : Int) := by omega
      obtain ⟨c, hcc⟩ : ∃ c, c = cs.getD k c0 := ⟨_, rfl⟩
      obtain ⟨b, off, rfl, hbl, hs⟩ := (HA.out wr (X1.out.trans HK.out.2)).at (k := k) (by have := HN.out; omega) hcc
      obtain ⟨F, hF⟩ : ∃ F, F = figB k := ⟨_, rfl⟩
      obtain ⟨nx, hnx⟩ : ∃ s, s = nextB base k := ⟨_, rfl⟩
      obtain ⟨nb, hnb⟩ : ∃ s, s = numB base k := ⟨_, rfl⟩
      obtain ⟨n0, hn0⟩ : ∃ s : ByteArray, s = base ++ ⟨#[110]⟩ := ⟨_, rfl⟩
      have hFs : F.size ≤ 8 := by rw [hF]; exact figB_size (by omega)
      have hn0s : n0.size = base.size + 1 := by rw [hn0, ByteArray.size_append]; rfl
      have ad0 : ∀ wx, (Op.stringOp .add base ⟨#[110]⟩).run Tryd.prog wx = .ok (.string n0) wx := fun wx => by
        rw [hn0]; exact run_string_add_sum (P := Tryd.prog) wx base ⟨#[110]⟩ (by have := HB.out.1; show base.size + 1 ≤ _; omega)
      have ad1 : ∀ wx, (Op.stringOp .add n0 F).run Tryd.prog wx = .ok (.string nx) wx := fun wx => by
        rw [hnx, show nextB base k = n0 ++ F by rw [hn0, hF]; rfl]; exact run_string_add_sum (P := Tryd.prog) wx n0 F (by have := HB.out.1; omega)
      have ad2 : ∀ wx, (Op.stringOp .add base F).run Tryd.prog wx = .ok (.string nb) wx := fun wx => by
        rw [hnb, show numB base k = base ++ F by rw [hF]; rfl]; exact run_string_add_sum (P := Tryd.prog) wx base F (by have := HB.out.1; omega)
      have HNX : Hid (nb.size ≤ 1000000000 ∧ nx.size ≤ 1000000000 ∧ no.size ≤ 1000000000) := by
        have := HB.out
        refine ⟨?_, ?_, by omega⟩
        · rw [hnb, show numB base k = base ++ F by rw [hF]; rfl, ByteArray.size_append]; omega
        · rw [hnx, show nextB base k = n0 ++ F by rw [hn0, hF]; rfl, ByteArray.size_append]; omega
      have HS : Hid (rulesL base no cs (k + 1) = rulesL base no cs k ++ (condL c nb nx no ++ [placeL nx])) := by rw [hnb, hnx, hcc]; rfl
      have HLK : Hid ((rulesL base no cs k).length ≤ 10485760 ∧ (condL c nb nx no).length ≤ 9) := ⟨HLN.out k hk, condL_len _ _ _ _⟩
      have HFF : Hid (∀ W, Ext w W → Calls Tryd.prog 44 #[.int .i64 (k : Int)] W fun e w' => e = .returned (.string F) ∧ Ext W w') := fun W hE => by rw [hF]; exact iFig_any k W (by omega) (HP.out W hE)
      clear hF hnx hnb hn0 hcc hFs hn0s hbl
      obtain ⟨ag, mh, ml, cm, vh, vl⟩ := c
      obtain ⟨p0, p1, p2, p3, p4, p5⟩ := hs.six
      simp only at p0 p1 p2 p3 p4 p5
      clear hs
      go_wp2_with fail
      refine (HFF.out _ ((X1.out.trans HK.out.2).alloc _)).mono ?_
      rintro e w2 ⟨rfl, x2⟩
      have HK2 : Hid (OwnL w2 w1.heap.size u7 (rulesL base no cs k) ∧ Ext w1 w2) := ⟨(HK.out.1.ext (Ext.one _ _)).ext x2, (HK.out.2.alloc _).trans x2⟩
      have cc := (CellsAt.new wr [.int .i64 ag, .int .i64 mh, .int .i64 ml, .int .i64 cm, .int .i64 vh, .int .i64 vl] 27).step x2
      obtain ⟨t0, t1, t2, t3, t4, t5⟩ := (⟨cc.2 0 _ rfl, cc.2 1 _ rfl, cc.2 2 _ rfl, cc.2 3 _ rfl, cc.2 4 _ rfl, cc.2 5 _ rfl⟩ : _ ∧ _ ∧ _ ∧ _ ∧ _ ∧ _)
      clear x2 cc HK p0 p1 p2 p3 p4 p5 HFF
      go_wp2_with fail
      refine (condLines_any ag mh ml cm vh vl nb nx no _ HNX.out.1).mono ?_
      rintro e w3 ⟨v3, rfl, o3, x3⟩
      have HO3 : Hid (OwnL w3 w2.heap.size v3 (condL ⟨ag, mh, ml, cm, vh, vl⟩ nb nx no)) := o3
      have HK3 : Hid (OwnL w3 w1.heap.size u7 (rulesL base no cs k) ∧ Ext w1 w3) := ⟨HK2.out.1.ext x3, HK2.out.2.trans x3⟩
      clear x3 o3 HK2 t0 t1 t2 t3 t4 t5 ad0 ad1 ad2
      go_wp2_with (at_builtin; refine append_own_lines _ rfl _ _ rfl (w0 := w1) _ _ (condL ⟨ag, mh, ml, cm, vh, vl⟩ nb nx no) rfl HK3.out.1 HK3.out.2 _ rfl HO3.out (by have := HLK.out; omega) ?_)
      intro v4 w4 o4 x4
      have HK4 : Hid (OwnL w4 w1.heap.size v4 (rulesL base no cs k ++ condL ⟨ag, mh, ml, cm, vh, vl⟩ nb nx no) ∧ Ext w1 w4) := ⟨o4, x4⟩
      clear o4 x4 HK3 HO3
      go_wp2_with (at_builtin; refine append_lines _ rfl _ _ rfl (w0 := w1) _ _ [placeL nx] rfl (HK4.out.1.ext (Ext.one _ _)) (HK4.out.2.alloc _) w4.heap.size 1 1 rfl rfl (CellsAt.new w4 (flatL [placeL nx]) 38).2 (by have := HLK.out; simp only [List.length_append, List.length_cons, List.length_nil]; omega) ?_)
      intro v5 w5 o5 x5
      have HK5 : Hid (OwnL w5 w1.heap.size v5 (rulesL base no cs (k + 1)) ∧ Ext w1 w5) := ⟨by rw [HS.out]; exact o5, x5⟩
      clear o5 x5 HK4 HS HNX HLK
      go_wp2
      go_roundw
      case rel => exact ⟨k + 1, by go_num, by omega, HK5.out⟩
      case measure => simp [intOf]; omega
    · have bk : ¬ ((k : Int) < (n : Int)) := by omega
      have hkn : k = n := by omega
      subst hkn
      have HR2 := HR1.out.step HK.out.2
      obtain ⟨q0, q1, q2, q3⟩ := (⟨HR2.2 0 _ rfl, HR2.2 1 _ rfl, HR2.2 2 _ rfl, HR2.2 3 _ rfl⟩ : _ ∧ _ ∧ _ ∧ _)
      clear HR2
      go_wp2_with fail
      refine (iResultOf_any act data _).mono ?_
      rintro e w2 ⟨rfl, rfl⟩
      go_wp2_with (at_builtin; refine append_lines _ rfl _ _ rfl (w0 := w1) _ _ [plainL 8 (resV act data)] rfl (HK.out.1.ext (Ext.one _ _)) (HK.out.2.alloc _) wr.heap.size 1 1 rfl rfl (CellsAt.new wr (flatL [plainL 8 (resV act data)]) 38).2 (by have := HLN.out k (Nat.le_refl _); simp only [List.length_cons, List.length_nil]; omega) ?_)
      intro v5 w5 o5 x5
      have HK5 : Hid (OwnL w5 w.heap.size v5 (rulesL base no cs k ++ [plainL 8 (resV act data)]) ∧ Ext w w5) := ⟨o5.mono X1.out.size, X1.out.trans x5⟩
      clear o5 x5 HK
      go_wp2
      go_ret
      exact ⟨_, rfl, HK5.out⟩

end Go.Proofs.YthflflhcbnianaaDoor
