/- What (shaState).afterBlock answers: the state behind a block. -/
import Derived.Test.YtfbdbeaijkhbfaaDoorSchedI
import Derived.Test.YtfbdbeaijkhbfaaDoorShaTab
namespace Go.Proofs.YtfbdbeaijkhbfaaDoor
open Go.RowKit
set_option linter.unusedVariables false

theorem not32 (e : Nat) (he : e < 4294967296) : 4294967295 - e = e ^^^ 4294967295 := by
  apply Nat.eq_of_testBit_eq
  intro i
  have : (4294967295 : Nat) - e = 2 ^ 32 - (e + 1) := by omega
  rw [this, Nat.testBit_two_pow_sub_succ (by omega : e < 2 ^ 32), Nat.testBit_xor, show (4294967295 : Nat) = 2 ^ 32 - 1 by decide, Nat.testBit_two_pow_sub_one]
  by_cases hi : i < 32
  · simp [hi]
  · have h2 : 2 ^ 32 ≤ 2 ^ i := Nat.pow_le_pow_right (by omega) (by omega)
    have : e.testBit i = false := Nat.testBit_lt_two_pow (by omega)
    simp [hi, this]

/-- The first i numbers of l with those of t added. -/
def addUpto (l t : List Nat) (i : Nat) : List Nat := (List.range 8).map fun j => if j < i then (l.getD j 0 + t.getD j 0) % 4294967296 else l.getD j 0

theorem addUpto_length (l t : List Nat) (i : Nat) : (addUpto l t i).length = 8 := by simp [addUpto]

theorem addUpto_getD (l t : List Nat) (i : Nat) (hi : i < 8) : (addUpto l t i).getD i 0 = l.getD i 0 := by
  simp [addUpto, hi]

theorem addUpto_set (l t : List Nat) (i : Nat) (hi : i < 8) : (addUpto l t i).set i ((l.getD i 0 + t.getD i 0) % 4294967296) = addUpto l t (i + 1) := by
  apply List.ext_getElem?
  intro j
  simp only [addUpto, List.getElem?_set, List.length_map, List.length_range, List.getElem?_map]
  by_cases hij : i = j
  · subst hij; simp [hi]
  · by_cases hj : j < 8
    · have e1 : (j < i + 1) ↔ (j < i) := by omega
      simp [hij, hj, e1]
    · simp [hij, hj]

theorem addUpto_zero (s : St) (t : List Nat) : addUpto s.list t 0 = s.list := rfl

theorem addUpto_full (s t : St) : addUpto s.list t.list 8 = (s.add t).list := rfl

theorem zeros8 : (#[.int .u32 0, .int .u32 0, .int .u32 0, .int .u32 0, .int .u32 0, .int .u32 0, .int .u32 0, .int .u32 0] : Array Value) = (kV .u32 (List.replicate 8 0)).toArray := rfl

theorem index_row {P : Program} (t e : TypeId) (n : Nat) (k : IntKind) (l : List Nat) (i : Nat) (w : World) (hu : P.underlying t = some (.array n e)) (he : P.underlying e = some (.int k)) (hz : ∀ w, (sizeOf e).run P w = .ok 1 w) (hi : i < n) (hl : i < l.length) :
    (Instr.index t (.agg (kV k l).toArray) (.int .i64 (i : Int))).run P w = .ok (.int k (l.getD i 0 : Nat)) w := by
  have h1 : (0 : Int) ≤ (i : Int) ∧ (i : Int) < (n : Int) := by omega
  simp [Instr.index, run_underlying hu, run_underlying he, asIntOf, h1, hz, part, isAgg, kV, hl, go_sem]
  intro h; omega

theorem sz_alloc (w : World) (o : Obj) : (w.alloc o).heap.size = w.heap.size + 1 := by simp

theorem xor3 (r1 r2 r3 : Nat) (h1 : r1 < 4294967296) (h2 : r2 < 4294967296) (h3 : r3 < 4294967296) (p q : Nat) (hp : p = r1 ^^^ r2) (hq : q = r1 ^^^ r2 ^^^ r3) :
    bits .xor .u32 (r1 : Int) (r2 : Int) = (p : Int) ∧ bits .xor .u32 (p : Int) (r3 : Int) = (q : Int) := by
  subst hp; subst hq
  exact ⟨u32_xor_nat _ _ h1 h2, u32_xor_nat _ _ (xor_lt32 _ _ h1 h2) h3⟩

/-- Where afterBlock stands ahead of its rounds: its words' block, its answer's, the schedule's. -/
structure AftW (w wr : World) (d : Nat) (l0 l : List Nat) : Prop where
  row : Row wr w.heap.size 47 .u32 l0
  out : Row wr (w.heap.size + 1) 47 .u32 (List.replicate 8 0)
  sch : Row wr d 58 .u32 l
  below : Below w.heap.size w wr

set_option maxRecDepth 100000 in
set_option maxHeartbeats 1000000 in
theorem after_any (st : St) (s : ByteArray) (w : World) (hs : s.size = 64) (hst : st.ok) (hT : TabK w) :
    Calls Tryd.prog 25 #[.agg (kV .u32 st.list).toArray, .string s] w fun e w' => e = .returned (.agg (kV .u32 (blockSt st s.data.toList).list).toArray) ∧ Below w.heap.size w w' := by
  obtain ⟨l0, hl0⟩ : ∃ l, l = st.list := ⟨_, rfl⟩
  have hlen : l0.length = 8 := by rw [hl0]; rfl
  rw [← hl0]
  have HL0 : Hid (l0 = st.list ∧ l0.length = 8) := ⟨hl0, hlen⟩
  obtain ⟨L, hL⟩ : ∃ L, L = sched s.data.toList 48 := ⟨_, rfl⟩
  have HL : Hid (L = sched s.data.toList 48 ∧ L.length = 64 ∧ ∀ x ∈ L, x < 4294967296) := ⟨hL, by rw [hL]; exact sched_length _ _, by rw [hL]; exact sched_lt _ _⟩
  have HT : Hid (TabK w ∧ st.ok) := ⟨hT, hst⟩
  clear hl0 hlen hT hst
  go_enter Tryd.func25, Tryd.ntmps25
  go_wp2_with fail
  rw [zeros8]
  refine (sched_any s _ hs).mono ?_
  rintro e w1 ⟨rfl, hb⟩
  rw [← hL]
  have r0 : Row w1 w.heap.size 47 .u32 l0 := ((Row.new w 47 .u32 l0).alloc _).below hb (by simp only [sz_alloc]; omega)
  have r1 : Row w1 (w.heap.size + 1) 47 .u32 (List.replicate 8 0) := by
    have := (Row.new (w.alloc (.cells (kV .u32 l0).toArray 47)) 47 .u32 (List.replicate 8 0)).below hb (by simp only [sz_alloc]; omega)
    rw [sz_alloc] at this
    exact this
  have b1 : Below w.heap.size w w1 := (((Below.refl _ w).alloc (Nat.le_refl _) _).alloc (by rw [sz_alloc]; omega) _).trans (hb.mono (by simp only [sz_alloc]; omega))
  have HS : Hid (s.size = 64) := hs
  clear hb hL hs
  have HI : (Tryd.prog.info? 58).map (·.size) = some (kV .u32 L).toArray.size := by
    rw [show (kV .u32 L).toArray.size = 64 by simp [kV, HL.out.2.1]]; kernel_rfl
  have hsz : 64 = (kV .u32 L).toArray.size := by simp [kV, HL.out.2.1]
  go_wp2_with (refine wpList_store_row rfl 58 (.tmp 5) (.tmp 24) rfl w1.heap.size (kV .u32 L).toArray rfl rfl 58 _ (heap_alloc_last w1 _) HI hsz (kV_one _ _) ?_)
  obtain ⟨w2, hw2⟩ : ∃ w2, w2 = (w1.alloc (.cells (kV .u32 (List.replicate 64 0)).toArray 58)).setRow w1.heap.size (kV .u32 L).toArray := ⟨_, rfl⟩
  rw [zeros64, ← hw2]
  obtain ⟨D, hD⟩ : ∃ D, D = w1.heap.size := ⟨_, rfl⟩
  rw [← hD]
  have hW2 : AftW w w2 D l0 L := by
    have k0 := r0.lt
    have k1 := r1.lt
    rw [hw2, hD]
    exact ⟨(r0.alloc _).rowOther (by omega), (r1.alloc _).rowOther (by omega), Row.stored (Row.new w1 58 .u32 (List.replicate 64 0)), below_setRow (b1.alloc b1.size _) b1.size _⟩
  clear hw2 hD r0 r1 b1 hsz
  have HW : Hid (AftW w w2 D l0 L) := hW2
  have c0 := hW2.row.cell 0 (by rw [HL0.out.2]; omega)
  have c1 := hW2.row.cell 1 (by rw [HL0.out.2]; omega)
  have c2 := hW2.row.cell 2 (by rw [HL0.out.2]; omega)
  have c3 := hW2.row.cell 3 (by rw [HL0.out.2]; omega)
  have c4 := hW2.row.cell 4 (by rw [HL0.out.2]; omega)
  have c5 := hW2.row.cell 5 (by rw [HL0.out.2]; omega)
  have c6 := hW2.row.cell 6 (by rw [HL0.out.2]; omega)
  have c7 := hW2.row.cell 7 (by rw [HL0.out.2]; omega)
  rw [show l0.getD 0 0 = st.a by rw [HL0.out.1]; rfl] at c0
  rw [show l0.getD 1 0 = st.b by rw [HL0.out.1]; rfl] at c1
  rw [show l0.getD 2 0 = st.c by rw [HL0.out.1]; rfl] at c2
  rw [show l0.getD 3 0 = st.d by rw [HL0.out.1]; rfl] at c3
  rw [show l0.getD 4 0 = st.e by rw [HL0.out.1]; rfl] at c4
  rw [show l0.getD 5 0 = st.f by rw [HL0.out.1]; rfl] at c5
  rw [show l0.getD 6 0 = st.g by rw [HL0.out.1]; rfl] at c6
  rw [show l0.getD 7 0 = st.h by rw [HL0.out.1]; rfl] at c7
  clear hW2
  go_quiet (fail)
  obtain ⟨w3, hw3⟩ : ∃ w3, w3 = w2.drewN nq := ⟨_, rfl⟩
  rw [← hw3]
  have hW3 : AftW w w3 D l0 L := by
    rw [hw3]
    exact ⟨HW.out.row, HW.out.out, HW.out.sch, below_drewN HW.out.below _⟩
  clear hw3 HW c0 c1 c2 c3 c4 c5 c6 c7
  have HW : Hid (AftW w w3 D l0 L) := hW3
  have hsch : w3.heap[D]? = some (.cells (kV .u32 L).toArray 58 (0, 0)) := hW3.sch
  have HT3 : Hid (TabK w3) := HT.out.1.below hW3.below HT.out.1.pos
  clear hW3
  go_wp2_with (refine wpList_load_row rfl 58 (.tmp 5) rfl D rfl 58 (kV .u32 L).toArray (0, 0) _ hsch Tryd.underlying58 rfl HI ?_)
  clear hsch
  go_loop [6, 7, 8, 9, 10, 11, 12, 13, 50] (fun v6 v7 v8 v9 v10 v11 v12 v13 v50 => ∃ (k : Nat) (t : St), v50 = .int .i64 k ∧ k ≤ 64 ∧ Hid (t = turns keysN L st k) ∧ v6 = .int .u32 (t.a : Int) ∧ v7 = .int .u32 (t.b : Int) ∧ v8 = .int .u32 (t.c : Int) ∧ v9 = .int .u32 (t.d : Int) ∧ v10 = .int .u32 (t.e : Int) ∧ v11 = .int .u32 (t.f : Int) ∧ v12 = .int .u32 (t.g : Int) ∧ v13 = .int .u32 (t.h : Int))
    (fun _ _ _ _ _ _ _ _ i => 64 - (intOf i).toNat)
  case atStart => exact ⟨0, st, rfl, by omega, by unfold Hid; rfl, rfl, rfl, rfl, rfl, rfl, rfl, rfl, rfl⟩
  case round =>
    obtain ⟨k, t, rfl, hk, ht, rfl, rfl, rfl, rfl, rfl, rfl, rfl, rfl⟩ := hrel
    have hok : t.ok := by rw [ht.out]; exact turns_ok _ _ _ HT.out.2 _
    obtain ⟨a, b, c, d, e, f, g, hh⟩ := t
    obtain ⟨la, lb, lc, ld, le, lf, lg, lh⟩ := hok
    simp only at la lb lc ld le lf lg lh
    simp only []
    by_cases hlt : k < 64
    · have bk : (k : Int) < 64 := by omega
      obtain ⟨x, hx⟩ : ∃ x, x = L.getD k 0 := ⟨_, rfl⟩
      obtain ⟨y, hy⟩ : ∃ y, y = keysN.getD k 0 := ⟨_, rfl⟩
      have hidx : (Instr.index 58 (.agg (kV .u32 L).toArray) (.int .i64 (k : Int))).run Tryd.prog w3 = .ok (.int .u32 (x : Int)) w3 := by
        rw [hx]; exact index_row 58 44 64 .u32 L k w3 Tryd.underlying58 Tryd.underlying44 Tryd.sizeOf44 hlt (by rw [HL.out.2.1]; exact hlt)
      have hkey := HT3.out.at k hlt
      rw [← hy] at hkey
      obtain ⟨r6, h6⟩ : ∃ r, r = rot 6 e := ⟨_, rfl⟩
      obtain ⟨r11, h11⟩ : ∃ r, r = rot 11 e := ⟨_, rfl⟩
      obtain ⟨r25, h25⟩ : ∃ r, r = rot 25 e := ⟨_, rfl⟩
      obtain ⟨r2, h2⟩ : ∃ r, r = rot 2 a := ⟨_, rfl⟩
      obtain ⟨r13, h13⟩ : ∃ r, r = rot 13 a := ⟨_, rfl⟩
      obtain ⟨r22, h22⟩ : ∃ r, r = rot 22 a := ⟨_, rfl⟩
      have m6 : r6 < 4294967296 := by rw [h6]; exact rot_lt _ _ le
      have m11 : r11 < 4294967296 := by rw [h11]; exact rot_lt _ _ le
      have m25 : r25 < 4294967296 := by rw [h25]; exact rot_lt _ _ le
      have m2 : r2 < 4294967296 := by rw [h2]; exact rot_lt _ _ la
      have m13 : r13 < 4294967296 := by rw [h13]; exact rot_lt _ _ la
      have m22 : r22 < 4294967296 := by rw [h22]; exact rot_lt _ _ la
      obtain ⟨pE, hpE⟩ : ∃ r, r = r6 ^^^ r11 := ⟨_, rfl⟩
      obtain ⟨E, hE⟩ : ∃ r, r = r6 ^^^ r11 ^^^ r25 := ⟨_, rfl⟩
      obtain ⟨pA, hpA⟩ : ∃ r, r = r2 ^^^ r13 := ⟨_, rfl⟩
      obtain ⟨A, hA⟩ : ∃ r, r = r2 ^^^ r13 ^^^ r22 := ⟨_, rfl⟩
      obtain ⟨xe1, xe2⟩ := xor3 r6 r11 r25 m6 m11 m25 pE E hpE hE
      obtain ⟨xa1, xa2⟩ := xor3 r2 r13 r22 m2 m13 m22 pA A hpA hA
      obtain ⟨q1, hq1⟩ : ∃ r, r = e &&& f := ⟨_, rfl⟩
      obtain ⟨q2, hq2⟩ : ∃ r, r = (e ^^^ 4294967295) &&& g := ⟨_, rfl⟩
      obtain ⟨ch, hch⟩ : ∃ r, r = q1 ^^^ q2 := ⟨_, rfl⟩
      obtain ⟨q3, hq3⟩ : ∃ r, r = a &&& b := ⟨_, rfl⟩
      obtain ⟨q4, hq4⟩ : ∃ r, r = a &&& c := ⟨_, rfl⟩
      obtain ⟨q5, hq5⟩ : ∃ r, r = b &&& c := ⟨_, rfl⟩
      obtain ⟨q6, hq6⟩ : ∃ r, r = q3 ^^^ q4 := ⟨_, rfl⟩
      obtain ⟨mo, hmo⟩ : ∃ r, r = q3 ^^^ q4 ^^^ q5 := ⟨_, rfl⟩
      have n1 : q1 < 4294967296 := by rw [hq1]; exact and_lt32 _ _ le
      have n2 : q2 < 4294967296 := by rw [hq2]; exact and_lt32 _ _ (xor_lt32 _ _ le (by omega))
      have n3 : q3 < 4294967296 := by rw [hq3]; exact and_lt32 _ _ la
      have n4 : q4 < 4294967296 := by rw [hq4]; exact and_lt32 _ _ la
      have n5 : q5 < 4294967296 := by rw [hq5]; exact and_lt32 _ _ lb
      have y1 : bits .and .u32 (e : Int) (f : Int) = (q1 : Int) := by rw [hq1]; exact u32_and_nat _ _ le lf
      obtain ⟨ne, hne⟩ : ∃ r, r = e ^^^ 4294967295 := ⟨_, rfl⟩
      have y0 : bits .xor .u32 IntKind.u32.max (e : Int) = (ne : Int) := by
        rw [show IntKind.u32.max = ((4294967295 : Nat) : Int) by decide, u32_xor_nat _ _ (by omega) le, hne, Nat.xor_comm]
      have hsg : IntKind.u32.signed = false := rfl
      have y2 : bits .and .u32 (ne : Int) (g : Int) = (q2 : Int) := by rw [hq2, ← hne]; exact u32_and_nat _ _ (by rw [hne]; exact xor_lt32 _ _ le (by omega)) lg
      have y3 : bits .xor .u32 (q1 : Int) (q2 : Int) = (ch : Int) := by rw [hch]; exact u32_xor_nat _ _ n1 n2
      have y4 : bits .and .u32 (a : Int) (b : Int) = (q3 : Int) := by rw [hq3]; exact u32_and_nat _ _ la lb
      have y5 : bits .and .u32 (a : Int) (c : Int) = (q4 : Int) := by rw [hq4]; exact u32_and_nat _ _ la lc
      have y6 : bits .and .u32 (b : Int) (c : Int) = (q5 : Int) := by rw [hq5]; exact u32_and_nat _ _ lb lc
      obtain ⟨y7, y8⟩ := xor3 q3 q4 q5 n3 n4 n5 q6 mo hq6 hmo
      obtain ⟨o, ho⟩ : ∃ o, o = (hh + E + ch + y + x) % 4294967296 := ⟨_, rfl⟩
      have y9 : ((hh : Int) + E + ch + y + x) % 4294967296 = (o : Int) := by rw [ho]; omega
      have HR : Hid (r6 = rot 6 e ∧ r11 = rot 11 e ∧ r25 = rot 25 e ∧ r2 = rot 2 a ∧ r13 = rot 13 a ∧ r22 = rot 22 a) := ⟨h6, h11, h25, h2, h13, h22⟩
      have HO : Hid (o = low ⟨a, b, c, d, e, f, g, hh⟩ y x ∧ A = big0 a ∧ mo = most a b c) := by
        refine ⟨?_, by rw [hA, h2, h13, h22]; rfl, by rw [hmo, hq3, hq4, hq5]; rfl⟩
        have eE : E = big1 e := by rw [hE, h6, h11, h25]; rfl
        have ec : ch = choose e f g := by rw [hch, hq1, hq2]; rfl
        rw [ho, eE, ec]
        unfold low
        simp only
        omega
      have HK : Hid (x = L.getD k 0 ∧ y = keysN.getD k 0) := ⟨hx, hy⟩
      clear h6 h11 h25 h2 h13 h22 hpE hE hpA hA hq1 hq2 hq3 hq4 hq5 hq6 hch hmo hne ho hx hy
      go_wp2_with fail
      refine (rotl_at 6 26 e r6 _ _ rfl rfl (by omega) (by omega) le HR.out.1).mono ?_
      rintro ee w4 ⟨rfl, rfl⟩
      go_wp2_with fail
      refine (rotl_at 11 21 e r11 _ _ rfl rfl (by omega) (by omega) le HR.out.2.1).mono ?_
      rintro ee w4 ⟨rfl, rfl⟩
      go_wp2_with fail
      refine (rotl_at 25 7 e r25 _ _ rfl rfl (by omega) (by omega) le HR.out.2.2.1).mono ?_
      rintro ee w4 ⟨rfl, rfl⟩
      go_wp2_with fail
      refine (rotl_at 2 30 a r2 _ _ rfl rfl (by omega) (by omega) la HR.out.2.2.2.1).mono ?_
      rintro ee w4 ⟨rfl, rfl⟩
      go_wp2_with fail
      refine (rotl_at 13 19 a r13 _ _ rfl rfl (by omega) (by omega) la HR.out.2.2.2.2.1).mono ?_
      rintro ee w4 ⟨rfl, rfl⟩
      go_wp2_with fail
      refine (rotl_at 22 10 a r22 _ _ rfl rfl (by omega) (by omega) la HR.out.2.2.2.2.2).mono ?_
      rintro ee w4 ⟨rfl, rfl⟩
      go_wp2
      go_round
      case rel =>
        refine ⟨k + 1, turnSt y x ⟨a, b, c, d, e, f, g, hh⟩, by go_num, by omega, ?_, ?_, rfl, rfl, rfl, ?_, rfl, rfl, rfl⟩
        · unfold Hid
          rw [turns, ← ht.out, ← HK.out.1, ← HK.out.2]
        · have := HO.out
          congr 1
          unfold turnSt high
          simp only
          rw [← this.1, ← this.2.1, ← this.2.2]
          omega
        · have := HO.out
          congr 1
          unfold turnSt
          simp only
          rw [← this.1]
          omega
      case measure => simp [intOf]; omega
    · have hk64 : k = 64 := by omega
      have bk : ¬ ((k : Int) < 64) := by omega
      obtain ⟨t, htt⟩ : ∃ t : St, t = ⟨a, b, c, d, e, f, g, hh⟩ := ⟨_, rfl⟩
      have HE : Hid (t = turns keysN L st 64) := by unfold Hid; rw [htt, ht.out, hk64]
      have htl : #[Value.int .u32 (a : Int), .int .u32 (b : Int), .int .u32 (c : Int), .int .u32 (d : Int), .int .u32 (e : Int), .int .u32 (f : Int), .int .u32 (g : Int), .int .u32 (hh : Int)] = (kV .u32 t.list).toArray := by rw [htt]; rfl
      clear ht hk64 hlt htt
      go_wp2
      try rw [htl]
      clear htl
      go_loopw [124] (fun i wr => ∃ n : Nat, i = .int .i64 n ∧ n ≤ 8 ∧ AftW w wr D (addUpto l0 t.list n) L) (fun i _ => 8 - (intOf i).toNat)
      case atStart =>
        refine ⟨0, rfl, by omega, ?_⟩
        rw [HL0.out.1, addUpto_zero, ← HL0.out.1]
        exact HW.out
      case round =>
        obtain ⟨n, rfl, hn, hW⟩ := hrel
        clear HW
        by_cases hlt : n < 8
        · have bn : (n : Int) < 8 := by omega
          obtain ⟨x, hx⟩ : ∃ x, x = t.list.getD n 0 := ⟨_, rfl⟩
          obtain ⟨y, hy⟩ : ∃ y, y = l0.getD n 0 := ⟨_, rfl⟩
          have hidx : (Instr.index 45 (.agg (kV .u32 t.list).toArray) (.int .i64 (n : Int))).run Tryd.prog wr = .ok (.int .u32 (x : Int)) wr := by
            rw [hx]; exact index_row 45 44 8 .u32 t.list n wr Tryd.underlying45 Tryd.underlying44 Tryd.sizeOf44 hlt hlt
          have hc := hW.row.cell n (by rw [addUpto_length]; exact hlt)
          rw [addUpto_getD _ _ _ hlt, ← hy] at hc
          have hf := hW.row.frozen n
          have HW : Hid (AftW w wr D (addUpto l0 t.list n) L ∧ x = t.list.getD n 0 ∧ y = l0.getD n 0) := ⟨hW, hx, hy⟩
          clear hW hx hy
          go_wp2
          obtain ⟨w5, hw5⟩ : ∃ w5, w5 = wr.setCell ⟨w.heap.size, n, none⟩ (.int .u32 (((y : Int) + x) % 4294967296)) := ⟨_, rfl⟩
          rw [← hw5]
          have hW5 : AftW w w5 D (addUpto l0 t.list (n + 1)) L := by
            obtain ⟨hW, hx, hy⟩ := HW.out
            rw [hw5]
            have hD : w.heap.size < D ∨ D < w.heap.size ∨ D = w.heap.size := by omega
            refine ⟨?_, hW.out.other (by omega), hW.sch.other ?_, hW.below.setCell (Nat.le_refl _) _⟩
            · rw [← addUpto_set l0 t.list n hlt]
              exact hW.row.set n _ _ (by rw [← hx, ← hy]; omega)
            · intro h
              have h1 := hW.row
              have h2 := hW.sch
              unfold Row at h1 h2
              rw [h, h1] at h2
              simp at h2
          clear hw5 HW hidx hc hf
          go_roundw
          case rel => exact ⟨n + 1, by go_num, by omega, hW5⟩
          case measure => simp [intOf]; omega
        · have hn8 : n = 8 := by omega
          have bn : ¬ ((n : Int) < 8) := by omega
          rw [hn8, HL0.out.1, addUpto_full, HE.out, HL.out.1] at hW
          obtain ⟨R, hR⟩ : ∃ R : List Nat, R = (blockSt st s.data.toList).list := ⟨_, rfl⟩
          have hRl : R.length = 8 := by rw [hR]; rfl
          have hW' : AftW w wr D R L := by rw [hR, HL.out.1]; exact hW
          have HR : Hid (AftW w wr D R L) := hW'
          have hrow : wr.heap[w.heap.size]? = some (.cells (kV .u32 R).toArray 47 (0, 0)) := hW'.row
          have hout : wr.heap[w.heap.size + 1]? = some (.cells (kV .u32 (List.replicate 8 0)).toArray 47 (0, 0)) := hW'.out
          have hsz : (kV .u32 (List.replicate 8 0)).toArray.size = (kV .u32 R).toArray.size := by simp [kV, hRl]
          have HI8 : (Tryd.prog.info? 47).map (·.size) = some (kV .u32 R).toArray.size := by
            rw [show (kV .u32 R).toArray.size = 8 by simp [kV, hRl]]; kernel_rfl
          have HRe : Hid (R = (blockSt st s.data.toList).list) := hR
          clear hW hW' hR hn8 hRl
          go_wp2_with (first
            | (refine wpList_load_row rfl 47 (.tmp 2) rfl w.heap.size rfl 47 (kV .u32 R).toArray (0, 0) _ hrow Tryd.underlying47 rfl HI8 ?_)
            | (refine wpList_store_row rfl 47 (.tmp 4) (.tmp 137) rfl (w.heap.size + 1) (kV .u32 R).toArray rfl rfl 47 _ hout HI8 hsz (kV_one _ _) ?_))
          exact bodyPost_ret (results_cell_row Tryd.results25 _ _ (w.heap.size + 1) 47 (kV .u32 R).toArray (0, 0) _ rfl (Row.stored HR.out.out) Tryd.underlying47 rfl HI8) rfl ⟨by rw [HRe.out], below_setRow HR.out.below (by omega) _⟩

end Go.Proofs.YtfbdbeaijkhbfaaDoor
