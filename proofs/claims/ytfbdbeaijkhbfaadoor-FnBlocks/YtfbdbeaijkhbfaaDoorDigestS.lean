/- What spec.Digest answers at every text of at most 1048576 bytes. -/
import Derived.Test.YtfbdbeaijkhbfaaDoorDigestI
import Derived.Test.YtfbdbeaijkhbfaaDoorBlockS
import Derived.Test.YtfbdbeaijkhbfaaDoorFirstS
import Derived.Test.YtfbdbeaijkhbfaaDoorPadS
import Derived.StillTailTactics
namespace Go.Proofs.YtfbdbeaijkhbfaaDoor
open Go.RowKit
set_option linter.unusedVariables false

theorem wpStill_load_row {P : Program} {ops : Array Oper} {w : World} {Q : Act → Prop} {a : Act} {o : Oper} {rest : List Oper} (hgd : o.guard = none) (ty : TypeId) (x : Operand) (ho : o.op = .load ty x)
    (g : Nat) (hx : a.eval x = .pointer (some ⟨g, 0, none⟩)) (t : TypeId) (cs : Array Value) (fr : Nat × Nat) (d : TypeDesc) (hg : w.heap[g]? = some (.cells cs t fr))
    (hu : P.underlying ty = some d) (hd : (match d with | .struct _ | .array _ _ => true | _ => false) = true) (hi : (P.info? ty).map (·.size) = some cs.size)
    (h : wpStill P ops w Q rest (a.put o.dst (.agg cs))) : wpStill P ops w Q (o :: rest) a := by
  unfold wpStill
  rw [if_pos (by simp [Region.wanted, hgd])]
  unfold Oper.still execOp
  simp only [ho, hx, Instr.loadAt, Instr.sureAddr, Sem.run_bind, Sem.run_pure, Result.andThen_ok, run_loadVar_row w g t ty cs fr d hg hu hd hi]
  rw [Oper.stillUpon_value]
  exact h

/-- The first q words' bytes, and zeros up to 32, as numbers. -/
def outK (l : List Nat) (q : Nat) : List Nat := padZ 32 ((bytesK l q).map UInt8.toNat)

theorem outK_set (l : List Nat) (q x j0 j1 j2 j3 : Nat) (hl : l.length = 8) (hq : q < 8) (hx : x = l.getD q 0) (h0 : j0 = 4 * q) (h1 : j1 = j0 + 1) (h2 : j2 = j0 + 2) (h3 : j3 = j0 + 3) :
    ((((outK l q).set j0 (x / 16777216 % 256)).set j1 (x / 65536 % 256)).set j2 (x / 256 % 256)).set j3 (x % 256) = outK l (q + 1) := by
  have hb := bytesK_length l q (by omega)
  obtain ⟨M, hM⟩ : ∃ M, M = (bytesK l q).map UInt8.toNat := ⟨_, rfl⟩
  have hml : M.length = 4 * q := by rw [hM, List.length_map, hb]
  unfold outK
  rw [bytesK_succ l q (by omega), ← hx, beN_4, List.map_append, ← hM]
  have s0 := padZ_set 32 M (x / 16777216 % 256) (by omega)
  have s1 := padZ_set 32 (M ++ [x / 16777216 % 256]) (x / 65536 % 256) (by simp; omega)
  have s2 := padZ_set 32 (M ++ [x / 16777216 % 256] ++ [x / 65536 % 256]) (x / 256 % 256) (by simp; omega)
  have s3 := padZ_set 32 (M ++ [x / 16777216 % 256] ++ [x / 65536 % 256] ++ [x / 256 % 256]) (x % 256) (by simp; omega)
  simp only [List.length_append, List.length_cons, List.length_nil, hml] at s0 s1 s2 s3
  have g0 : j0 = 4 * q := h0
  have g1 : j1 = 4 * q + (0 + 1) := by omega
  have g2 : j2 = 4 * q + (0 + 1) + (0 + 1) := by omega
  have g3 : j3 = 4 * q + (0 + 1) + (0 + 1) + (0 + 1) := by omega
  rw [g0, g1, g2, g3, s0, s1, s2, s3]
  congr 1
  simp [be4]

theorem outK_length (l : List Nat) (q : Nat) (hl : l.length = 8) (hq : q ≤ 8) : (outK l q).length = 32 :=
  padZ_length 32 _ (by rw [List.length_map, bytesK_length l q (by omega)]; omega)

theorem outK_zero (l : List Nat) : outK l 0 = List.replicate 32 0 := rfl

theorem outK_full (s : St) : outK s.list 8 = s.bytes.map UInt8.toNat := by
  unfold outK
  rw [bytesK_full]
  exact padZ_full 32 _ (by simp [bytes_length])

theorem madeZ' (n : Nat) : madeCells (Value.int IntKind.u8 0).cells n = (kV .u8 (List.replicate n 0)).toArray := by
  apply Array.ext
  · simp [madeCells, kV]
  · intro i h1 h2
    simp [madeCells, kV, Value.cells, Nat.mod_one]

theorem madeZ : madeCells (Value.int IntKind.u8 0).cells (32 * 1) = (kV .u8 (List.replicate 32 0)).toArray := madeZ' 32

theorem made32 (w : World) (base g c : Nat) (h : w.ownsRow base 5 1 (.slice (some ⟨g, 0, none⟩) 32 c) 32 (madeCells (Value.int IntKind.u8 0).cells (32 * 1)).toList) (hc : c = 32) : Row w g 5 .u8 (List.replicate 32 0) := by
  subst hc
  rcases h.2 with ⟨hn, _⟩ | ⟨g', cap, cur, hv, _, hh, _, _, hs, ht⟩
  · cases hn
  · obtain ⟨rfl, rfl⟩ : g = g' ∧ 32 = cap := by injection hv with h1 h2 h3; injection h1 with h1; injection h1 with a b c; exact ⟨a, h3⟩
    unfold Row
    rw [hh]
    congr 2
    have h1 : cur.toList = (madeCells (Value.int IntKind.u8 0).cells (32 * 1)).toList := by rw [← ht, List.take_of_length_le (by simp; omega)]
    have h2 : cur = madeCells (Value.int IntKind.u8 0).cells (32 * 1) := Array.toList_inj.1 h1
    rw [h2]
    exact madeZ

theorem mixed : Tryd.prog.follows .mixedOrders = true := by kernel_rfl

theorem block_at (st R : St) (s : ByteArray) (L : List UInt8) (K : List Nat) (v u : Value) (w : World) (hv : v = .agg (kV .u32 st.list).toArray) (hu : u = .agg (kV .u32 K).toArray) (hK : K = keysN) (hs : s = ⟨L.toArray⟩) (hl : L.length = 64) (hst : st.ok) (hR : R = blockSt st L) :
    Calls Tryd.prog 34 #[v, .string s, u] w fun e w' => e = .returned (.agg (kV .u32 R.list).toArray) ∧ Below w.heap.size w w' := by
  subst hv; subst hu; subst hK; subst hs; subst hR
  exact block_any st ⟨L.toArray⟩ w (by show L.toArray.size = 64; rw [List.size_toArray]; exact hl) hst

set_option maxRecDepth 100000 in
set_option maxHeartbeats 2000000 in
theorem sDigest_any (s : ByteArray) (w : World) (hs : s.size ≤ 1048576) :
    Calls Tryd.prog 12 #[.string s] w fun e w' => e = .returned (.string ⟨(digestL s.data.toList).toArray⟩) ∧ Below w.heap.size w w' := by
  obtain ⟨i0_1, hi, hz0, hz1, hz2⟩ := info_parts Tryd.infoB
  obtain ⟨p, hp⟩ : ∃ p, p = padL s.data.toList := ⟨_, rfl⟩
  obtain ⟨n, hn⟩ : ∃ n, n = (s.size + 8) / 64 + 1 := ⟨_, rfl⟩
  have hpl : p.length = 64 * n := by rw [hp, padL_length, hn]; show (s.size + 8) / 64 * 64 + 64 = _; omega
  have HP : Hid (p = padL s.data.toList ∧ p.length = 64 * n ∧ n = (s.size + 8) / 64 + 1 ∧ n ≤ 20000 ∧ s.size ≤ 1048576) := ⟨hp, hpl, hn, by omega, hs⟩
  clear hpl hn hs
  obtain ⟨Bg, hBg⟩ : ∃ Bg, Bg = (kV .u32 begin8.list).toArray := ⟨_, rfl⟩
  have HB : Hid (Bg = (kV .u32 begin8.list).toArray ∧ (Tryd.prog.info? 45).map (·.size) = some Bg.size ∧ 8 = Bg.size ∧ Bg.all (·.oneCell') = true) := by
    refine ⟨hBg, ?_, ?_, ?_⟩
    · rw [hBg]; kernel_rfl
    · rw [hBg]; rfl
    · rw [hBg]; exact kV_one _ _
  obtain ⟨Ks, hKs⟩ : ∃ Ks, Ks = (kV .u32 keysN).toArray := ⟨_, rfl⟩
  have HK : Hid (Ks = (kV .u32 keysN).toArray ∧ (Tryd.prog.info? 58).map (·.size) = some Ks.size ∧ 64 = Ks.size ∧ Ks.all (·.oneCell') = true) := by
    refine ⟨hKs, ?_, ?_, ?_⟩
    · rw [hKs]; kernel_rfl
    · rw [hKs]; rfl
    · rw [hKs]; exact kV_one _ _
  go_enter Tryd.func12, Tryd.ntmps12
  go_wp2_with fail
  refine (l03First_any _).mono ?_
  rintro e w1 ⟨rfl, b1⟩
  rw [← hBg]
  clear hBg
  go_wp2_with (refine wpList_store_row rfl 45 (.tmp 3) (.tmp 9) rfl w1.heap.size Bg rfl rfl 45 _ (heap_alloc_last w1 _) HB.out.2.1 HB.out.2.2.1 HB.out.2.2.2 ?_)
  rw [zeros8]
  obtain ⟨w2, hw2⟩ : ∃ w2, w2 = (w1.alloc (.cells (kV .u32 (List.replicate 8 0)).toArray 45)).setRow w1.heap.size Bg := ⟨_, rfl⟩
  rw [← hw2]
  obtain ⟨S, hS⟩ : ∃ S, S = w1.heap.size := ⟨_, rfl⟩
  rw [← hS]
  have hSw : w.heap.size ≤ S := by rw [hS]; exact b1.size
  have r2 : Row w2 S 45 .u32 begin8.list := by rw [hw2, hS, HB.out.1]; exact Row.stored (Row.new w1 45 .u32 (List.replicate 8 0))
  have b2 : Below w.heap.size w w2 := by rw [hw2]; exact below_setRow (b1.alloc b1.size _) b1.size _
  clear hw2 hS b1
  refine (l03Keys_any _).mono ?_
  rintro e w3 ⟨rfl, b3⟩
  rw [← hKs]
  clear hKs
  have r3 := r2.below b3 r2.lt
  have c3 := b2.trans (b3.mono b2.size)
  clear r2 b2 b3
  go_wp2_with (refine wpList_store_row rfl 58 (.tmp 4) (.tmp 10) rfl w3.heap.size Ks rfl rfl 58 _ (heap_alloc_last w3 _) HK.out.2.1 HK.out.2.2.1 HK.out.2.2.2 ?_)
  rw [zeros64]
  obtain ⟨w4, hw4⟩ : ∃ w4, w4 = (w3.alloc (.cells (kV .u32 (List.replicate 64 0)).toArray 58)).setRow w3.heap.size Ks := ⟨_, rfl⟩
  rw [← hw4]
  obtain ⟨T, hT⟩ : ∃ T, T = w3.heap.size := ⟨_, rfl⟩
  rw [← hT]
  obtain ⟨K, hKK⟩ : ∃ K, K = keysN := ⟨_, rfl⟩
  have hST : S < T := by rw [hT]; exact r3.lt
  have r4 : Row w4 S 45 .u32 begin8.list := by rw [hw4]; exact (r3.alloc _).rowOther (by omega)
  have k4 : Row w4 T 58 .u32 K := by rw [hw4, hT, HK.out.1, hKK]; exact Row.stored (Row.new w3 58 .u32 (List.replicate 64 0))
  have c4 : Below w.heap.size w w4 := by rw [hw4]; exact below_setRow (c3.alloc c3.size _) c3.size _
  have HKK : Hid (K = keysN) := hKK
  clear hw4 hT hKK r3 c3
  refine (sPad_any s _ HP.out.2.2.2.2).mono ?_
  rintro e w5 ⟨rfl, b5⟩
  rw [← hp]
  have r5 := r4.below b5 r4.lt
  have k5 := k4.below b5 k4.lt
  have c5 := c4.trans (b5.mono c4.size)
  clear r4 k4 c4 b5 hp HB HK
  obtain ⟨P, hP⟩ : ∃ P : ByteArray, P = ⟨p.toArray⟩ := ⟨_, rfl⟩
  rw [← hP]
  have hPs : P.size = 64 * n := by rw [hP]; show p.toArray.size = _; rw [List.size_toArray]; exact HP.out.2.1
  have HPP : Hid (P = ⟨p.toArray⟩ ∧ P.size = 64 * n) := ⟨hP, hPs⟩
  clear hP hPs
  go_wp2_with fail
  go_loopw [6] (fun i wr => ∃ (k : Nat) (st : St), i = .int .i64 ((64 * k : Nat) : Int) ∧ k ≤ n ∧ Hid (st = blocks begin8 p k) ∧ Row wr S 45 .u32 st.list ∧ Row wr T 58 .u32 K ∧ Below w.heap.size w wr) (fun i _ => 64 * n - (intOf i).toNat)
  case atStart => exact ⟨0, begin8, rfl, by omega, rfl, r5, k5, c5⟩
  case round =>
    obtain ⟨k, st, rfl, hk, hst, hrow, hkey, hb⟩ := hrel
    clear r5 k5 c5
    have hok : st.ok := by rw [hst.out]; exact blocks_ok _ begin8_ok _ _
    obtain ⟨j, hj⟩ : ∃ j, j = 64 * k := ⟨_, rfl⟩
    rw [← hj]
    by_cases hlt : k < n
    · obtain ⟨j2, hj2⟩ : ∃ j2, j2 = j + 64 := ⟨_, rfl⟩
      have e1 : (j : Int) + 64 = (j2 : Int) := by omega
      have ew : IntKind.i64.wrap ((j : Int) + 64) = (j2 : Int) := by have := HP.out.2.2.2.1; rw [IntWalk.i64_in _ (by omega)]; omega
      have ew2 : IntKind.i64.wrap (j2 : Int) = (j2 : Int) := by have := HP.out.2.2.2.1; rw [IntWalk.i64_in _ (by omega)]
      have hPs := HPP.out.2
      have hn4 := HP.out.2.2.2.1
      have i0 : (j : Int) < (P.size : Int) := by omega
      have i1 : (0 : Int) ≤ (j : Int) := by omega
      have i2 : (j : Int) ≤ (j2 : Int) := by omega
      have i3 : (j2 : Int) ≤ (P.size : Int) := by omega
      have i4 : (P.size : Int) ≤ 1280000 := by omega
      obtain ⟨L, hL⟩ : ∃ L, L = (p.drop (64 * k)).take 64 := ⟨_, rfl⟩
      have hLl : L.length = 64 := by have := HP.out.2.1; rw [hL]; simp; omega
      obtain ⟨X, hX⟩ : ∃ X, P.extract j j2 = X := ⟨_, rfl⟩
      have hXe : X = ⟨L.toArray⟩ := by rw [← hX, HPP.out.1, hj2, hj, hL]; exact extract_blk p k (by have := HP.out.2.1; omega)
      obtain ⟨R, hR⟩ : ∃ R, R = blockSt st L := ⟨_, rfl⟩
      have HR : Hid (R = blockSt st L ∧ X = ⟨L.toArray⟩ ∧ L.length = 64 ∧ L = (p.drop (64 * k)).take 64 ∧ j = 64 * k ∧ j2 = j + 64) := ⟨hR, hXe, hLl, hL, hj, hj2⟩
      have HROW : Hid (Row wr S 45 .u32 st.list ∧ Row wr T 58 .u32 K ∧ Below w.heap.size w wr) := ⟨hrow, hkey, hb⟩
      have HOK : Hid st.ok := hok
      have hSl := hrow.lt
      have hTl := hkey.lt
      have hrw : wr.heap[S]? = some (.cells (kV .u32 st.list).toArray 45 (0, 0)) := hrow
      have hkw : wr.heap[T]? = some (.cells (kV .u32 K).toArray 58 (0, 0)) := hkey
      have HI : Hid ((Tryd.prog.info? 45).map (·.size) = some (kV .u32 st.list).toArray.size ∧ (Tryd.prog.info? 58).map (·.size) = some (kV .u32 K).toArray.size ∧ (Tryd.prog.info? 45).map (·.size) = some (kV .u32 R.list).toArray.size ∧ (kV .u32 st.list).toArray.size = (kV .u32 R.list).toArray.size) := by
        refine ⟨?_, ?_, ?_, rfl⟩
        · rw [show (kV .u32 st.list).toArray.size = 8 from rfl]; kernel_rfl
        · rw [HKK.out]; kernel_rfl
        · rw [show (kV .u32 R.list).toArray.size = 8 from rfl]; kernel_rfl
      have HW : Hid (wr.heap[S]? = some (.cells (kV .u32 st.list).toArray 45 (0, 0)) ∧ wr.heap[T]? = some (.cells (kV .u32 K).toArray 58 (0, 0))) := ⟨hrw, hkw⟩
      clear hrw hkw hPs hn4 hL hLl hXe hR hj hj2 hb hrow hkey hok
      go_wp2_with fail
      refine wp_region_still_tail 7 mixed (by kernel_rfl) ?_
      simp only [List.take_succ_cons, List.take_zero, List.drop_succ_cons, List.drop_zero]
      refine wpStill_load_row rfl 45 (.tmp 3) rfl S rfl 45 (kV .u32 st.list).toArray (0, 0) _ HW.out.1 Tryd.underlying45 rfl HI.out.1 ?_
      still_step
      still_step
      still_step
      still_step
      still_step
      refine wpStill_load_row rfl 58 (.tmp 4) rfl T rfl 58 (kV .u32 K).toArray (0, 0) _ HW.out.2 Tryd.underlying58 rfl HI.out.2.1 ?_
      refine wpStill_nil ?_
      change wpList Tryd.prog _ _ _ _ wr.drew
      simp only [Act.put, List.setIfInBounds_toArray, List.set_cons_zero, List.set_cons_succ]
      go_wp2_with fail
      refine (block_at st R X L K _ _ wr.drew rfl rfl HKK.out HR.out.2.1 HR.out.2.2.1 HOK.out HR.out.1).mono ?_
      rintro e w6 ⟨rfl, b6⟩
      have r6 : Row w6 S 45 .u32 st.list := Row.below HROW.out.1.drew b6 hSl
      have k6 : Row w6 T 58 .u32 K := Row.below HROW.out.2.1.drew b6 hTl
      have hr6 : w6.heap[S]? = some (.cells (kV .u32 st.list).toArray 45 (0, 0)) := r6
      go_wp2_with (refine wpList_store_row rfl 45 (.tmp 3) (.tmp 26) rfl S (kV .u32 R.list).toArray rfl rfl 45 _ hr6 HI.out.2.2.1 HI.out.2.2.2 (kV_one _ _) ?_)
      have rR : Row (w6.setRow S (kV .u32 R.list).toArray) S 45 .u32 R.list := Row.stored r6
      have kR : Row (w6.setRow S (kV .u32 R.list).toArray) T 58 .u32 K := k6.rowOther (by omega)
      have bR : Below w.heap.size w (w6.setRow S (kV .u32 R.list).toArray) := below_setRow ((HROW.out.2.2.drew).trans (b6.mono HROW.out.2.2.size)) hSw _
      clear hr6 r6 k6 b6 ew ew2
      go_roundw
      case rel =>
        refine ⟨k + 1, R, ?_, by omega, ?_, rR, kR, bR⟩
        · have := HR.out.2.2.2.2
          congr 1
          omega
        · unfold Hid
          rw [blocks, ← hst.out, ← HR.out.2.2.2.1]
          exact HR.out.1
      case measure => have := HR.out.2.2.2.2; have := HPP.out.2; simp [intOf]; omega
    · have hkn : k = n := by omega
      have hPs := HPP.out.2
      have i0 : ¬ ((j : Int) < (P.size : Int)) := by omega
      have HE : Hid (st = digestSt s.data.toList) := by
        unfold Hid digestSt
        rw [hst.out, hkn, HP.out.1, HP.out.2.2.1]
        rfl
      have HJ : Hid (j = 64 * k) := hj
      clear hkn hPs hlt hst hkey hj
      go_wp2_with (at_make; refine wpList_make_full _ rfl _ _ 22 rfl w.heap.size 5 i0_1 (.int .u8 0) 1 Tryd.underlying22 hi hz0 hz1 _ _ _ _ 32 rfl rfl (by omega) (by omega) (by rw [hz2]; omega) (by unfold maxLen; omega) hb.size ?_; intro w0 hown0 hgrow0)
      have ro : Row w0 wr.heap.size 5 .u8 (outK st.list 0) := by rw [outK_zero]; exact made32 w0 _ _ 32 hown0 rfl
      have rs : Row w0 S 45 .u32 st.list := (hgrow0.block S hrow.lt (by simp)).trans hrow
      have b0 : Below w.heap.size w w0 := hb.grown hgrow0 hb.size (fun k hk => by cases hk)
      obtain ⟨O, hO⟩ : ∃ O, O = wr.heap.size := ⟨_, rfl⟩
      have hOS : S < O := by rw [hO]; exact hrow.lt
      have hOw : w.heap.size ≤ O := by rw [hO]; exact hb.size
      rw [← hO] at ro ⊢
      obtain ⟨l0, hl0⟩ : ∃ l, l = st.list := ⟨_, rfl⟩
      rw [← hl0] at ro rs
      have HL0 : Hid (l0 = st.list ∧ l0.length = 8) := ⟨hl0, by rw [hl0]; rfl⟩
      clear hown0 hgrow0 hb hrow hO hl0
      go_loopw [8] (fun i wx => ∃ q : Nat, i = .int .i64 q ∧ q ≤ 8 ∧ Row wx O 5 .u8 (outK l0 q) ∧ Row wx S 45 .u32 l0 ∧ Below w.heap.size w wx) (fun i _ => 8 - (intOf i).toNat)
      case atStart => exact ⟨0, rfl, by omega, ro, rs, b0⟩
      case round =>
        obtain ⟨q, rfl, hq, hro, hrs, hb⟩ := hrel
        clear ro rs b0
        by_cases hlt : q < 8
        · obtain ⟨j0, h0⟩ : ∃ j, j = 4 * q := ⟨_, rfl⟩
          obtain ⟨j1, h1⟩ : ∃ j, j = j0 + 1 := ⟨_, rfl⟩
          obtain ⟨j2, h2⟩ : ∃ j, j = j0 + 2 := ⟨_, rfl⟩
          obtain ⟨j3, h3⟩ : ∃ j, j = j0 + 3 := ⟨_, rfl⟩
          have bq : (q : Int) < 8 := by omega
          have e0 : 4 * (q : Int) = (j0 : Int) := by omega
          have e1 : (j0 : Int) + 1 = (j1 : Int) := by omega
          have e2 : (j0 : Int) + 2 = (j2 : Int) := by omega
          have e3 : (j0 : Int) + 3 = (j3 : Int) := by omega
          have t0 : (j0 : Int) < 32 := by omega
          have t1 : (j1 : Int) < 32 := by omega
          have t2 : (j2 : Int) < 32 := by omega
          have t3 : (j3 : Int) < 32 := by omega
          have n01 : ¬ j0 = j1 := by omega
          have n02 : ¬ j0 = j2 := by omega
          have n03 : ¬ j0 = j3 := by omega
          have n12 : ¬ j1 = j2 := by omega
          have n13 : ¬ j1 = j3 := by omega
          have n23 : ¬ j2 = j3 := by omega
          have nOS : ¬ O = S := by omega
          obtain ⟨x, hx⟩ : ∃ x, x = l0.getD q 0 := ⟨_, rfl⟩
          have cx := hrs.cell q (by rw [HL0.out.2]; exact hlt)
          rw [← hx] at cx
          have hol := outK_length l0 q HL0.out.2 hq
          have c0 := hro.cell j0 (by omega)
          have c1 := hro.cell j1 (by omega)
          have c2 := hro.cell j2 (by omega)
          have c3 := hro.cell j3 (by omega)
          have f0 := hro.frozen j0
          have f1 := hro.frozen j1
          have f2 := hro.frozen j2
          have f3 := hro.frozen j3
          have HQ : Hid (Row wr O 5 .u8 (outK l0 q) ∧ Row wr S 45 .u32 l0 ∧ Below w.heap.size w wr ∧ x = l0.getD q 0 ∧ j0 = 4 * q ∧ j1 = j0 + 1 ∧ j2 = j0 + 2 ∧ j3 = j0 + 3) := ⟨hro, hrs, hb, hx, h0, h1, h2, h3⟩
          clear hro hrs hb hx h0 h1 h2 h3 hol
          go_wp2_with fail
          obtain ⟨hro, hrs, hb, hx, h0, h1, h2, h3⟩ := HQ.out
          refine ⟨⟨q + 1, by go_num, by omega, ?_, (((hrs.other (by omega)).other (by omega)).other (by omega)).other (by omega), (((hb.setCell hOw _).setCell hOw _).setCell hOw _).setCell hOw _⟩, by simp [intOf]; omega⟩
          rw [← outK_set l0 q x j0 j1 j2 j3 HL0.out.2 hlt hx h0 h1 h2 h3]
          exact (((hro.set j0 (x / 16777216 % 256) _ (by omega)).set j1 (x / 65536 % 256) _ (by omega)).set j2 (x / 256 % 256) _ (by omega)).set j3 (x % 256) _ (by omega)
        · have hq8 : q = 8 := by omega
          have bq : ¬ ((q : Int) < 8) := by omega
          rw [hq8, HL0.out.1, outK_full] at hro
          obtain ⟨D, hD⟩ : ∃ D, D = st.bytes := ⟨_, rfl⟩
          rw [← hD] at hro
          have hDl : D.length = 32 := by rw [hD]; exact bytes_length st
          have hcv : (convert 22 9 (.slice (some ⟨O, 0, none⟩) 32 32)).run Tryd.prog wr = .ok (.string ⟨D.toArray⟩) wr := by
            have := run_convert_bytes_back wr 22 9 5 ⟨O, 0, none⟩ 32 D Tryd.underlying22 Tryd.underlying5 Tryd.underlying9 (fun i hi => by
              rw [Addr.add_lit, Nat.zero_add, hro.cell i (by rw [List.length_map]; exact hi)]
              simp [hi])
            rw [hDl] at this
            exact this
          have HD : Hid (D = digestL s.data.toList) := by unfold Hid digestL; rw [← HE.out]; exact hD
          clear hq8 hlt hro hD hDl hrs
          go_wp2
          go_ret
          exact ⟨by rw [HD.out]; rfl, hb⟩

end Go.Proofs.YtfbdbeaijkhbfaaDoor
