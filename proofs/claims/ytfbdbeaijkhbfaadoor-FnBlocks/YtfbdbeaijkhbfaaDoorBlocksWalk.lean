/- The law FnBlocks answers true at every list of bytes, where the program's two tables hold what their text lays. -/
import Derived.Test.YtfbdbeaijkhbfaaDoorDrawBlk
import Derived.Test.YtfbdbeaijkhbfaaDoorDigTurn
namespace Go.Proofs.YtfbdbeaijkhbfaaDoor
open Go.RowKit
set_option linter.unusedVariables false

theorem toZ32 (l : List Nat) (h : ∀ x ∈ l, x < 4294967296) : (toZ l).map w32 = l := by
  induction l with
  | nil => rfl
  | cons a r ih =>
    have h1 := h a (by simp)
    have h2 := ih (fun x hx => h x (by simp [hx]))
    have h3 : w32 (a : Int) = a := by unfold w32; omega
    simp only [toZ, List.map_cons, h3] at h2 ⊢
    rw [h2]

theorem shaZ_st (s : St) (h : s.ok) (L : List UInt8) (hL : L.length = 64) : shaZ (toZ s.list) L = toZ (blockSt s L).list := by
  unfold shaZ
  have e := toZ32 s.list (st_lt s h)
  rw [if_pos ⟨⟨rfl, by rw [e]⟩, hL⟩, e]
  rfl

theorem iBlk_st (g : Nat) (v : Value) (st R : St) (X : ByteArray) (L : List UInt8) (w : World) (h : OwnI w g v (toZ st.list)) (hok : st.ok) (hX : X = ⟨L.toArray⟩) (hL : L.length = 64) (hR : R = blockSt st L) (hT : TabK w) :
    Calls Tryd.prog 9 #[v, .string X] w fun e w' => ∃ g' v', e = .returned v' ∧ w.heap.size ≤ g' ∧ OwnI w' g' v' (toZ R.list) ∧ Below w.heap.size w w' := by
  subst hX hR
  have e := shaZ_st st hok L hL
  rw [← e]
  exact iBlk_any g v (toZ st.list) ⟨L.toArray⟩ w (by show 8 ≤ 1048576; omega) (by show L.toArray.size ≤ _; rw [List.size_toArray]; omega) h hT

theorem be4_at (x : Nat) (j : Nat) (hj : j < (be4 x).length) : #[Value.int .u8 (IntKind.u8.wrap ((x : Int) / 16777216)), .int .u8 (IntKind.u8.wrap ((x : Int) / 65536)), .int .u8 (IntKind.u8.wrap ((x : Int) / 256)), .int .u8 (IntKind.u8.wrap (x : Int))][j]? = some (.int .u8 (((be4 x)[j].toNat : Nat) : Int)) := by
  have e : ∀ z : Nat, IntKind.u8.wrap (z : Int) = (((UInt8.ofNat z).toNat : Nat) : Int) := by
    intro z
    rw [IntKind.wrap_u8]
    simp
  have h : j = 0 ∨ j = 1 ∨ j = 2 ∨ j = 3 := by have : (be4 x).length = 4 := rfl; omega
  have e1 := e (x / 16777216)
  have e2 := e (x / 65536)
  have e3 := e (x / 256)
  have e4 := e x
  rcases h with rfl | rfl | rfl | rfl
  · exact congrArg (fun z => some (Value.int .u8 z)) e1
  · exact congrArg (fun z => some (Value.int .u8 z)) e2
  · exact congrArg (fun z => some (Value.int .u8 z)) e3
  · exact congrArg (fun z => some (Value.int .u8 z)) e4

theorem conv4 (w : World) (x : Nat) (B : ByteArray) (hB : B = ⟨(be4 x).toArray⟩) :
    (convert 22 9 (.slice (some ⟨w.heap.size, 0, none⟩) 4 4)).run Tryd.prog (w.alloc (.cells #[.int .u8 (IntKind.u8.wrap ((x : Int) / 16777216)), .int .u8 (IntKind.u8.wrap ((x : Int) / 65536)), .int .u8 (IntKind.u8.wrap ((x : Int) / 256)), .int .u8 (IntKind.u8.wrap (x : Int))] 5)).drew = .ok (.string B) (w.alloc (.cells #[.int .u8 (IntKind.u8.wrap ((x : Int) / 16777216)), .int .u8 (IntKind.u8.wrap ((x : Int) / 65536)), .int .u8 (IntKind.u8.wrap ((x : Int) / 256)), .int .u8 (IntKind.u8.wrap (x : Int))] 5)).drew := by
  subst hB
  refine run_convert_bytes_back _ 22 9 5 ⟨w.heap.size, 0, none⟩ 4 (be4 x) Tryd.underlying22 Tryd.underlying5 Tryd.underlying9 (fun j hj => ?_)
  rw [Addr.add_lit, Nat.zero_add, ← be4_at x j hj]
  exact cell_of_row _ w.heap.size j _ _ (0, 0) (heap_alloc_last w _)

theorem iDigest_at (T D : ByteArray) (w : World) (hD : D = ⟨(digestL T.data.toList).toArray⟩) (hs : T.size ≤ 200) (hT : TabK w ∧ TabB w) :
    Calls Tryd.prog 11 #[.string T] w fun e w' => e = .returned (.string D) ∧ Below w.heap.size w w' := by
  subst hD; exact iDigest_any T w (by omega) hT.1 hT.2

theorem sDigest_at (T D : ByteArray) (w : World) (hD : D = ⟨(digestL T.data.toList).toArray⟩) (hs : T.size ≤ 200) :
    Calls Tryd.prog 12 #[.string T] w fun e w' => e = .returned (.string D) ∧ Below w.heap.size w w' := by
  subst hD; exact sDigest_any T w (by omega)

theorem iCut_at (T D X : ByteArray) (w : World) (hD : D = ⟨(digestL T.data.toList).toArray⟩) (hs : T.size ≤ 200) (hT : TabK w ∧ TabB w) (hX : D.extract 0 5 = X) :
    Calls Tryd.prog 13 #[.string T, .int .i64 5] w fun e w' => e = .returned (.string X) ∧ Below w.heap.size w w' := by
  subst hD; exact iCut_in T X 5 w (by omega) (by omega) (by omega) hT.1 hT.2 hX

theorem Drawn.below {w w' : World} {g : Nat} {v : Value} {zs : List Int} (h : Drawn w g v zs) (hb : Below w.heap.size w w') : Drawn w' g v zs := by
  rcases h with ⟨h1, h2⟩ | h
  · exact .inl ⟨h1.below hb h1.2.1, h2⟩
  · exact .inr (h.below hb h.2.1)

theorem iBlk_drawn (g : Nat) (v : Value) (zs ys : List Int) (s : ByteArray) (w : World) (h : Drawn w g v zs) (hs : s.size ≤ 64) (hT : TabK w) (hy : ys = shaZ zs s.data.toList) :
    Calls Tryd.prog 9 #[v, .string s] w fun e w' => ∃ g' v', e = .returned v' ∧ w.heap.size ≤ g' ∧ OwnI w' g' v' ys ∧ Below w.heap.size w w' := by
  subst hy
  rcases h with ⟨h1, h2⟩ | h
  · exact iBlk_any g v zs s w (by omega) (by omega) h1 hT
  · exact iBlk_seven g v zs s w h

theorem sBlk_drawn (g : Nat) (v : Value) (zs ys : List Int) (s : ByteArray) (w : World) (h : Drawn w g v zs) (hs : s.size ≤ 64) (hy : ys = shaZ zs s.data.toList) :
    Calls Tryd.prog 15 #[v, .string s] w fun e w' => ∃ g' v', e = .returned v' ∧ w.heap.size ≤ g' ∧ OwnI w' g' v' ys ∧ Below w.heap.size w w' := by
  subst hy
  rcases h with ⟨h1, h2⟩ | h
  · exact sBlk_any g v zs s w (by omega) (by omega) h1
  · exact sBlk_seven g v zs s w h

theorem shaZ_len (zs : List Int) (L : List UInt8) (h : zs.length ≤ 8) : (shaZ zs L).length ≤ 8 := by
  unfold shaZ
  split
  · rw [toZ_length]; exact Nat.le_refl 8
  · exact h

theorem pad_head (T : ByteArray) : (⟨(padL T.data.toList).toArray⟩ : ByteArray).extract 0 T.size = T := by
  apply ByteArray.ext
  rw [ByteArray.data_extract]
  apply Array.ext'
  simp
  have := padL_take T.data.toList
  simpa using this

set_option maxRecDepth 100000 in
set_option maxHeartbeats 2000000 in
theorem blocks_walk (a : Option Addr) (len cap : Nat) (w : World) (hR : Raw w a len) (hT : TabK w ∧ TabB w) :
    Calls Tryd.prog 3 #[.slice a len cap] w fun e w' => e = .returned (.bool true) ∧ Below w.heap.size w w' := by
  by_cases hbig : 1048576 < len
  · clear hR hT
    go_enter Tryd.func3, Tryd.ntmps3
    go_wp2_with fail
    refine (big_yes a len cap _ hbig).mono ?_
    rintro e w1 ⟨rfl, rfl⟩
    go_wp2
    go_ret
    exact ⟨rfl, Below.refl _ _⟩
  · have HC : Hid (Came w a len) := ⟨by omega, hR⟩
    have HT : Hid (TabK w ∧ TabB w) := hT
    clear hR hT
    go_enter Tryd.func3, Tryd.ntmps3
    go_wp2_with fail
    refine (big_no a len cap _ (by omega)).mono ?_
    rintro e w0 ⟨rfl, rfl⟩
    go_wp2_with fail
    refine (drawText_any a len cap _ HC.out).mono ?_
    rintro e w1 ⟨l, hl, rfl, b1⟩
    obtain ⟨T, hT⟩ : ∃ T : ByteArray, T = ⟨l.toArray⟩ := ⟨_, rfl⟩
    rw [← hT]
    have hTs : T.size ≤ 200 := by rw [hT]; show l.toArray.size ≤ 200; rw [List.size_toArray]; exact hl
    clear hT hl
    go_wp2_with fail
    refine (iPad_any T _ (by omega)).mono ?_
    rintro e w2 ⟨rfl, b2⟩
    have c2 := b1.trans (b2.mono b1.size)
    clear b1 b2
    obtain ⟨p, hp⟩ : ∃ p, p = padL T.data.toList := ⟨_, rfl⟩
    rw [← hp]
    obtain ⟨n, hn⟩ : ∃ n, n = (T.size + 8) / 64 + 1 := ⟨_, rfl⟩
    have hpl : p.length = 64 * n := by rw [hp, padL_length, hn]; show (T.size + 8) / 64 * 64 + 64 = _; omega
    obtain ⟨P, hP⟩ : ∃ P : ByteArray, P = ⟨p.toArray⟩ := ⟨_, rfl⟩
    rw [← hP]
    have hPs : P.size = 64 * n := by rw [hP]; show p.toArray.size = _; rw [List.size_toArray]; exact hpl
    have hE : P.extract 0 T.size = T := by rw [hP, hp]; exact pad_head T
    have HP : Hid (p = padL T.data.toList ∧ p.length = 64 * n ∧ n = (T.size + 8) / 64 + 1 ∧ n ≤ 4 ∧ P = ⟨p.toArray⟩ ∧ P.size = 64 * n ∧ T.size ≤ 200) := ⟨hp, hpl, hn, by omega, hP, hPs, hTs⟩
    have m1 : (P.size : Int) % 64 = 0 := by omega
    have m2 : ¬ ((P.size : Int) < (T.size : Int) + 9) := by omega
    have m3 : (T.size : Int) ≤ (P.size : Int) := by omega
    have m4 : (P.size : Int) ≤ 256 := by omega
    have m5 : (T.size : Int) ≤ 200 := by omega
    clear hp hn hpl hP hPs hTs
    go_wp2_with fail
    refine (iStart_any _ (tabs_below HT.out c2).2).mono ?_
    rintro e w3 ⟨g3, v3, rfl, hg3, o3, b3⟩
    have c3 := c2.trans (b3.mono c2.size)
    clear b3 c2 hg3
    go_wp2
    go_loopw [5, 6] (fun v i wr => ∃ (k g : Nat) (st : St), i = .int .i64 ((64 * k : Nat) : Int) ∧ k ≤ n ∧ Hid (st = blocks begin8 p k) ∧ OwnI wr g v (toZ st.list) ∧ Below w.heap.size w wr) (fun _ i _ => 64 * n - (intOf i).toNat)
    case atStart => exact ⟨0, g3, begin8, rfl, by omega, rfl, o3, c3⟩
    case round =>
      obtain ⟨k, g, st, rfl, hk, hst, hown, hb⟩ := hrel
      clear o3 c3
      have hok : st.ok := by rw [hst.out]; exact blocks_ok _ begin8_ok _ _
      obtain ⟨j, hj⟩ : ∃ j, j = 64 * k := ⟨_, rfl⟩
      rw [← hj]
      by_cases hlt : k < n
      · obtain ⟨j2, hj2⟩ : ∃ j2, j2 = j + 64 := ⟨_, rfl⟩
        have hPs := HP.out.2.2.2.2.2.1
        have hn4 := HP.out.2.2.2.1
        have e1 : (j : Int) + 64 = (j2 : Int) := by omega
        have ew : IntKind.i64.wrap ((j : Int) + 64) = (j2 : Int) := by rw [IntWalk.i64_in _ (by omega)]; omega
        have i0 : (j : Int) < (P.size : Int) := by omega
        have i1 : (0 : Int) ≤ (j : Int) := by omega
        have i2 : (j : Int) ≤ (j2 : Int) := by omega
        have i3 : (j2 : Int) ≤ (P.size : Int) := by omega
        obtain ⟨L, hL⟩ : ∃ L, L = (p.drop (64 * k)).take 64 := ⟨_, rfl⟩
        have hLl : L.length = 64 := by have := HP.out.2.1; rw [hL]; simp; omega
        obtain ⟨X, hX⟩ : ∃ X, P.extract j j2 = X := ⟨_, rfl⟩
        have hXe : X = ⟨L.toArray⟩ := by rw [← hX, HP.out.2.2.2.2.1, hj2, hj, hL]; exact extract_blk p k (by have := HP.out.2.1; omega)
        obtain ⟨R, hR⟩ : ∃ R, R = blockSt st L := ⟨_, rfl⟩
        have HR : Hid (R = blockSt st L ∧ X = ⟨L.toArray⟩ ∧ L.length = 64 ∧ L = (p.drop (64 * k)).take 64 ∧ j = 64 * k ∧ j2 = j + 64) := ⟨hR, hXe, hLl, hL, hj, hj2⟩
        clear hPs hn4 hL hLl hXe hR hj hj2 hE
        go_wp2_with fail
        refine (iBlk_st g _ st R X L _ hown hok HR.out.2.1 HR.out.2.2.1 HR.out.1 (tabs_below HT.out hb).1).mono ?_
        rintro e w4 ⟨g', v', rfl, hg', o4, b4⟩
        have c4 := hb.trans (b4.mono hb.size)
        clear b4 hb hown hg'
        go_wp2
        go_roundw
        case rel =>
          refine ⟨k + 1, g', R, ?_, by omega, ?_, o4, c4⟩
          · have := HR.out.2.2.2.2
            congr 1
            omega
          · unfold Hid
            rw [blocks, ← hst.out, ← HR.out.2.2.2.1]
            exact HR.out.1
        case measure => have := HR.out.2.2.2.2; have := HP.out.2.2.2.2.2.1; simp [intOf]; omega
      · have hkn : k = n := by omega
        have hPs := HP.out.2.2.2.2.2.1
        have i0 : ¬ ((j : Int) < (P.size : Int)) := by omega
        have HEd : Hid (st = digestSt T.data.toList) := by
          unfold Hid digestSt
          rw [hst.out, hkn, HP.out.1, HP.out.2.2.1]
          rfl
        clear hkn hPs hlt hst hj hE m1 m2 m3 m4 hk
        obtain ⟨l0, hl0⟩ : ∃ l, l = st.list := ⟨_, rfl⟩
        rw [← hl0] at hown
        have HL0 : Hid (l0 = st.list ∧ l0.length = 8 ∧ ∀ x ∈ l0, x < 4294967296) := ⟨hl0, by rw [hl0]; rfl, by rw [hl0]; exact st_lt st hok⟩
        clear hl0 hok
        go_wp2_with fail
        obtain ⟨c5, h5⟩ := hown.1
        rw [toZ_length, HL0.out.2.1] at h5
        subst h5
        go_loopw [7, 8] (fun d i wx => ∃ k : Nat, i = .int .i64 k ∧ k ≤ 8 ∧ d = .string ⟨(bytesK l0 k).toArray⟩ ∧ OwnI wx g (.slice (some ⟨g, 0, none⟩) 8 c5) (toZ l0) ∧ Below w.heap.size w wx) (fun _ i _ => 8 - (intOf i).toNat)
        case atStart => exact ⟨0, rfl, by omega, rfl, hown, hb⟩
        case round =>
          obtain ⟨q, rfl, hq, rfl, hox, hbx⟩ := hrel
          clear hown hb
          by_cases hlt : q < 8
          · have bq : (q : Int) < 8 := by omega
            have bq0 : (0 : Int) ≤ (q : Int) := by omega
            obtain ⟨x, hx⟩ : ∃ x, x = l0.getD q 0 := ⟨_, rfl⟩
            have hx32 : x < 4294967296 := by rw [hx]; exact getD_lt32 HL0.out.2.2 _
            have cx : wr.cell? ⟨g, q, none⟩ = some (.int .i64 (x : Int)) := by
              have := (hox.2.2 q (by rw [toZ_length, HL0.out.2.1]; exact hlt)).1
              have e : (toZ l0).getD q 0 = (x : Int) := by
                have h8 : q < l0.length := by rw [HL0.out.2.1]; exact hlt
                rw [hx]; simp [toZ, h8]
              rw [e] at this
              exact this
            obtain ⟨S, hS⟩ : ∃ S : ByteArray, S = ⟨(bytesK l0 q).toArray⟩ := ⟨_, rfl⟩
            rw [← hS]
            have HX : Hid (x = l0.getD q 0 ∧ S = ⟨(bytesK l0 q).toArray⟩ ∧ OwnI wr g (.slice (some ⟨g, 0, none⟩) 8 c5) (toZ l0) ∧ Below w.heap.size w wr) := ⟨hx, hS, hox, hbx⟩
            clear hx hS hox hbx
            obtain ⟨B, hB⟩ : ∃ B : ByteArray, B = ⟨(be4 x).toArray⟩ := ⟨_, rfl⟩
            have hcv := conv4 wr x B hB
            have hSs : S.size = 4 * q := by rw [HX.out.2.1]; show (bytesK l0 q).toArray.size = _; rw [List.size_toArray]; exact bytesK_length _ _ (by rw [HL0.out.2.1]; omega)
            have hBs : B.size = 4 := by rw [hB]; rfl
            have hadd := fun wx => run_string_add_sum (P := Tryd.prog) wx S B (by rw [hSs, hBs]; omega)
            have HB : Hid (B = ⟨(be4 x).toArray⟩) := hB
            clear hB hSs hBs
            go_wp2_with fail
            refine wp_region_held_drew (S := fun w' => w'.cell? ⟨g, q, none⟩ = some (.int .i64 (x : Int))) mixed (by go_keep) (fun hHeld => ?_)
            refine wpAnyH_take (i := 0) (oi := ({ dst := some 55, op := Op.move (Operand.tmp 7), type := 9, pos := "laws.go:309", after := #[], guard := none } : Oper)) (v := ?v0) rfl (by kernel_rfl) (by kernel_rfl) (by kernel_rfl) (fun _ _ _ h => h) (Or.inl ⟨by rfl, ?hy0⟩) (by assumption) ?rest0
            case hy0 => (intro w hSw; (try dsimp only at hSw); go_simp; all_goals with_reducible rfl)
            try simp only [Act.put, List.setIfInBounds_toArray, List.set_cons_zero, List.set_cons_succ]
            refine wpAnyH_take (i := 1) (oi := ({ dst := some 56, op := Op.move (Operand.tmp 5), type := 26, pos := "laws.go:309", after := #[], guard := none } : Oper)) (v := ?v1) rfl (by kernel_rfl) (by kernel_rfl) (by kernel_rfl) (fun _ _ _ h => h) (Or.inl ⟨by rfl, ?hy1⟩) (by assumption) ?rest1
            case hy1 => (intro w hSw; (try dsimp only at hSw); go_simp; all_goals with_reducible rfl)
            try simp only [Act.put, List.setIfInBounds_toArray, List.set_cons_zero, List.set_cons_succ]
            refine wpAnyH_take (i := 2) (oi := ({ dst := some 57, op := Op.move (Operand.tmp 8), type := 3, pos := "laws.go:309", after := #[], guard := none } : Oper)) (v := ?v2) rfl (by kernel_rfl) (by kernel_rfl) (by kernel_rfl) (fun _ _ _ h => h) (Or.inl ⟨by rfl, ?hy2⟩) (by assumption) ?rest2
            case hy2 => (intro w hSw; (try dsimp only at hSw); go_simp; all_goals with_reducible rfl)
            try simp only [Act.put, List.setIfInBounds_toArray, List.set_cons_zero, List.set_cons_succ]
            refine wpAnyH_take (i := 3) (oi := ({ dst := some 58, op := Op.indexAddr 26 (Operand.tmp 56) (Operand.tmp 57), type := 0, pos := "laws.go:309", after := #[{ on := 1, ground := Ground.data }, { on := 2, ground := Ground.data }], guard := none } : Oper)) (v := ?v3) rfl (by kernel_rfl) (by kernel_rfl) (by kernel_rfl) (fun _ _ _ h => h) (Or.inl ⟨by rfl, ?hy3⟩) (by assumption) ?rest3
            case hy3 => (intro w hSw; (try dsimp only at hSw); go_simp; all_goals with_reducible rfl)
            try simp only [Act.put, List.setIfInBounds_toArray, List.set_cons_zero, List.set_cons_succ]
            refine wpAnyH_take (i := 4) (oi := ({ dst := some 59, op := Op.load 3 (Operand.tmp 58), type := 3, pos := "laws.go:309", after := #[{ on := 3, ground := Ground.data }], guard := none } : Oper)) (v := ?v4) rfl (by kernel_rfl) (by kernel_rfl) (by kernel_rfl) (fun _ _ _ h => h) (Or.inl ⟨by rfl, ?hy4⟩) (by assumption) ?rest4
            case hy4 => (intro w hSw; (try dsimp only at hSw); go_simp; all_goals with_reducible rfl)
            try simp only [Act.put, List.setIfInBounds_toArray, List.set_cons_zero, List.set_cons_succ]
            refine wpAnyH_take (i := 5) (oi := ({ dst := some 60, op := Op.binOp BinOp.shr 3 (Operand.tmp 59) (Operand.const (Value.int IntKind.u64 24)) 29, type := 3, pos := "laws.go:309", after := #[{ on := 4, ground := Ground.data }], guard := none } : Oper)) (v := ?v5) rfl (by kernel_rfl) (by kernel_rfl) (by kernel_rfl) (fun _ _ _ h => h) (Or.inl ⟨by rfl, ?hy5⟩) (by assumption) ?rest5
            case hy5 => (intro w hSw; (try dsimp only at hSw); go_simp; all_goals with_reducible rfl)
            try simp only [Act.put, List.setIfInBounds_toArray, List.set_cons_zero, List.set_cons_succ]
            refine wpAnyH_take (i := 6) (oi := ({ dst := some 61, op := Op.convert 3 5 (Operand.tmp 60), type := 5, pos := "laws.go:309", after := #[{ on := 5, ground := Ground.data }], guard := none } : Oper)) (v := ?v6) rfl (by kernel_rfl) (by kernel_rfl) (by kernel_rfl) (fun _ _ _ h => h) (Or.inl ⟨by rfl, ?hy6⟩) (by assumption) ?rest6
            case hy6 => (intro w hSw; (try dsimp only at hSw); go_simp; all_goals with_reducible rfl)
            try simp only [Act.put, List.setIfInBounds_toArray, List.set_cons_zero, List.set_cons_succ]
            refine wpAnyH_take (i := 7) (oi := ({ dst := some 62, op := Op.move (Operand.tmp 5), type := 26, pos := "laws.go:309", after := #[], guard := none } : Oper)) (v := ?v7) rfl (by kernel_rfl) (by kernel_rfl) (by kernel_rfl) (fun _ _ _ h => h) (Or.inl ⟨by rfl, ?hy7⟩) (by assumption) ?rest7
            case hy7 => (intro w hSw; (try dsimp only at hSw); go_simp; all_goals with_reducible rfl)
            try simp only [Act.put, List.setIfInBounds_toArray, List.set_cons_zero, List.set_cons_succ]
            refine wpAnyH_take (i := 8) (oi := ({ dst := some 63, op := Op.move (Operand.tmp 8), type := 3, pos := "laws.go:309", after := #[], guard := none } : Oper)) (v := ?v8) rfl (by kernel_rfl) (by kernel_rfl) (by kernel_rfl) (fun _ _ _ h => h) (Or.inl ⟨by rfl, ?hy8⟩) (by assumption) ?rest8
            case hy8 => (intro w hSw; (try dsimp only at hSw); go_simp; all_goals with_reducible rfl)
            try simp only [Act.put, List.setIfInBounds_toArray, List.set_cons_zero, List.set_cons_succ]
            refine wpAnyH_take (i := 9) (oi := ({ dst := some 64, op := Op.indexAddr 26 (Operand.tmp 62) (Operand.tmp 63), type := 0, pos := "laws.go:309", after := #[{ on := 7, ground := Ground.data }, { on := 8, ground := Ground.data }], guard := none } : Oper)) (v := ?v9) rfl (by kernel_rfl) (by kernel_rfl) (by kernel_rfl) (fun _ _ _ h => h) (Or.inl ⟨by rfl, ?hy9⟩) (by assumption) ?rest9
            case hy9 => (intro w hSw; (try dsimp only at hSw); go_simp; all_goals with_reducible rfl)
            try simp only [Act.put, List.setIfInBounds_toArray, List.set_cons_zero, List.set_cons_succ]
            refine wpAnyH_take (i := 10) (oi := ({ dst := some 65, op := Op.load 3 (Operand.tmp 64), type := 3, pos := "laws.go:309", after := #[{ on := 9, ground := Ground.data }], guard := none } : Oper)) (v := ?v10) rfl (by kernel_rfl) (by kernel_rfl) (by kernel_rfl) (fun _ _ _ h => h) (Or.inl ⟨by rfl, ?hy10⟩) (by assumption) ?rest10
            case hy10 => (intro w hSw; (try dsimp only at hSw); go_simp; all_goals with_reducible rfl)
            try simp only [Act.put, List.setIfInBounds_toArray, List.set_cons_zero, List.set_cons_succ]
            refine wpAnyH_take (i := 11) (oi := ({ dst := some 66, op := Op.binOp BinOp.shr 3 (Operand.tmp 65) (Operand.const (Value.int IntKind.u64 16)) 29, type := 3, pos := "laws.go:309", after := #[{ on := 10, ground := Ground.data }], guard := none } : Oper)) (v := ?v11) rfl (by kernel_rfl) (by kernel_rfl) (by kernel_rfl) (fun _ _ _ h => h) (Or.inl ⟨by rfl, ?hy11⟩) (by assumption) ?rest11
            case hy11 => (intro w hSw; (try dsimp only at hSw); go_simp; all_goals with_reducible rfl)
            try simp only [Act.put, List.setIfInBounds_toArray, List.set_cons_zero, List.set_cons_succ]
            refine wpAnyH_take (i := 12) (oi := ({ dst := some 67, op := Op.convert 3 5 (Operand.tmp 66), type := 5, pos := "laws.go:309", after := #[{ on := 11, ground := Ground.data }], guard := none } : Oper)) (v := ?v12) rfl (by kernel_rfl) (by kernel_rfl) (by kernel_rfl) (fun _ _ _ h => h) (Or.inl ⟨by rfl, ?hy12⟩) (by assumption) ?rest12
            case hy12 => (intro w hSw; (try dsimp only at hSw); go_simp; all_goals with_reducible rfl)
            try simp only [Act.put, List.setIfInBounds_toArray, List.set_cons_zero, List.set_cons_succ]
            refine wpAnyH_take (i := 13) (oi := ({ dst := some 68, op := Op.move (Operand.tmp 5), type := 26, pos := "laws.go:309", after := #[], guard := none } : Oper)) (v := ?v13) rfl (by kernel_rfl) (by kernel_rfl) (by kernel_rfl) (fun _ _ _ h => h) (Or.inl ⟨by rfl, ?hy13⟩) (by assumption) ?rest13
            case hy13 => (intro w hSw; (try dsimp only at hSw); go_simp; all_goals with_reducible rfl)
            try simp only [Act.put, List.setIfInBounds_toArray, List.set_cons_zero, List.set_cons_succ]
            refine wpAnyH_take (i := 14) (oi := ({ dst := some 69, op := Op.move (Operand.tmp 8), type := 3, pos := "laws.go:309", after := #[], guard := none } : Oper)) (v := ?v14) rfl (by kernel_rfl) (by kernel_rfl) (by kernel_rfl) (fun _ _ _ h => h) (Or.inl ⟨by rfl, ?hy14⟩) (by assumption) ?rest14
            case hy14 => (intro w hSw; (try dsimp only at hSw); go_simp; all_goals with_reducible rfl)
            try simp only [Act.put, List.setIfInBounds_toArray, List.set_cons_zero, List.set_cons_succ]
            refine wpAnyH_take (i := 15) (oi := ({ dst := some 70, op := Op.indexAddr 26 (Operand.tmp 68) (Operand.tmp 69), type := 0, pos := "laws.go:309", after := #[{ on := 13, ground := Ground.data }, { on := 14, ground := Ground.data }], guard := none } : Oper)) (v := ?v15) rfl (by kernel_rfl) (by kernel_rfl) (by kernel_rfl) (fun _ _ _ h => h) (Or.inl ⟨by rfl, ?hy15⟩) (by assumption) ?rest15
            case hy15 => (intro w hSw; (try dsimp only at hSw); go_simp; all_goals with_reducible rfl)
            try simp only [Act.put, List.setIfInBounds_toArray, List.set_cons_zero, List.set_cons_succ]
            refine wpAnyH_take (i := 16) (oi := ({ dst := some 71, op := Op.load 3 (Operand.tmp 70), type := 3, pos := "laws.go:309", after := #[{ on := 15, ground := Ground.data }], guard := none } : Oper)) (v := ?v16) rfl (by kernel_rfl) (by kernel_rfl) (by kernel_rfl) (fun _ _ _ h => h) (Or.inl ⟨by rfl, ?hy16⟩) (by assumption) ?rest16
            case hy16 => (intro w hSw; (try dsimp only at hSw); go_simp; all_goals with_reducible rfl)
            try simp only [Act.put, List.setIfInBounds_toArray, List.set_cons_zero, List.set_cons_succ]
            refine wpAnyH_take (i := 17) (oi := ({ dst := some 72, op := Op.binOp BinOp.shr 3 (Operand.tmp 71) (Operand.const (Value.int IntKind.u64 8)) 29, type := 3, pos := "laws.go:309", after := #[{ on := 16, ground := Ground.data }], guard := none } : Oper)) (v := ?v17) rfl (by kernel_rfl) (by kernel_rfl) (by kernel_rfl) (fun _ _ _ h => h) (Or.inl ⟨by rfl, ?hy17⟩) (by assumption) ?rest17
            case hy17 => (intro w hSw; (try dsimp only at hSw); go_simp; all_goals with_reducible rfl)
            try simp only [Act.put, List.setIfInBounds_toArray, List.set_cons_zero, List.set_cons_succ]
            refine wpAnyH_take (i := 18) (oi := ({ dst := some 73, op := Op.convert 3 5 (Operand.tmp 72), type := 5, pos := "laws.go:309", after := #[{ on := 17, ground := Ground.data }], guard := none } : Oper)) (v := ?v18) rfl (by kernel_rfl) (by kernel_rfl) (by kernel_rfl) (fun _ _ _ h => h) (Or.inl ⟨by rfl, ?hy18⟩) (by assumption) ?rest18
            case hy18 => (intro w hSw; (try dsimp only at hSw); go_simp; all_goals with_reducible rfl)
            try simp only [Act.put, List.setIfInBounds_toArray, List.set_cons_zero, List.set_cons_succ]
            refine wpAnyH_take (i := 19) (oi := ({ dst := some 74, op := Op.move (Operand.tmp 5), type := 26, pos := "laws.go:309", after := #[], guard := none } : Oper)) (v := ?v19) rfl (by kernel_rfl) (by kernel_rfl) (by kernel_rfl) (fun _ _ _ h => h) (Or.inl ⟨by rfl, ?hy19⟩) (by assumption) ?rest19
            case hy19 => (intro w hSw; (try dsimp only at hSw); go_simp; all_goals with_reducible rfl)
            try simp only [Act.put, List.setIfInBounds_toArray, List.set_cons_zero, List.set_cons_succ]
            refine wpAnyH_take (i := 20) (oi := ({ dst := some 75, op := Op.move (Operand.tmp 8), type := 3, pos := "laws.go:309", after := #[], guard := none } : Oper)) (v := ?v20) rfl (by kernel_rfl) (by kernel_rfl) (by kernel_rfl) (fun _ _ _ h => h) (Or.inl ⟨by rfl, ?hy20⟩) (by assumption) ?rest20
            case hy20 => (intro w hSw; (try dsimp only at hSw); go_simp; all_goals with_reducible rfl)
            try simp only [Act.put, List.setIfInBounds_toArray, List.set_cons_zero, List.set_cons_succ]
            refine wpAnyH_take (i := 21) (oi := ({ dst := some 76, op := Op.indexAddr 26 (Operand.tmp 74) (Operand.tmp 75), type := 0, pos := "laws.go:309", after := #[{ on := 19, ground := Ground.data }, { on := 20, ground := Ground.data }], guard := none } : Oper)) (v := ?v21) rfl (by kernel_rfl) (by kernel_rfl) (by kernel_rfl) (fun _ _ _ h => h) (Or.inl ⟨by rfl, ?hy21⟩) (by assumption) ?rest21
            case hy21 => (intro w hSw; (try dsimp only at hSw); go_simp; all_goals with_reducible rfl)
            try simp only [Act.put, List.setIfInBounds_toArray, List.set_cons_zero, List.set_cons_succ]
            refine wpAnyH_take (i := 22) (oi := ({ dst := some 77, op := Op.load 3 (Operand.tmp 76), type := 3, pos := "laws.go:309", after := #[{ on := 21, ground := Ground.data }], guard := none } : Oper)) (v := ?v22) rfl (by kernel_rfl) (by kernel_rfl) (by kernel_rfl) (fun _ _ _ h => h) (Or.inl ⟨by rfl, ?hy22⟩) (by assumption) ?rest22
            case hy22 => (intro w hSw; (try dsimp only at hSw); go_simp; all_goals with_reducible rfl)
            try simp only [Act.put, List.setIfInBounds_toArray, List.set_cons_zero, List.set_cons_succ]
            refine wpAnyH_take (i := 23) (oi := ({ dst := some 78, op := Op.convert 3 5 (Operand.tmp 77), type := 5, pos := "laws.go:309", after := #[{ on := 22, ground := Ground.data }], guard := none } : Oper)) (v := ?v23) rfl (by kernel_rfl) (by kernel_rfl) (by kernel_rfl) (fun _ _ _ h => h) (Or.inl ⟨by rfl, ?hy23⟩) (by assumption) ?rest23
            case hy23 => (intro w hSw; (try dsimp only at hSw); go_simp; all_goals with_reducible rfl)
            try simp only [Act.put, List.setIfInBounds_toArray, List.set_cons_zero, List.set_cons_succ]
            refine wpAnyH_ready (rs := [24]) (by kernel_rfl) (by simp) ?_
            refine AllReadyH.cons (o := ({ dst := some 79, op := Op.buildSlice 22 4 #[(0, Operand.tmp 61), (1, Operand.tmp 67), (2, Operand.tmp 73), (3, Operand.tmp 78)], type := 22, pos := "laws.go:309", after := #[{ on := 6, ground := Ground.data }, { on := 12, ground := Ground.data }, { on := 18, ground := Ground.data }, { on := 23, ground := Ground.data }], guard := none } : Oper)) rfl (fun K hK => ?_) AllReadyH.nil
            go_simp
            refine hK.out _ _ (by go_keep) (fun hHeld => ?_)
            clear hK K
            try simp only [Act.put, List.setIfInBounds_toArray, List.set_cons_zero, List.set_cons_succ]
            refine wpAnyH_ready (rs := [25]) (by kernel_rfl) (by simp) ?_
            refine AllReadyH.cons (o := ({ dst := some 80, op := Op.convert 22 9 (Operand.tmp 79), type := 9, pos := "laws.go:309", after := #[{ on := 24, ground := Ground.data }], guard := none } : Oper)) rfl (fun K hK => ?_) AllReadyH.nil
            go_simp
            refine hK.out _ _ (by go_keep) (fun hHeld => ?_)
            clear hK K
            try simp only [Act.put, List.setIfInBounds_toArray, List.set_cons_zero, List.set_cons_succ]
            refine wpAnyH_ready (rs := [26]) (by kernel_rfl) (by simp) ?_
            refine AllReadyH.cons (o := ({ dst := some 81, op := Op.binOp BinOp.add 9 (Operand.tmp 55) (Operand.tmp 80) 9, type := 9, pos := "laws.go:309", after := #[{ on := 0, ground := Ground.data }, { on := 25, ground := Ground.data }], guard := none } : Oper)) rfl (fun K hK => ?_) AllReadyH.nil
            go_simp
            refine hK.out _ _ (by go_keep) (fun hHeld => ?_)
            clear hK K
            try simp only [Act.put, List.setIfInBounds_toArray, List.set_cons_zero, List.set_cons_succ]
            refine wpAnyH_ready (rs := [27]) (by kernel_rfl) (by simp) ?_
            refine AllReadyH.cons (o := _) rfl (fun K hK => ?_) AllReadyH.nil
            go_simp
            refine hK.out _ _ (by go_keep) (fun hHeld => ?_)
            clear hK K
            try simp only [Act.put, List.setIfInBounds_toArray, List.set_cons_zero, List.set_cons_succ]
            refine wpAnyH_done (by kernel_rfl) ?_ _
            clear hcv hadd cx
            go_wp2
            go_roundw
            case rel =>
              refine ⟨q + 1, by go_num, by omega, ?_, ?_, ?_⟩
              · rw [HX.out.2.1, HB.out, bytesK_succ l0 q (by rw [HL0.out.2.1]; exact hlt), beN_4, ← HX.out.1, ByteArray.mk_append_mk]
              · exact HX.out.2.2.1.alloc _
              · exact (HX.out.2.2.2.alloc HX.out.2.2.2.size _).drew
            case measure => simp [intOf]; omega
          · have hq8 : q = 8 := by omega
            have bq : ¬ ((q : Int) < 8) := by omega
            obtain ⟨D, hD⟩ : ∃ D : ByteArray, D = ⟨(bytesK l0 q).toArray⟩ := ⟨_, rfl⟩
            rw [← hD]
            have hDe : D = ⟨(digestL T.data.toList).toArray⟩ := by rw [hD, hq8, HL0.out.1, bytesK_full, HEd.out]; rfl
            have hDs : D.size = 32 := digest_size _ D hDe
            obtain ⟨X, hX⟩ : ∃ X : ByteArray, D.extract 0 5 = X := ⟨_, rfl⟩
            have HD : Hid (D = ⟨(digestL T.data.toList).toArray⟩ ∧ D.extract 0 5 = X ∧ T.size ≤ 200) := ⟨hDe, hX, HP.out.2.2.2.2.2.2⟩
            have hD5 : (5 : Int) ≤ (D.size : Int) := by omega
            clear hD hDe hq8 hox hq hlt
            go_wp2_with fail
            refine (drawBlk_any a len cap _ (HC.out.below hbx)).mono ?_
            rintro e w6 ⟨g6, v6, zs, t, rfl, ht, hdr, hzl, b6⟩
            have c6 := hbx.trans (b6.mono hbx.size)
            obtain ⟨ys, hys⟩ : ∃ ys, ys = shaZ zs t.data.toList := ⟨_, rfl⟩
            have HY : Hid (ys = shaZ zs t.data.toList ∧ t.size ≤ 64 ∧ ys.length ≤ 1048576) := ⟨hys, ht, by have := shaZ_len zs t.data.toList hzl; rw [hys]; omega⟩
            have HW : Hid (∀ w', Below w6.heap.size w6 w' → (TabK w' ∧ TabB w') ∧ Drawn w' g6 v6 zs ∧ Below w.heap.size w w') := fun w' h => ⟨tabs_below HT.out (c6.trans (h.mono c6.size)), hdr.below h, c6.trans (h.mono c6.size)⟩
            have f6 : Below w6.heap.size w6 w6.drew := (Below.refl _ _).drew
            clear b6 hbx hys ht hzl hdr c6
            go_wp2_with fail
            go_region_held3 (fun _ => True) (trivial) (first
              | (go_at_call 11; refine (iDigest_at T D w6.drew HD.out.1 HD.out.2.2 (HW.out _ f6).1).mono ?_; rintro e w7 ⟨rfl, b7⟩; have f7 : Below w6.heap.size w6 w7 := f6.trans (b7.mono f6.size); clear b7 f6)
              | (go_at_call 12; refine (sDigest_at T D w7 HD.out.1 HD.out.2.2).mono ?_; rintro e w8 ⟨rfl, b8⟩; have f8 : Below w6.heap.size w6 w8 := f7.trans (b8.mono f7.size); clear b8 f7)
              | (go_at_call 13; refine (iCut_at T D X w8 HD.out.1 HD.out.2.2 (HW.out _ f8).1 HD.out.2.1).mono ?_; rintro e w9 ⟨rfl, b9⟩; have f9 : Below w6.heap.size w6 w9 := f8.trans (b9.mono f8.size); clear b9 f8)
              | (go_at_call 9; refine (iBlk_drawn g6 v6 zs ys t w9 (HW.out _ f9).2.1 HY.out.2.1 (HW.out _ f9).1.1 HY.out.1).mono ?_; rintro e w10 ⟨g10, v10, rfl, hg10, o10, b10⟩; have f10 : Below w6.heap.size w6 w10 := f9.trans (b10.mono f9.size); clear b10 f9 hg10)
              | (go_at_call 15; refine (sBlk_drawn g6 v6 zs ys t w10 (HW.out _ f10).2.1 HY.out.2.1 HY.out.1).mono ?_; rintro e w11 ⟨g11, v11, rfl, hg11, o11, b11⟩; have f11 : Below w6.heap.size w6 w11 := f10.trans (b11.mono f10.size); have p10 : OwnI w11 g10 v10 ys := o10.below b11 o10.2.1; clear b11 f10 hg11 o10)
              | (go_at_call 14; refine (sameInts_same g10 g11 v10 v11 ys w11 HY.out.2.2 p10 o11).mono ?_; rintro e w12 ⟨rfl, n12, rfl⟩))
            go_wp2
            go_ret
            have hf := (HW.out _ f11).2.2
            exact ⟨rfl, ⟨hf.os, hf.tape, hf.output, hf.size, hf.block⟩⟩

end Go.Proofs.YtfbdbeaijkhbfaaDoor
