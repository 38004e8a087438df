/- What impl.Digest answers at every text of at most 1048576 bytes. -/
import Derived.Test.YtfbdbeaijkhbfaaDoorStBytes
import Derived.Test.YtfbdbeaijkhbfaaDoorBlkFacts
import Derived.Deep.RegionWith
import Derived.Deep.RegionHeld3
namespace Go.Proofs.YtfbdbeaijkhbfaaDoor
open Go.RowKit
set_option linter.unusedVariables false

theorem TabB.block {w : World} (h : TabB w) : ∃ t fr, w.heap[0]? = some (.cells (kV .u32 begin8.list).toArray t fr) := by
  unfold TabB Lib.TabIs World.var? at h
  rw [gBegin] at h
  simp only [Option.bind_some] at h
  cases hq : w.heap[0]? with
  | none => rw [hq] at h; simp at h
  | some o =>
    cases o with
    | cells cs t fr =>
      rw [hq] at h
      simp only [Option.some.injEq] at h
      refine ⟨t, fr, ?_⟩
      rw [h]
      rfl
    | _ => rw [hq] at h; simp at h

theorem builtB : Tryd.prog.built 47 [(0, .agg (kV .u32 begin8.list).toArray)] = some (kV .u32 begin8.list).toArray := by kernel_rfl

theorem builtSt (a : Act) (ha : a.eval (.tmp 8) = .agg (kV .u32 begin8.list).toArray) : Tryd.prog.built 47 ((#[(0, Operand.tmp 8)] : Array (Nat × Operand)).map fun (i, x) => (i, a.eval x)).toList = some (kV .u32 begin8.list).toArray := by
  have e : ((#[(0, Operand.tmp 8)] : Array (Nat × Operand)).map fun (i, x) => (i, a.eval x)).toList = [(0, .agg (kV .u32 begin8.list).toArray)] := by simp [ha]
  rw [e, builtB]

theorem extract_blk (p : List UInt8) (k : Nat) (h : 64 * k + 64 ≤ p.length) : (⟨p.toArray⟩ : ByteArray).extract (64 * k) (64 * k + 64) = ⟨((p.drop (64 * k)).take 64).toArray⟩ := by
  apply ByteArray.ext
  rw [ByteArray.data_extract]
  apply Array.ext'
  simp [List.take_drop]

theorem Row.storeCells {P : Program} {w : World} {b t ty : Nat} {k k' : IntKind} {l l' : List Nat} (h : Row w b t k l) (hl : l.length = l'.length) (hi : (P.info? ty).map (·.size) = some l'.length) :
    (_root_.Go.storeCells ⟨b, 0, none⟩ (kV k' l') 0).run P w = .ok () (w.setRow b (kV k' l').toArray) := by
  have := Row.store (P := P) (ty := ty) (k' := k') h hl hi
  cases hq : P.info? ty with
  | none => simp [hq] at hi
  | some i =>
    have hs : l'.length = i.size := by simp [hq] at hi; omega
    have hs2 : (kV k' l').length = i.size := by rw [kV_length]; exact hs
    simpa [storeVar, sizeOf, typeInfo, hq, Value.cells, hs2] using this

theorem after_at (st R : St) (s : ByteArray) (L : List UInt8) (v : Value) (w : World) (hv : v = .agg (kV .u32 st.list).toArray) (hs : s = ⟨L.toArray⟩) (hl : L.length = 64) (hst : st.ok) (hT : TabK w) (hR : R = blockSt st L) :
    Calls Tryd.prog 25 #[v, .string s] w fun e w' => e = .returned (.agg (kV .u32 R.list).toArray) ∧ Below w.heap.size w w' := by
  subst hv; subst hs; subst hR
  exact after_any st ⟨L.toArray⟩ w (by show L.toArray.size = 64; rw [List.size_toArray]; exact hl) hst hT

set_option maxRecDepth 100000 in
set_option maxHeartbeats 1000000 in
theorem iDigest_any (s : ByteArray) (w : World) (hs : s.size ≤ 1048576) (hK : TabK w) (hB : TabB w) :
    Calls Tryd.prog 11 #[.string s] w fun e w' => e = .returned (.string ⟨(digestL s.data.toList).toArray⟩) ∧ Below w.heap.size w w' := by
  have HT : Hid (TabK w ∧ TabB w) := ⟨hK, hB⟩
  obtain ⟨p, hp⟩ : ∃ p, p = padL s.data.toList := ⟨_, rfl⟩
  obtain ⟨n, hn⟩ : ∃ n, n = (s.size + 8) / 64 + 1 := ⟨_, rfl⟩
  have hpl : p.length = 64 * n := by rw [hp, padL_length, hn]; show (s.size + 8) / 64 * 64 + 64 = _; omega
  have HP : Hid (p = padL s.data.toList ∧ p.length = 64 * n ∧ n = (s.size + 8) / 64 + 1 ∧ n ≤ 20000) := ⟨hp, hpl, hn, by omega⟩
  clear hK hB hpl hn
  go_enter Tryd.func11, Tryd.ntmps11
  go_wp2_with fail
  refine (iPad_any s _ hs).mono ?_
  rintro e w1 ⟨rfl, b1⟩
  rw [← hp]
  obtain ⟨tb, fr, hblk⟩ := (HT.out.2.below b1 HT.out.2.pos).block
  obtain ⟨Bg, hBg⟩ : ∃ Bg, Bg = (kV .u32 begin8.list).toArray := ⟨_, rfl⟩
  have HBg : Hid (Bg = (kV .u32 begin8.list).toArray) := hBg
  rw [← hBg] at hblk
  have HI8 : Hid ((Tryd.prog.info? 45).map (·.size) = some Bg.size) := by unfold Hid; rw [hBg]; kernel_rfl
  have HIs : Hid ((Tryd.prog.info? 47).map (·.size) = some Bg.size) := by unfold Hid; rw [hBg]; kernel_rfl
  have hsz : Hid (8 = Bg.size) := by unfold Hid; rw [hBg]; rfl
  have hone : Hid (Bg.all (·.oneCell') = true) := by unfold Hid; rw [hBg]; exact kV_one _ _
  clear hp hs hBg
  go_wp2_with (first
    | (refine wpList_load_row rfl 45 (.global 0) rfl 0 rfl tb Bg fr _ hblk Tryd.underlying45 rfl HI8.out ?_)
    | (refine wpList_buildTo rfl 47 #[(0, .tmp 8)] rfl (some 9) rfl Bg (by rw [HBg.out]; exact builtSt _ (by rw [← HBg.out]; rfl)) ?_)
    | (refine wpList_store_row rfl 47 (.tmp 4) (.tmp 9) rfl w1.heap.size Bg rfl rfl 47 _ (heap_alloc_last w1 _) HIs.out hsz.out hone.out ?_))
  rw [zeros8, HBg.out]
  obtain ⟨w2, hw2⟩ : ∃ w2, w2 = (w1.alloc (.cells (kV .u32 (List.replicate 8 0)).toArray 47)).setRow w1.heap.size (kV .u32 begin8.list).toArray := ⟨_, rfl⟩
  rw [← hw2]
  obtain ⟨S, hS⟩ : ∃ S, S = w1.heap.size := ⟨_, rfl⟩
  rw [← hS]
  have hSw : w.heap.size ≤ S := by rw [hS]; exact b1.size
  have r2 : Row w2 S 47 .u32 begin8.list := by rw [hw2, hS]; exact Row.stored (Row.new w1 47 .u32 (List.replicate 8 0))
  have b2 : Below w.heap.size w w2 := by rw [hw2]; exact below_setRow (b1.alloc b1.size _) b1.size _
  clear hw2 hS b1 HI8 HIs hsz hone hblk HBg
  obtain ⟨P, hP⟩ : ∃ P : ByteArray, P = ⟨p.toArray⟩ := ⟨_, rfl⟩
  rw [← hP]
  have hPs : P.size = 64 * n := by rw [hP]; show p.toArray.size = _; rw [List.size_toArray]; exact HP.out.2.1
  have HPP : Hid (P = ⟨p.toArray⟩ ∧ P.size = 64 * n) := ⟨hP, hPs⟩
  clear hP hPs
  go_loopw [5] (fun i wr => ∃ (k : Nat) (st : St), i = .int .i64 ((64 * k : Nat) : Int) ∧ k ≤ n ∧ Hid (st = blocks begin8 p k) ∧ Row wr S 47 .u32 st.list ∧ Below w.heap.size w wr) (fun i _ => 64 * n - (intOf i).toNat)
  case atStart => exact ⟨0, begin8, rfl, by omega, rfl, r2, b2⟩
  case round =>
    obtain ⟨k, st, rfl, hk, hst, hrow, hb⟩ := hrel
    clear r2 b2
    have hok : st.ok := by rw [hst.out]; exact blocks_ok _ begin8_ok _ _
    obtain ⟨j, hj⟩ : ∃ j, j = 64 * k := ⟨_, rfl⟩
    rw [← hj]
    by_cases hlt : k < n
    · obtain ⟨j2, hj2⟩ : ∃ j2, j2 = j + 64 := ⟨_, rfl⟩
      have e1 : (j : Int) + 64 = (j2 : Int) := by omega
      have ew : IntKind.i64.wrap ((j : Int) + 64) = (j2 : Int) := by have := HP.out.2.2.2; rw [IntWalk.i64_in _ (by omega)]; omega
      have ew2 : IntKind.i64.wrap (j2 : Int) = (j2 : Int) := by have := HP.out.2.2.2; rw [IntWalk.i64_in _ (by omega)]
      have hPs := HPP.out.2
      have hn4 := HP.out.2.2.2
      have i0 : (j : Int) < (P.size : Int) := by omega
      have i1 : (0 : Int) ≤ (j : Int) := by omega
      have i2 : (j : Int) ≤ (j2 : Int) := by omega
      have i3 : (j2 : Int) ≤ (P.size : Int) := by omega
      have i4 : (P.size : Int) ≤ 1280000 := by omega
      obtain ⟨L, hL⟩ : ∃ L, L = (p.drop (64 * k)).take 64 := ⟨_, rfl⟩
      have hLl : L.length = 64 := by have := HP.out.2.1; rw [hL]; simp; omega
      obtain ⟨X, hX⟩ : ∃ X, P.extract j j2 = X := ⟨_, rfl⟩
      have hXe : X = ⟨L.toArray⟩ := by rw [← hX, HPP.out.1, hj2, hj, hL]; exact extract_blk p k (by have := HP.out.2.1; omega)
      obtain ⟨R, hR⟩ : ∃ R, R = blockSt st L := ⟨_, rfl⟩
      have HR : Hid (R = blockSt st L ∧ X = ⟨L.toArray⟩ ∧ L.length = 64 ∧ L = (p.drop (64 * k)).take 64 ∧ j = 64 * k ∧ j2 = j + 64) := ⟨hR, hXe, hLl, hL, hj, hj2⟩
      have HTK : Hid (TabK wr) := HT.out.1.below hb HT.out.1.pos
      have HROW : Hid (Row wr S 47 .u32 st.list ∧ Below w.heap.size w wr) := ⟨hrow, hb⟩
      have HOK : Hid st.ok := hok
      have hSl := hrow.lt
      obtain ⟨c0, c1, c2, c3, c4, c5, c6, c7, cf⟩ := cells8 _ hrow
      clear hPs hn4 hL hLl hXe hR hj hj2 hb hrow hok cf
      have HIst : Hid ((Tryd.prog.info? 47).map (·.size) = some R.list.length) := by unfold Hid; rw [show R.list.length = 8 from rfl]; kernel_rfl
      have hkl : (kV .u32 R.list).length = 8 := rfl
      go_wp2_with fail
      go_region_with (go_at_call 25; refine (after_at st R X L (.agg #[.int .u32 (st.a : Int), .int .u32 (st.b : Int), .int .u32 (st.c : Int), .int .u32 (st.d : Int), .int .u32 (st.e : Int), .int .u32 (st.f : Int), .int .u32 (st.g : Int), .int .u32 (st.h : Int)]) wr.drew rfl HR.out.2.1 HR.out.2.2.1 HOK.out HTK.out HR.out.1).mono ?_; rintro e w3 ⟨rfl, b3⟩; have r3 := Row.below HROW.out.1.drew b3 hSl; have hst3 := r3.storeCells (l' := R.list) (k' := .u32) rfl HIst.out; have HR3 : Hid (Row w3 S 47 .u32 st.list) := r3; clear r3)
      have rR : Row (w3.setRow S (kV .u32 R.list).toArray) S 47 .u32 R.list := Row.stored HR3.out
      have bR : Below w.heap.size w (w3.setRow S (kV .u32 R.list).toArray) := below_setRow ((HROW.out.2.drew).trans (b3.mono HROW.out.2.size)) hSw _
      clear hst3 b3 HR3 hkl ew ew2 c0 c1 c2 c3 c4 c5 c6 c7
      go_wp2
      go_roundw
      case rel =>
        refine ⟨k + 1, R, ?_, by omega, ?_, rR, bR⟩
        · have := HR.out.2.2.2.2
          congr 1
          omega
        · unfold Hid
          rw [blocks, ← hst.out, ← HR.out.2.2.2.1]
          exact HR.out.1
      case measure => have := HR.out.2.2.2.2; have := HPP.out.2; simp [intOf]; omega
    · have hkn : k = n := by omega
      have hPs := HPP.out.2
      have i0 : ¬ ((j : Int) < (P.size : Int)) := by omega
      have hrw : wr.heap[S]? = some (.cells (kV .u32 st.list).toArray 47 (0, 0)) := hrow
      have HIs : Hid ((Tryd.prog.info? 47).map (·.size) = some (kV .u32 st.list).toArray.size) := by unfold Hid; rw [show (kV .u32 st.list).toArray.size = 8 from rfl]; kernel_rfl
      have HE : Hid (st = digestSt s.data.toList) := by
        unfold Hid digestSt
        rw [hst.out, hkn, HP.out.1, HP.out.2.2.1]
        rfl
      clear hkn hPs hlt hst hrow
      go_wp2_with (refine wpList_load_row rfl 47 (.tmp 4) rfl S rfl 47 (kV .u32 st.list).toArray (0, 0) _ hrw Tryd.underlying47 rfl HIs.out ?_)
      refine (stBytes_any st _ hok).mono ?_
      rintro e w4 ⟨rfl, b4⟩
      go_wp2
      go_ret
      exact ⟨by rw [HE.out]; rfl, hb.trans (b4.mono hb.size)⟩

end Go.Proofs.YtfbdbeaijkhbfaaDoor
