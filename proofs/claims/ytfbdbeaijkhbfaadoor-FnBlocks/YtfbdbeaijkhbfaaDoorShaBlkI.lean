/- What slices.Clone of ints and impl.ShaBlock answer at a slice of the call's own. -/
import Derived.Test.YtfbdbeaijkhbfaaDoorStateOf
import Derived.Test.YtfbdbeaijkhbfaaDoorStartIS
import Derived.Lib.SliceRun
namespace Go.Proofs.YtfbdbeaijkhbfaaDoor
open Go.RowKit
set_option linter.unusedVariables false

theorem own_empty (w : World) : (w.alloc (.cells #[] 3)).ownsRow w.heap.size 3 1 (.slice (some ⟨w.heap.size, 0, none⟩) 0 0) 0 [] :=
  World.ownsRow_lit (base := w.heap.size) (e := 3) (size := 1) w #[] 0 (Nat.le_refl _) (by decide) rfl

theorem src_cells {w : World} {g c : Nat} {zs : List Int} (h : OwnI w g (.slice (some ⟨g, 0, none⟩) zs.length c) zs) (o : Obj) : ∀ j u, (zV zs)[j]? = some u → (w.alloc o).cell? ((⟨g, 0, none⟩ : Addr).add j) = some u := by
  intro j u hu
  have hj : j < zs.length := by
    have := (List.getElem?_eq_some_iff.1 hu).1
    simpa [zV] using this
  have h2 := h.block (w' := w.alloc o) (Below.heap_alloc w o g h.2.1) (by simp only [sz_alloc]; omega)
  rw [Addr.add_lit, Nat.zero_add, (h2.2.2 j hj).1, ← hu]
  simp [zV, hj]

theorem zV_one (zs : List Int) : ∀ u ∈ zV zs, u.oneCell' = true := by
  intro u hu
  simp only [zV, List.mem_map] at hu
  obtain ⟨z, _, rfl⟩ := hu
  rfl

theorem zV_length (zs : List Int) : (zV zs).length = zs.length := by simp [zV]

set_option maxHeartbeats 800000 in
theorem slClone_any (g : Nat) (v : Value) (zs : List Int) (w : World) (hl : zs.length ≤ 1048576) (h : OwnI w g v zs) :
    Calls Tryd.prog 24 #[v] w fun e w' => ∃ g' v', e = .returned v' ∧ w.heap.size ≤ g' ∧ OwnI w' g' v' zs ∧ Below w.heap.size w w' := by
  obtain ⟨i0, hi, hz0, hz1, hz2⟩ := info_parts Tryd.infoI
  obtain ⟨c, rfl⟩ := h.1
  have HS : Hid (∀ o : Obj, ∀ j u, (zV zs)[j]? = some u → (w.alloc o).cell? ((⟨g, 0, none⟩ : Addr).add j) = some u) := fun o => src_cells h o
  have HL : Hid ((zV zs).length = zs.length * 1 ∧ zs.length ≤ 1048576) := ⟨by rw [zV_length]; omega, hl⟩
  have hnq : (binOp .eql 26 (.slice (some ⟨g, 0, none⟩) zs.length c) (.slice none 0 0)).run Tryd.prog w = .ok (.bool false) w := Lib.run_eql_slice_nil w _ _ _ _ _ _ _ Tryd.underlying26
  clear h hl
  go_enter Tryd.func24, Tryd.ntmps24
  go_wp2_with (at_builtin; refine wpList_append_own _ rfl (.tmp 5) (.tmp 6) 26 rfl w.heap.size 3 i0 (.int .i64 0) 1 8 Tryd.underlying26 hi hz0 hz1 hz2 rfl (by decide) _ _ _ rfl (own_empty w) ⟨g, 0, none⟩ zs.length c (zV zs) rfl HL.out.1 (HS.out _) (zV_one zs) ?c3 ?c4 ?c5 ?_)
  case c3 => have := HL.out.2; unfold maxLen; omega
  case c4 => have := HL.out.2; omega
  case c5 => simp only [sz_alloc]; omega
  intro v' w1 hown hgrow hnil
  have b1 : Below w.heap.size w w1 := ((Below.refl _ w).alloc (Nat.le_refl _) _).grown hgrow (by simp only [sz_alloc]; omega) (fun k hk => by simp [Value.ownBlock] at hk; omega)
  have hn : ¬ v' = .slice none 0 0 := by intro e; have := hnil; simp_all
  have hF : Hid (∃ g', w.heap.size ≤ g' ∧ OwnI w1 g' v' zs) := by
    have : w1.ownsRow w.heap.size 3 1 v' (0 + zs.length) (zs.map (Value.int .i64)) := by simpa [zV] using hown
    exact OwnI.ofOwns this hn
  clear hown hgrow hnil hn
  go_wp2
  go_ret
  obtain ⟨g', h1, h2⟩ := hF.out
  exact ⟨g', _, rfl, h1, h2, b1⟩

theorem stateOf_any (g : Nat) (v : Value) (zs : List Int) (w : World) (hl : zs.length ≤ 1048576) (h : OwnI w g v zs) :
    Calls Tryd.prog 23 #[v] w fun e w' => ∃ (l : List Nat) (r : Bool), e = .returned (.tuple #[.agg (kV .u32 l).toArray, .bool r]) ∧ l.length = 8 ∧ Below w.heap.size w w' ∧ (r = true ↔ zs.length = 8 ∧ toZ (zs.map w32) = zs) ∧ (r = true → l = zs.map w32) := by
  by_cases hn : zs.length = 8
  · refine (stateOf_yes g v zs w hn h).mono ?_
    rintro e w' ⟨rfl, hb⟩
    refine ⟨zs.map w32, _, rfl, by rw [List.length_map]; exact hn, hb, ?_, fun _ => rfl⟩
    rw [decide_eq_true_iff]
    exact ⟨fun h => ⟨hn, h⟩, fun h => h.2⟩
  · refine (stateOf_no g v zs w hl hn h).mono ?_
    rintro e w' ⟨rfl, hb⟩
    exact ⟨List.replicate 8 0, false, rfl, by simp, hb, ⟨(fun h => by cases h), (fun h => absurd h.1 hn)⟩, (fun h => by cases h)⟩

/-- The words of a list of eight. -/
def stOf (l : List Nat) : St := ⟨l.getD 0 0, l.getD 1 0, l.getD 2 0, l.getD 3 0, l.getD 4 0, l.getD 5 0, l.getD 6 0, l.getD 7 0⟩

theorem stOf_list (l : List Nat) (h : l.length = 8) : (stOf l).list = l := by
  match l, h with
  | [a, b, c, d, e, f, g, i], _ => rfl

theorem stOf_ok (l : List Nat) (h : ∀ x ∈ l, x < 4294967296) : (stOf l).ok :=
  ⟨getD_lt32 h _, getD_lt32 h _, getD_lt32 h _, getD_lt32 h _, getD_lt32 h _, getD_lt32 h _, getD_lt32 h _, getD_lt32 h _⟩

/-- One block, of a list that may be none. -/
def shaZ (zs : List Int) (L : List UInt8) : List Int := if (zs.length = 8 ∧ toZ (zs.map w32) = zs) ∧ L.length = 64 then toZ (blockSt (stOf (zs.map w32)) L).list else zs

theorem map32_lt (zs : List Int) : ∀ x ∈ zs.map w32, x < 4294967296 := by
  intro x hx
  obtain ⟨z, _, rfl⟩ := List.mem_map.1 hx
  exact w32_lt z

theorem st_lt (s : St) (h : s.ok) : ∀ x ∈ s.list, x < 4294967296 := by
  obtain ⟨h1, h2, h3, h4, h5, h6, h7, h8⟩ := h
  intro x hx
  simp only [St.list, List.mem_cons, List.not_mem_nil, or_false] at hx
  rcases hx with rfl | rfl | rfl | rfl | rfl | rfl | rfl | rfl <;> assumption

set_option maxRecDepth 100000 in
set_option maxHeartbeats 1000000 in
theorem iBlk_any (g : Nat) (v : Value) (zs : List Int) (s : ByteArray) (w : World) (hl : zs.length ≤ 1048576) (hs : s.size ≤ 1048576) (h : OwnI w g v zs) (hT : TabK w) :
    Calls Tryd.prog 9 #[v, .string s] w fun e w' => ∃ g' v', e = .returned v' ∧ w.heap.size ≤ g' ∧ OwnI w' g' v' (shaZ zs s.data.toList) ∧ Below w.heap.size w w' := by
  have HH : Hid (OwnI w g v zs ∧ TabK w ∧ zs.length ≤ 1048576) := ⟨h, hT, hl⟩
  clear h hT hl
  go_enter Tryd.func9, Tryd.ntmps9
  go_wp2_with fail
  refine (stateOf_any g v zs _ HH.out.2.2 HH.out.1).mono ?_
  rintro e w1 ⟨l, r, rfl, hll, b1, hr, hrl⟩
  have HI : Hid ((Tryd.prog.info? 47).map (·.size) = some (kV .u32 l).toArray.size ∧ 8 = (kV .u32 l).toArray.size) := by
    have e : (kV .u32 l).toArray.size = 8 := by simp [kV, hll]
    exact ⟨by rw [e]; exact infoSt, e.symm⟩
  have HR : Hid ((r = true ↔ zs.length = 8 ∧ toZ (zs.map w32) = zs) ∧ (r = true → l = zs.map w32)) := ⟨hr, hrl⟩
  clear hr hrl hll
  have c1 : OwnI w1 g v zs := HH.out.1.below b1 HH.out.1.2.1
  by_cases hgo : r = true ∧ s.size = 64
  · obtain ⟨rfl, h64⟩ := hgo
    obtain ⟨hr1, hr2⟩ := HR.out
    have hzz := hr1.1 rfl
    have hlz := hr2 rfl
    have hlen : l.length = 8 := by rw [hlz, List.length_map]; exact hzz.1
    have hlt : ∀ x ∈ l, x < 4294967296 := by rw [hlz]; exact map32_lt zs
    obtain ⟨R, hR⟩ : ∃ R, R = blockSt (stOf l) s.data.toList := ⟨_, rfl⟩
    have hz : shaZ zs s.data.toList = toZ R.list := by
      unfold shaZ
      rw [if_pos ⟨hzz, h64⟩, hR, hlz]
    have hRok : R.ok := by rw [hR]; exact blockSt_ok _ _
    have HZ : Hid (shaZ zs s.data.toList = toZ R.list ∧ R.ok ∧ R = blockSt (stOf l) s.data.toList ∧ l.length = 8 ∧ (∀ x ∈ l, x < 4294967296)) := ⟨hz, hRok, hR, hlen, hlt⟩
    have h64' : (s.size : Int) = 64 := by omega
    have HS64 : Hid (s.size = 64) := h64
    obtain ⟨w2, hw2⟩ : ∃ w2, w2 = (w1.alloc (.cells (kV .u32 (List.replicate 8 0)).toArray 47)).setRow w1.heap.size (kV .u32 l).toArray := ⟨_, rfl⟩
    have r2 : w2.heap[w1.heap.size]? = some (.cells (kV .u32 l).toArray 47 (0, 0)) := by rw [hw2]; exact Row.stored (Row.new w1 47 .u32 (List.replicate 8 0))
    have b2 : Below w.heap.size w w2 := by rw [hw2]; exact below_setRow (b1.alloc b1.size _) b1.size _
    have HT2 : Hid (TabK w2) := HH.out.2.1.below b2 HH.out.2.1.pos
    obtain ⟨Ri, hRi⟩ : ∃ Ri, Ri = (kV .i64 R.list).toArray := ⟨_, rfl⟩
    have HRi : Hid (Ri = (kV .i64 R.list).toArray ∧ (Tryd.prog.info? 43).map (·.size) = some Ri.size ∧ 8 = Ri.size ∧ Ri.all (·.oneCell') = true) := by
      refine ⟨hRi, ?_, ?_, ?_⟩
      · rw [hRi, show (kV .i64 R.list).toArray.size = 8 from rfl]; exact infoNums
      · rw [hRi]; rfl
      · rw [hRi]; exact kV_one _ _
    clear hr1 hr2 hzz hlz hlen hlt hR hz hRok h64 c1 b1 hRi
    rw [← zeros8] at hw2
    rw [hw2] at r2
    go_wp2_with (first
      | (refine wpList_store_row rfl 47 (.tmp 5) (.tmp 11) rfl w1.heap.size (kV .u32 l).toArray rfl rfl 47 _ (heap_alloc_last w1 _) HI.out.1 HI.out.2 (kV_one _ _) ?_)
      | (refine wpList_load_row rfl 47 (.tmp 5) rfl w1.heap.size rfl 47 (kV .u32 l).toArray (0, 0) _ r2 Tryd.underlying47 rfl HI.out.1 ?_))
    rw [← hw2]
    clear r2 hw2
    refine (after_at (stOf l) R s s.data.toList _ _ (by rw [stOf_list l HZ.out.2.2.2.1]) rfl HS64.out (stOf_ok l HZ.out.2.2.2.2) HT2.out HZ.out.2.2.1).mono ?_
    rintro e w3 ⟨rfl, b3⟩
    have c3 := b2.trans (b3.mono b2.size)
    clear b2 b3
    go_wp2_with fail
    refine (numbers_at R.list Ri _ HRi.out.1 rfl (st_lt R HZ.out.2.1) _ rfl).mono ?_
    rintro e w4 ⟨rfl, b4⟩
    have c4 := c3.trans (b4.mono c3.size)
    clear c3 b4
    go_wp2_with (refine wpList_store_row rfl 43 (.tmp 7) (.tmp 25) rfl w4.heap.size Ri rfl rfl 43 _ (heap_alloc_last w4 _) HRi.out.2.1 HRi.out.2.2.1 HRi.out.2.2.2 ?_)
    go_ret
    rw [zeros8i, HRi.out.1]
    refine ⟨w4.heap.size, _, rfl, c4.size, ?_, below_setRow (c4.alloc c4.size _) c4.size _⟩
    rw [HZ.out.1]
    exact OwnI.ofRow (Row.stored (Row.new w4 43 .i64 (List.replicate 8 0)))
  · have hz : shaZ zs s.data.toList = zs := by
      unfold shaZ
      rw [if_neg]
      rintro ⟨h1, h2⟩
      exact hgo ⟨HR.out.1.2 h1, h2⟩
    have HZ : Hid (shaZ zs s.data.toList = zs) := hz
    have c2 : OwnI ((w1.alloc (.cells (kV .u32 (List.replicate 8 0)).toArray 47)).setRow w1.heap.size (kV .u32 l).toArray) g v zs :=
      c1.block ((setRow_other _ _ _ _ (by have := c1.2.1; omega)).trans (Below.heap_alloc w1 _ g c1.2.1)) (by rw [size_setRow, sz_alloc]; omega)
    have d2 : Below w.heap.size w ((w1.alloc (.cells (kV .u32 (List.replicate 8 0)).toArray 47)).setRow w1.heap.size (kV .u32 l).toArray) := below_setRow (b1.alloc b1.size _) b1.size _
    have HC : Hid (OwnI ((w1.alloc (.cells (kV .u32 (List.replicate 8 0)).toArray 47)).setRow w1.heap.size (kV .u32 l).toArray) g v zs ∧ Below w.heap.size w ((w1.alloc (.cells (kV .u32 (List.replicate 8 0)).toArray 47)).setRow w1.heap.size (kV .u32 l).toArray)) := ⟨c2, d2⟩
    have hs64 : r = true → ¬ ((s.size : Int) = 64) := fun h1 h2 => hgo ⟨h1, by omega⟩
    clear hz c1 c2 d2 hgo b1
    cases r
    · clear hs64
      go_wp2_with (refine wpList_store_row rfl 47 (.tmp 5) (.tmp 11) rfl w1.heap.size (kV .u32 l).toArray rfl rfl 47 _ (heap_alloc_last w1 _) HI.out.1 HI.out.2 (kV_one _ _) ?_)
      rw [zeros8]
      refine (slClone_any g v zs _ HH.out.2.2 HC.out.1).mono ?_
      rintro e w4 ⟨g', v', rfl, hg', o4, b4⟩
      have b5 := HC.out.2.trans (b4.mono HC.out.2.size)
      have hg5 : w.heap.size ≤ g' := by have := HC.out.2.size; omega
      clear b4 hg'
      go_wp2
      go_ret
      exact ⟨g', _, rfl, hg5, by rw [HZ.out]; exact o4, b5⟩
    · have hs' := hs64 rfl
      clear hs64
      go_wp2_with (refine wpList_store_row rfl 47 (.tmp 5) (.tmp 11) rfl w1.heap.size (kV .u32 l).toArray rfl rfl 47 _ (heap_alloc_last w1 _) HI.out.1 HI.out.2 (kV_one _ _) ?_)
      rw [zeros8]
      refine (slClone_any g v zs _ HH.out.2.2 HC.out.1).mono ?_
      rintro e w4 ⟨g', v', rfl, hg', o4, b4⟩
      have b5 := HC.out.2.trans (b4.mono HC.out.2.size)
      have hg5 : w.heap.size ≤ g' := by have := HC.out.2.size; omega
      clear b4 hg'
      go_wp2
      go_ret
      exact ⟨g', _, rfl, hg5, by rw [HZ.out]; exact o4, b5⟩

end Go.Proofs.YtfbdbeaijkhbfaaDoor
