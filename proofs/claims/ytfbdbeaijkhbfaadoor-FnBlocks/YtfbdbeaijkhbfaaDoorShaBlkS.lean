/- What spec.ShaBlock answers at a slice of the call's own. -/
import Derived.Test.YtfbdbeaijkhbfaaDoorShaBlkI
import Derived.Test.YtfbdbeaijkhbfaaDoorDigestS
import Derived.Test.YtfbdbeaijkhbfaaDoorVar
namespace Go.Proofs.YtfbdbeaijkhbfaaDoor
open Go.RowKit
set_option linter.unusedVariables false

theorem OwnI.other {w : World} {g b j : Nat} {v u : Value} {zs : List Int} (h : OwnI w g v zs) (hb : g ≠ b) : OwnI (w.setCell ⟨b, j, none⟩ u) g v zs :=
  h.block (Below.heap_setCell w ⟨b, j, none⟩ u g hb) (by rw [World.size_setCell]; exact Nat.le_refl _)

theorem OwnI.rowOther {w : World} {g b : Nat} {v : Value} {cs : Array Value} {zs : List Int} (h : OwnI w g v zs) (hb : g ≠ b) : OwnI (w.setRow b cs) g v zs :=
  h.block (setRow_other w b g cs hb) (by rw [size_setRow]; exact Nat.le_refl _)

theorem OwnI.alloc {w : World} {g : Nat} {v : Value} {zs : List Int} (h : OwnI w g v zs) (o : Obj) : OwnI (w.alloc o) g v zs :=
  h.block (Below.heap_alloc w o g h.2.1) (by simp only [sz_alloc]; omega)

theorem w32_in (z : Int) (h0 : 0 ≤ z) (h1 : z ≤ 4294967295) : ((w32 z : Nat) : Int) = z := by unfold w32; omega

theorem w32_not (z : Int) (h : z < 0 ∨ 4294967295 < z) : ¬ ((w32 z : Nat) : Int) = z := by unfold w32; omega

theorem toZ_bad (zs : List Int) (k : Nat) (hk : k < zs.length) (h : zs.getD k 0 < 0 ∨ 4294967295 < zs.getD k 0) : ¬ toZ (zs.map w32) = zs := by
  intro e
  have h2 : (toZ (zs.map w32)).getD k 0 = zs.getD k 0 := by rw [e]
  have h3 : (toZ (zs.map w32)).getD k 0 = ((w32 (zs.getD k 0) : Nat) : Int) := by simp [toZ, hk]
  rw [h3] at h2
  exact w32_not _ h h2

theorem toZ_good (zs : List Int) (h : ∀ j, j < zs.length → 0 ≤ zs.getD j 0 ∧ zs.getD j 0 ≤ 4294967295) : toZ (zs.map w32) = zs := by
  apply List.ext_getElem
  · simp [toZ]
  · intro j h1 h2
    have := h j h2
    have e : zs.getD j 0 = zs[j] := by simp [h2]
    rw [e] at this
    simp [toZ, w32_in _ this.1 this.2]

theorem take_map32 (zs : List Int) (k : Nat) (h : k < zs.length) : (zs.take (k + 1)).map w32 = (zs.take k).map w32 ++ [w32 (zs.getD k 0)] := by
  have e : zs.take (k + 1) = zs.take k ++ [zs.getD k 0] := by rw [List.take_add_one]; simp [List.getElem?_eq_getElem h]
  rw [e, List.map_append]
  rfl

theorem keys_at (K : Array Value) (w : World) (hK : K = (kV .u32 keysN).toArray) :
    Calls Tryd.prog 32 #[] w fun e w' => e = .returned (.agg K) ∧ Below w.heap.size w w' := by
  subst hK; exact l03Keys_any w

theorem shaZ_no (zs : List Int) (L : List UInt8) (h : ¬ ((zs.length = 8 ∧ toZ (zs.map w32) = zs) ∧ L.length = 64)) : shaZ zs L = zs := by
  unfold shaZ; rw [if_neg h]

theorem built8 (a : Act) : Tryd.prog.built 45 ((#[] : Array (Nat × Operand)).map fun (i, x) => (i, a.eval x)).toList = some (kV .u32 (List.replicate 8 0)).toArray := by
  have e : ((#[] : Array (Nat × Operand)).map fun (i, x) => (i, a.eval x)).toList = [] := by simp
  rw [e]
  exact (show Tryd.prog.built 45 [] = some (kV .u32 (List.replicate 8 0)).toArray by kernel_rfl)

/-- The world in which spec.ShaBlock works: the list that came in (block g), its copy (q), the words (T). -/
structure SbW (w wr : World) (g q T c : Nat) (v1 : Value) (zs : List Int) (l : List Nat) : Prop where
  src : OwnI wr g (.slice (some ⟨g, 0, none⟩) zs.length c) zs
  own : OwnI wr q v1 zs
  wrd : Row wr T 45 .u32 l
  below : Below w.heap.size w wr

set_option maxRecDepth 100000 in
set_option maxHeartbeats 2000000 in
theorem sBlk_any (g : Nat) (v : Value) (zs : List Int) (s : ByteArray) (w : World) (hl : zs.length ≤ 1048576) (hs : s.size ≤ 1048576) (h : OwnI w g v zs) :
    Calls Tryd.prog 15 #[v, .string s] w fun e w' => ∃ g' v', e = .returned v' ∧ w.heap.size ≤ g' ∧ OwnI w' g' v' (shaZ zs s.data.toList) ∧ Below w.heap.size w w' := by
  obtain ⟨i0, hi, hz0, hz1, hz2⟩ := info_parts Tryd.infoI
  obtain ⟨c, rfl⟩ := h.1
  have HS : Hid (∀ o : Obj, ∀ j u, (zV zs)[j]? = some u → (w.alloc o).cell? ((⟨g, 0, none⟩ : Addr).add j) = some u) := fun o => src_cells h o
  have HL : Hid ((zV zs).length = zs.length * 1 ∧ zs.length ≤ 1048576 ∧ OwnI w g (.slice (some ⟨g, 0, none⟩) zs.length c) zs) := ⟨by rw [zV_length]; omega, hl, h⟩
  have hgw := h.2.1
  have HI8 : Hid ((Tryd.prog.info? 45).map (·.size) = some (kV .u32 (List.replicate 8 0)).toArray.size ∧ 8 = (kV .u32 (List.replicate 8 0)).toArray.size) := ⟨by kernel_rfl, rfl⟩
  obtain ⟨n, hn⟩ : ∃ n, n = zs.length := ⟨_, rfl⟩
  rw [← hn] at HL ⊢
  have HN : Hid (n = zs.length) := hn
  clear h hl hn
  go_enter Tryd.func15, Tryd.ntmps15
  by_cases hgo : n = 8 ∧ s.size = 64
  · obtain ⟨rfl, h64⟩ := hgo
    have h64' : (s.size : Int) = 64 := by omega
    have HS64 : Hid (s.size = 64) := h64
    clear h64
    go_wp2_with (first
      | (at_builtin; refine wpList_append_own _ rfl (.tmp 9) (.tmp 10) 26 rfl w.heap.size 3 i0 (.int .i64 0) 1 8 Tryd.underlying26 hi hz0 hz1 hz2 rfl (by decide) (.slice (some ⟨w.heap.size, 0, none⟩) 0 0) 0 [] rfl (own_empty w) ⟨g, 0, none⟩ 8 c (zV zs) rfl HL.out.1 (HS.out _) (zV_one zs) (by unfold maxLen; omega) (by omega) (by simp only [sz_alloc]; omega) ?_; intro v1 w1 hown hgrow hnil)
      | (refine wpList_buildTo rfl 45 #[] rfl (some 21) rfl _ (built8 _) ?_)
      | (refine wpList_store_row rfl 45 (.tmp 6) (.tmp 21) rfl w1.heap.size (kV .u32 (List.replicate 8 0)).toArray rfl rfl 45 _ (heap_alloc_last w1 _) HI8.out.1 HI8.out.2 (kV_one _ _) ?_))
    have hn1 : ¬ v1 = .slice none 0 0 := by intro e; have := hnil; simp_all
    have b1 : Below w.heap.size w w1 := ((Below.refl _ w).alloc (Nat.le_refl _) _).grown hgrow (by simp only [sz_alloc]; omega) (fun k hk => by simp [Value.ownBlock] at hk; omega)
    have hO : ∃ g', w.heap.size ≤ g' ∧ OwnI w1 g' v1 zs := by
      have hx : w1.ownsRow w.heap.size 3 1 v1 (0 + 8) (zs.map (Value.int .i64)) := by simpa [zV] using hown
      exact OwnI.ofOwns hx hn1
    clear hown hgrow hnil hn1
    obtain ⟨q, hq1, o1⟩ := hO
    rw [zeros8, show kV .u32 [0, 0, 0, 0, 0, 0, 0, 0] = kV .u32 (List.replicate 8 0) from rfl]
    obtain ⟨w2, hw2⟩ : ∃ w2, w2 = (w1.alloc (.cells (kV .u32 (List.replicate 8 0)).toArray 45)).setRow w1.heap.size (kV .u32 (List.replicate 8 0)).toArray := ⟨_, rfl⟩
    rw [← hw2]
    obtain ⟨T, hT⟩ : ∃ T, T = w1.heap.size := ⟨_, rfl⟩
    rw [← hT]
    have hqT : q < T := by rw [hT]; exact o1.2.1
    have hgT : g < T := by have := b1.size; omega
    have hTw : w.heap.size ≤ T := by rw [hT]; exact b1.size
    have hgq : g < q := by omega
    have hW2 : SbW w w2 g q T c v1 zs (List.replicate 8 0) := by
      rw [hw2, hT]
      refine ⟨?_, (o1.alloc _).rowOther (by omega), Row.stored (Row.new w1 45 .u32 (List.replicate 8 0)), below_setRow (b1.alloc b1.size _) b1.size _⟩
      have h1 : OwnI w1 g (.slice (some ⟨g, 0, none⟩) zs.length c) zs := by rw [← HN.out]; exact HL.out.2.2.below b1 hgw
      exact (h1.alloc _).rowOther (by omega)
    clear hw2 hT o1 b1
    generalize Value.agg (kV .u32 (List.replicate 8 0)).toArray = V21
    go_loopw [7] (fun i wr => ∃ k : Nat, i = .int .i64 k ∧ k ≤ 8 ∧ SbW w wr g q T c v1 zs (padZ 8 ((zs.take k).map w32)) ∧ Hid (∀ j, j < k → 0 ≤ zs.getD j 0 ∧ zs.getD j 0 ≤ 4294967295)) (fun i _ => 8 - (intOf i).toNat)
    case atStart => exact ⟨0, rfl, by omega, hW2, by unfold Hid; intro j hj; omega⟩
    case round =>
      obtain ⟨k, rfl, hk, hW, hin⟩ := hrel
      clear hW2
      by_cases hlt : k < 8
      · have bk : (k : Int) < 8 := by omega
        have hkz : k < zs.length := by rw [← HN.out]; exact hlt
        obtain ⟨z, hz⟩ : ∃ z, z = zs.getD k 0 := ⟨_, rfl⟩
        have cz := (hW.src.2.2 k hkz).1
        rw [← hz] at cz
        have htl : ((zs.take k).map w32).length = k := by rw [List.length_map, List.length_take]; omega
        have ct := hW.wrd.cell k (by rw [padZ_length _ _ (by omega)]; exact hlt)
        have ft := hW.wrd.frozen k
        have HW : Hid (SbW w wr g q T c v1 zs (padZ 8 ((zs.take k).map w32)) ∧ z = zs.getD k 0 ∧ ((zs.take k).map w32).length = k ∧ k < zs.length) := ⟨hW, hz, htl, hkz⟩
        clear hW hz htl hkz
        by_cases hz2 : 0 ≤ z ∧ z ≤ 4294967295
        · go_wp2_with fail
          refine (l01In_yes z 0 4294967295 _ hz2.1 hz2.2).mono ?_
          rintro e w5 ⟨rfl, rfl⟩
          go_wp2
          go_roundw
          case rel =>
            obtain ⟨hW, hz, htl, hkz⟩ := HW.out
            refine ⟨k + 1, by go_num, by omega, ⟨hW.src.other (by omega), hW.own.other (by omega), ?_, hW.below.setCell hTw _⟩, ?_⟩
            · have hset := padZ_set 8 ((zs.take k).map w32) (w32 z) (by omega)
              rw [htl] at hset
              have e2 : (zs.take (k + 1)).map w32 = (zs.take k).map w32 ++ [w32 z] := by rw [hz]; exact take_map32 zs k hkz
              rw [e2, ← hset]
              exact hW.wrd.set k (w32 z) _ (by first | exact w32_eq z | (rw [w32_in z hz2.1 hz2.2]))
            · unfold Hid
              intro j hj
              by_cases hjk : j = k
              · rw [hjk, ← hz]; exact hz2
              · exact hin.out j (by omega)
          case measure => simp [intOf]; omega
        · have hbad : z < 0 ∨ 4294967295 < z := by omega
          go_wp2_with fail
          refine (l01In_no z 0 4294967295 _ hbad).mono ?_
          rintro e w5 ⟨rfl, rfl⟩
          go_wp2
          go_ret
          obtain ⟨hW, hz, htl, hkz⟩ := HW.out
          have hzz : shaZ zs s.data.toList = zs := shaZ_no zs _ (fun h => toZ_bad zs k hkz (by rw [← hz]; exact hbad) h.1.2)
          exact ⟨q, _, rfl, hq1, by rw [hzz]; exact hW.own, hW.below⟩
      · have hk8 : k = 8 := by omega
        have bk : ¬ ((k : Int) < 8) := by omega
        have hzl : zs.length = 8 := HN.out.symm
        obtain ⟨l, hl⟩ : ∃ l, l = zs.map w32 := ⟨_, rfl⟩
        have hll : l.length = 8 := by rw [hl, List.length_map]; exact hzl
        have e3 : padZ 8 ((zs.take k).map w32) = l := by
          rw [hk8, List.take_of_length_le (by omega), ← hl]; exact padZ_full 8 l hll
        rw [e3] at hW
        have hgood : toZ (zs.map w32) = zs := toZ_good zs (fun j hj => hin.out j (by omega))
        obtain ⟨R, hR⟩ : ∃ R, R = blockSt (stOf l) s.data.toList := ⟨_, rfl⟩
        have hz : shaZ zs s.data.toList = toZ R.list := by
          unfold shaZ
          rw [if_pos ⟨⟨hzl, hgood⟩, HS64.out⟩, hR, hl]
        have hok : (stOf l).ok := stOf_ok l (by rw [hl]; exact map32_lt zs)
        have hsl : (stOf l).list = l := stOf_list l hll
        obtain ⟨st, hst⟩ : ∃ st, st = stOf l := ⟨_, rfl⟩
        rw [← hst] at hok hsl hR
        rw [← hsl] at hW
        obtain ⟨X, hX⟩ : ∃ X, (#[.int .u32 (st.a : Int), .int .u32 (st.b : Int), .int .u32 (st.c : Int), .int .u32 (st.d : Int), .int .u32 (st.e : Int), .int .u32 (st.f : Int), .int .u32 (st.g : Int), .int .u32 (st.h : Int)] : Array Value) = X := ⟨_, rfl⟩
        obtain ⟨Ks, hKs⟩ : ∃ Ks, Ks = (kV .u32 keysN).toArray := ⟨_, rfl⟩
        have HA : Hid (X = (kV .u32 st.list).toArray ∧ Ks = (kV .u32 keysN).toArray ∧ st.ok ∧ R = blockSt st s.data.toList ∧ shaZ zs s.data.toList = toZ R.list ∧ SbW w wr g q T c v1 zs st.list) := ⟨hX.symm, hKs, hok, hR, hz, hW⟩
        have HIst : Hid ((Tryd.prog.info? 45).map (·.size) = some R.list.length) := by unfold Hid; rw [show R.list.length = 8 from rfl]; kernel_rfl
        have hkl : (kV .u32 R.list).length = 8 := rfl
        have hTl := hW.wrd.lt
        obtain ⟨a0, a1, a2, a3, a4, a5, a6, a7, af⟩ := cells8 _ hW.wrd
        clear hk8 hll e3 hgood hz hok hsl hst hR hKs hW hl hin hzl af
        go_wp2_with fail
        go_region_with (first
          | (go_at_call 32; refine (keys_at Ks wr.drew HA.out.2.1).mono ?_; rintro e w5 ⟨rfl, b5⟩; have r5 := Row.below (w := wr.drew) HA.out.2.2.2.2.2.wrd b5 hTl; obtain ⟨d0, d1, d2, d3, d4, d5, d6, d7, df⟩ := cells8 _ r5; have HR5 : Hid (Row w5 T 45 .u32 st.list) := r5; have hT5 := r5.lt; clear df r5)
          | (go_at_call 34; refine (block_at st R s s.data.toList keysN (.agg X) (.agg Ks) w5 (by rw [HA.out.1]) (by rw [HA.out.2.1]) rfl rfl HS64.out HA.out.2.2.1 HA.out.2.2.2.1).mono ?_; rintro e w6 ⟨rfl, b6⟩; have r6 := Row.below HR5.out b6 hT5; have hst6 := r6.storeCells (l' := R.list) (k' := .u32) rfl HIst.out; have HR6 : Hid (Row w6 T 45 .u32 st.list) := r6; clear r6))
        all_goals
          have c6 : Below w.heap.size w w6 := ((HA.out.2.2.2.2.2.below.drew).trans (b5.mono HA.out.2.2.2.2.2.below.size)).trans (b6.mono (by have := b5.size; have h1 := HA.out.2.2.2.2.2.below.size; have : wr.drew.heap.size = wr.heap.size := rfl; omega))
          have hq6 : OwnI w6 q v1 zs := by
            have h0 := HA.out.2.2.2.2.2.own
            have h1 : OwnI w5 q v1 zs := OwnI.below (w := wr.drew) h0 b5 h0.2.1
            exact h1.below b6 h1.2.1
          obtain ⟨w7, hw7⟩ : ∃ w7, w7 = w6.setRow T (kV .u32 R.list).toArray := ⟨_, rfl⟩
          rw [← hw7]
          have r7 : Row w7 T 45 .u32 R.list := by rw [hw7]; exact Row.stored HR6.out
          have o7 : OwnI w7 q v1 zs := by rw [hw7]; exact hq6.rowOther (by omega)
          have c7 : Below w.heap.size w w7 := by rw [hw7]; exact below_setRow c6 hTw _
          have hRl : ∀ x ∈ R.list, x < 4294967296 := st_lt R (by rw [HA.out.2.2.2.1]; exact blockSt_ok _ _)
          have HF : Hid (shaZ zs s.data.toList = toZ R.list ∧ (∀ x ∈ R.list, x < 4294967296) ∧ zs.length = 8) := ⟨HA.out.2.2.2.2.1, hRl, HN.out.symm⟩
          obtain ⟨cv, hcv⟩ := o7.1
          rw [HF.out.2.2] at hcv
          subst hcv
          have H7 : Hid (∀ j, j < 8 → ∃ z, w7.cell? ⟨q, j, none⟩ = some (.int .i64 z) ∧ w7.frozen? ⟨q, j, none⟩ = false) := fun j hj => ⟨_, o7.2.2 j (by rw [HF.out.2.2]; exact hj)⟩
          have hq7 := o7.2.1
          clear hw7 hst6 b5 b6 HR5 HR6 hq6 c6 o7 d0 d1 d2 d3 d4 d5 d6 d7 a0 a1 a2 a3 a4 a5 a6 a7 hRl HA hkl hT5 hTl
          go_wp2_with fail
          go_loopw [8] (fun i wx => ∃ m : Nat, i = .int .i64 m ∧ m ≤ 8 ∧ Row wx T 45 .u32 R.list ∧ Below w.heap.size w wx ∧ q < wx.heap.size ∧ (∀ j, j < 8 → ∃ z, wx.cell? ⟨q, j, none⟩ = some (.int .i64 z) ∧ wx.frozen? ⟨q, j, none⟩ = false ∧ (j < m → z = ((R.list.getD j 0 : Nat) : Int)))) (fun i _ => 8 - (intOf i).toNat)
          case atStart => exact ⟨0, rfl, by omega, r7, c7, hq7, fun j hj => by obtain ⟨z, h1, h2⟩ := H7.out j hj; exact ⟨z, h1, h2, fun h => by omega⟩⟩
          case round =>
            obtain ⟨m, rfl, hm, hrow, hb, hqs, hcell⟩ := hrel
            clear r7 c7 H7 hq7
            by_cases hlt2 : m < 8
            · have bm : (m : Int) < 8 := by omega
              obtain ⟨x, hx⟩ : ∃ x, x = R.list.getD m 0 := ⟨_, rfl⟩
              have cx := hrow.cell m hlt2
              rw [← hx] at cx
              have hx32 : x < 4294967296 := by rw [hx]; exact getD_lt32 HF.out.2.1 _
              obtain ⟨y, cy, fy, _⟩ := hcell m hlt2
              have HC : Hid (Row wr T 45 .u32 R.list ∧ Below w.heap.size w wr ∧ (∀ j, j < 8 → ∃ z, wr.cell? ⟨q, j, none⟩ = some (.int .i64 z) ∧ wr.frozen? ⟨q, j, none⟩ = false ∧ (j < m → z = ((R.list.getD j 0 : Nat) : Int))) ∧ x = R.list.getD m 0) := ⟨hrow, hb, hcell, hx⟩
              clear hrow hb hcell hx
              go_wp2
              go_roundw
              case rel =>
                obtain ⟨hrow, hb, hcell, hx⟩ := HC.out
                refine ⟨m + 1, by go_num, by omega, hrow.other (by omega), hb.setCell hq1 _, by rw [World.size_setCell]; exact hqs, fun j hj => ?_⟩
                obtain ⟨y2, cy2, fy2, hy2⟩ := hcell j hj
                by_cases hjm : j = m
                · subst hjm
                  exact ⟨_, World.cell?_setCell_same _ _ _ cy2, by rw [World.frozen?_setCell]; exact fy2, fun _ => by rw [← hx]⟩
                · refine ⟨y2, ?_, by rw [World.frozen?_setCell]; exact fy2, fun h2 => hy2 (by omega)⟩
                  rw [World.cell?_setCell_other _ _ _ _ (fun e => hjm (by simpa using (congrArg Addr.off e).symm))]
                  exact cy2
              case measure => simp [intOf]; omega
            · have hm8 : m = 8 := by omega
              have bm : ¬ ((m : Int) < 8) := by omega
              have HE : Hid (OwnI wr q (.slice (some ⟨q, 0, none⟩) 8 cv) (shaZ zs s.data.toList)) := by
                unfold Hid
                rw [HF.out.1]
                refine ⟨⟨cv, by rw [toZ_length]; rfl⟩, hqs, fun j hj => ?_⟩
                rw [toZ_length] at hj
                obtain ⟨z, h1, h2, h3⟩ := hcell j hj
                rw [h1, h3 (by rw [hm8]; exact hj)]
                have hj' : j < R.list.length := hj
                refine ⟨?_, h2⟩
                simp [toZ, hj']
              clear hcell hrow hm8 hqs
              go_wp2
              go_ret
              exact ⟨q, _, rfl, hq1, HE.out, hb⟩
  · have hz : shaZ zs s.data.toList = zs := shaZ_no zs _ (fun h => hgo ⟨by rw [HN.out]; exact h.1.1, h.2⟩)
    have HZ : Hid (shaZ zs s.data.toList = zs) := hz
    have t1 : n = 8 → ¬ ((s.size : Int) = 64) := fun h1 h2 => hgo ⟨h1, by omega⟩
    clear hz hgo
    go_wp2_with (at_builtin; refine wpList_append_own _ rfl (.tmp 9) (.tmp 10) 26 rfl w.heap.size 3 i0 (.int .i64 0) 1 8 Tryd.underlying26 hi hz0 hz1 hz2 rfl (by decide) (.slice (some ⟨w.heap.size, 0, none⟩) 0 0) 0 [] rfl (own_empty w) ⟨g, 0, none⟩ n c (zV zs) rfl HL.out.1 (HS.out _) (zV_one zs) (by have := HL.out.2.1; have := HN.out; unfold maxLen; omega) (by have := HL.out.2.1; have := HN.out; omega) (by simp only [sz_alloc]; omega) ?_; intro v1 w1 hown hgrow hnil)
    all_goals
      have hn1 : ¬ v1 = .slice none 0 0 := by intro e; have := hnil; simp_all
      have b1 : Below w.heap.size w w1 := ((Below.refl _ w).alloc (Nat.le_refl _) _).grown hgrow (by simp only [sz_alloc]; omega) (fun k hk => by simp [Value.ownBlock] at hk; omega)
      have hO : ∃ g', w.heap.size ≤ g' ∧ OwnI w1 g' v1 zs := by
        have hx : w1.ownsRow w.heap.size 3 1 v1 (0 + n) (zs.map (Value.int .i64)) := by simpa [zV] using hown
        exact OwnI.ofOwns hx hn1
      go_ret
      obtain ⟨g', h1, h2⟩ := hO
      exact ⟨g', _, rfl, h1, by rw [HZ.out]; exact h2, b1⟩

end Go.Proofs.YtfbdbeaijkhbfaaDoor
