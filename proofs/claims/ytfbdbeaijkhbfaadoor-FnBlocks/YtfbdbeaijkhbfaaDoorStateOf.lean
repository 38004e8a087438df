/- What impl.stateOf answers: eight words of 32 bits, and whether the list was eight numbers of 32 bits. -/
import Derived.Test.YtfbdbeaijkhbfaaDoorEqNums
import Derived.Test.YtfbdbeaijkhbfaaDoorIntSl
import Derived.Deep.RegionHeld3
namespace Go.Proofs.YtfbdbeaijkhbfaaDoor
open Go.RowKit
set_option linter.unusedVariables false

theorem list8 (xs : List Int) (h : xs.length = 8) : ∃ a b c d e f g i, xs = [a, b, c, d, e, f, g, i] := by
  match xs, h with
  | [a, b, c, d, e, f, g, i], _ => exact ⟨a, b, c, d, e, f, g, i, rfl⟩

theorem zeros53 : (#[.int .i64 0, .int .i64 0, .int .i64 0, .int .i64 0, .int .i64 0, .int .i64 0, .int .i64 0, .int .i64 0] : Array Value) = (zV (List.replicate 8 0)).toArray := rfl

theorem results_row_tmp {P : Program} {fn : Func} {p u : Tmp} {ty : TypeId} (h : fn.results = #[.cell p ty, .tmp u]) (tmps : Array Value) (w : World) (g : Nat) (cs : Array Value)
    (hp : tmps.getD p undef = .pointer (some ⟨g, 0, none⟩)) (hl : (loadVar ty ⟨g, 0, none⟩).run P w = .ok (.agg cs) w) : (results fn tmps).run P w = .ok (.tuple #[.agg cs, tmps.getD u undef]) w := by
  rw [results_cell_tmp h, hp]
  simp [asAddr, Result.andThen, hl]

theorem infoSt : (Tryd.prog.info? 47).map (·.size) = some 8 := by kernel_rfl

theorem infoNums : (Tryd.prog.info? 43).map (·.size) = some 8 := by kernel_rfl

theorem builtZ : Tryd.prog.built 47 [] = some (kV .u32 (List.replicate 8 0)).toArray := by kernel_rfl

set_option maxRecDepth 100000 in
set_option maxHeartbeats 1000000 in
theorem stateOf_no (g : Nat) (v : Value) (zs : List Int) (w : World) (hl : zs.length ≤ 1048576) (hn : zs.length ≠ 8) (h : OwnI w g v zs) :
    Calls Tryd.prog 23 #[v] w fun e w' => e = .returned (.tuple #[.agg (kV .u32 (List.replicate 8 0)).toArray, .bool false]) ∧ Below w.heap.size w w' := by
  obtain ⟨c, rfl⟩ := h.1
  have t1 : ¬ ((zs.length : Int) = 8) := by omega
  clear h
  go_enter Tryd.func23, Tryd.ntmps23
  go_wp2
  rw [zeros8, zeros53]
  have r0 := (Row.new w 47 .u32 (List.replicate 8 0)).alloc (.cells (zV (List.replicate 8 0)).toArray 43)
  exact bodyPost_ret (results_row_tmp Tryd.results23 _ _ w.heap.size (kV .u32 (List.replicate 8 0)).toArray rfl (r0.load _ Tryd.underlying47 rfl infoSt)) rfl ⟨rfl, ((Below.refl _ w).alloc (Nat.le_refl _) _).alloc (by simp only [sz_alloc]; omega) _⟩

theorem storeX (w : World) (b : Nat) (L : List Nat) (X : Array Value) (hX : X = (kV .u32 L).toArray) (hL : L.length = 8) (h : Row w b 47 .u32 (List.replicate 8 0)) :
    (storeCells ⟨b, 0, none⟩ X.toList 0).run Tryd.prog w = .ok () (w.setRow b X) := by
  subst hX
  have := Row.store (P := Tryd.prog) (ty := 47) (k' := .u32) (l' := L) h (by simp [hL]) (by rw [hL]; exact infoSt)
  have hi := infoSt
  cases hq : Tryd.prog.info? 47 with
  | none => simp [hq] at hi
  | some i =>
    have hs : i.size = 8 := by simpa [hq] using hi
    have hs2 : (kV .u32 L).length = 8 := by rw [kV_length]; exact hL
    simpa [storeVar, sizeOf, typeInfo, hq, Value.cells, hs, hs2] using this

theorem numbers_at (l : List Nat) (A : Array Value) (w : World) (hA : A = (kV .i64 l).toArray) (hlen : l.length = 8) (hall : ∀ x ∈ l, x < 4294967296) (v : Value) (hv : v = .agg (kV .u32 l).toArray) :
    Calls Tryd.prog 22 #[v] w fun e w' => e = .returned (.agg A) ∧ Below w.heap.size w w' := by
  subst hA; subst hv; exact numbers_any l w hlen hall

set_option maxRecDepth 100000 in
set_option maxHeartbeats 1000000 in
theorem stateOf_yes (g : Nat) (v : Value) (zs : List Int) (w : World) (hn : zs.length = 8) (h : OwnI w g v zs) :
    Calls Tryd.prog 23 #[v] w fun e w' => e = .returned (.tuple #[.agg (kV .u32 (zs.map w32)).toArray, .bool (decide ((zs.map w32).map (fun (n : Nat) => ((n : Nat) : Int)) = zs))]) ∧ Below w.heap.size w w' := by
  obtain ⟨c, rfl⟩ := h.1
  have HO : Hid (OwnI w g (.slice (some ⟨g, 0, none⟩) zs.length c) zs ∧ zs.length = 8) := ⟨h, hn⟩
  have hgw := h.2.1
  rw [hn]
  clear h hn
  obtain ⟨w0, hw0⟩ : ∃ w0, w0 = (w.alloc (.cells #[.int .u32 0, .int .u32 0, .int .u32 0, .int .u32 0, .int .u32 0, .int .u32 0, .int .u32 0, .int .u32 0] 47)).alloc (.cells #[.int .i64 0, .int .i64 0, .int .i64 0, .int .i64 0, .int .i64 0, .int .i64 0, .int .i64 0, .int .i64 0] 43) := ⟨_, rfl⟩
  have r0 : Row w0 w.heap.size 47 .u32 (List.replicate 8 0) := by rw [hw0, zeros8]; exact (Row.new w 47 .u32 (List.replicate 8 0)).alloc _
  have n0 : w0.heap[w.heap.size + 1]? = some (.cells (zV (List.replicate 8 0)).toArray 43 (0, 0)) := by rw [hw0, zeros53]; exact alloc2_last w _ _
  have b0 : Below w.heap.size w w0 := by rw [hw0]; exact ((Below.refl _ w).alloc (Nat.le_refl _) _).alloc (by simp only [sz_alloc]; omega) _
  have s0 : w0.heap.size = w.heap.size + 2 := by rw [hw0]; simp only [sz_alloc]
  have hsrc : ∀ j u, (zV zs)[j]? = some u → w0.cell? ((⟨g, 0, none⟩ : Addr).add j) = some u := by
    intro j u hu
    have hj : j < zs.length := by
      have := (List.getElem?_eq_some_iff.1 hu).1
      simpa [zV] using this
    rw [Addr.add_lit, Nat.zero_add]
    have h1 := (HO.out.1.below b0 hgw).2.2 j hj
    rw [h1.1, ← hu]
    simp [zV, hj]
  have hone : ∀ u ∈ zV zs, u.oneCell' = true := by
    intro u hu
    simp only [zV, List.mem_map] at hu
    obtain ⟨z, _, rfl⟩ := hu
    rfl
  have hzl : (zV zs).length = 8 := by simp [zV, HO.out.2]
  have hcp := run_copy_row (P := Tryd.prog) w0 26 26 3 3 (w.heap.size + 1) 0 8 8 ⟨g, 0, none⟩ 8 c _ 43 (zV zs) Tryd.underlying26 (by kernel_rfl) n0 (by rw [hzl]; rfl) hsrc (by rw [hzl]; simp [zV]) hone
  have e1 : ((zV (List.replicate 8 0)).toArray.toList.take 0 ++ zV zs ++ (zV (List.replicate 8 0)).toArray.toList.drop (0 + (zV zs).length)).toArray = (zV zs).toArray := by
    have : (zV (List.replicate 8 0)).toArray.toList.drop (0 + (zV zs).length) = [] := List.drop_eq_nil_of_le (by simp [zV, HO.out.2])
    rw [this]; simp
  rw [e1, hzl] at hcp
  obtain ⟨w1, hw1⟩ : ∃ w1, w1 = w0.setRow (w.heap.size + 1) (zV zs).toArray := ⟨_, rfl⟩
  rw [← hw1] at hcp
  have r1 : Row w1 w.heap.size 47 .u32 (List.replicate 8 0) := by rw [hw1]; exact r0.rowOther (by omega)
  have n1 : w1.heap[w.heap.size + 1]? = some (.cells (zV zs).toArray 43 (0, 0)) := by rw [hw1]; exact setRow_heap w0 _ _ _ _ _ n0
  have b1 : Below w.heap.size w w1 := by rw [hw1]; exact below_setRow b0 (by omega) _
  have s1 : w1.heap.size = w.heap.size + 2 := by rw [hw1, size_setRow]; exact s0
  rw [hw0] at hcp
  have HI53 : Hid ((Tryd.prog.info? 43).map (·.size) = some (zV zs).toArray.size) := by unfold Hid; rw [show (zV zs).toArray.size = 8 by simp [zV, HO.out.2]]; exact infoNums
  obtain ⟨L, hL⟩ : ∃ L, L = zs.map w32 := ⟨_, rfl⟩
  have hLl : L.length = 8 := by rw [hL, List.length_map, HO.out.2]
  have HL : Hid (L = zs.map w32 ∧ L.length = 8) := ⟨hL, hLl⟩
  have HIst : Hid ((Tryd.prog.info? 47).map (·.size) = some (kV .u32 L).toArray.size ∧ 8 = (kV .u32 L).toArray.size) := by
    have e : (kV .u32 L).toArray.size = 8 := by simp [kV, hLl]
    exact ⟨by rw [e]; exact infoSt, e.symm⟩
  have H1 : Hid (Row w1 w.heap.size 47 .u32 (List.replicate 8 0) ∧ w1.heap[w.heap.size + 1]? = some (.cells (zV zs).toArray 43 (0, 0)) ∧ Below w.heap.size w w1 ∧ w1.heap.size = w.heap.size + 2) := ⟨r1, n1, b1, s1⟩
  clear hsrc hone hzl e1 hw1 hw0 r0 n0 b0 s0 r1 b1 s1 hLl
  go_enter Tryd.func23, Tryd.ntmps23
  go_wp2_with (refine wpList_load_row rfl 43 (.tmp 4) rfl (w.heap.size + 1) rfl 43 (zV zs).toArray (0, 0) _ n1 Tryd.underlying43 rfl HI53.out ?_)
  clear hcp n1
  refine (nState_any zs _ HO.out.2).mono ?_
  rintro e w2 ⟨rfl, b2⟩
  rw [← hL]
  clear hL
  go_wp2_with (refine wpList_store_row rfl 47 (.tmp 5) (.tmp 15) rfl w2.heap.size (kV .u32 L).toArray rfl rfl 47 _ (heap_alloc_last w2 _) HIst.out.1 HIst.out.2 (kV_one _ _) ?_)
  rw [zeros8]
  obtain ⟨w3, hw3⟩ : ∃ w3, w3 = (w2.alloc (.cells (kV .u32 (List.replicate 8 0)).toArray 47)).setRow w2.heap.size (kV .u32 L).toArray := ⟨_, rfl⟩
  rw [← hw3]
  obtain ⟨T, hT⟩ : ∃ T, T = w2.heap.size := ⟨_, rfl⟩
  rw [← hT]
  obtain ⟨p1, p2, p3, p4⟩ := H1.out
  have hTB : w.heap.size + 2 ≤ T := by rw [hT, ← p4]; exact b2.size
  have r3 : Row w3 w.heap.size 47 .u32 (List.replicate 8 0) := by rw [hw3]; exact ((p1.below b2 (by omega)).alloc _).rowOther (by omega)
  have n3 : ZRow w3 (w.heap.size + 1) 43 zs := by
    have h1 : ZRow w2 (w.heap.size + 1) 43 zs := (b2.block _ (by omega)).trans p2
    rw [hw3]; exact (setRow_other _ _ _ _ (by omega)).trans (h1.alloc _)
  have t3 : Row w3 T 47 .u32 L := by rw [hw3, hT]; exact Row.stored (Row.new w2 47 .u32 (List.replicate 8 0))
  have c3 : Below w.heap.size w w3 := by
    have h1 : Below w.heap.size w w2 := p3.trans (b2.mono (by omega))
    rw [hw3]; exact below_setRow (h1.alloc h1.size _) h1.size _
  clear hw3 hT p1 p2 p3 p4 b2 H1 HI53 HIst
  obtain ⟨r, hr⟩ : ∃ r : Bool, r = decide (L.map (fun (n : Nat) => ((n : Nat) : Int)) = zs) := ⟨_, rfl⟩
  have hEq : ∀ wx, (Op.equalIn 10000 43 (.agg (zV (L.map (fun (n : Nat) => ((n : Nat) : Int)))).toArray) (.agg (zV zs).toArray)).run Tryd.prog wx = .ok r wx := fun wx => by
    rw [hr]; exact eq_nums _ _ (by rw [List.length_map]; exact HL.out.2) HO.out.2 wx
  have hA0 : (zV (L.map (fun (n : Nat) => ((n : Nat) : Int)))).toArray = (kV .i64 L).toArray := by simp [zV, kV]
  rw [hA0] at hEq
  obtain ⟨A, hA⟩ : ∃ A, A = (kV .i64 L).toArray := ⟨_, rfl⟩
  rw [← hA] at hEq
  have HR : Hid (r = decide ((zs.map w32).map (fun (n : Nat) => ((n : Nat) : Int)) = zs) ∧ A = (kV .i64 L).toArray ∧ ∀ x ∈ L, x < 4294967296) := by
    refine ⟨by rw [hr, HL.out.1], hA, ?_⟩
    intro x hx
    rw [HL.out.1] at hx
    obtain ⟨z, _, rfl⟩ := List.mem_map.1 hx
    exact w32_lt z
  obtain ⟨z0, z1, z2, z3, z4, z5, z6, z7, hz⟩ := list8 zs HO.out.2
  have hL8 : ∃ x0 x1 x2 x3 x4 x5 x6 x7, L = [x0, x1, x2, x3, x4, x5, x6, x7] := by
    rw [HL.out.1, hz]; exact ⟨_, _, _, _, _, _, _, _, rfl⟩
  obtain ⟨x0, x1, x2, x3, x4, x5, x6, x7, hx⟩ := hL8
  have eB : (zV zs).toArray = #[.int .i64 z0, .int .i64 z1, .int .i64 z2, .int .i64 z3, .int .i64 z4, .int .i64 z5, .int .i64 z6, .int .i64 z7] := by rw [hz]; rfl
  obtain ⟨Y, hY⟩ : ∃ Y, (#[.int .i64 z0, .int .i64 z1, .int .i64 z2, .int .i64 z3, .int .i64 z4, .int .i64 z5, .int .i64 z6, .int .i64 z7] : Array Value) = Y := ⟨_, rfl⟩
  obtain ⟨X, hX⟩ : ∃ X, (#[.int .u32 (x0 : Int), .int .u32 (x1 : Int), .int .u32 (x2 : Int), .int .u32 (x3 : Int), .int .u32 (x4 : Int), .int .u32 (x5 : Int), .int .u32 (x6 : Int), .int .u32 (x7 : Int)] : Array Value) = X := ⟨_, rfl⟩
  rw [eB, hY] at hEq
  have eX : X = (kV .u32 L).toArray := by rw [← hX, hx]; rfl
  have HX : Hid (X = (kV .u32 L).toArray) := eX
  have hXs : X.size = 8 := by rw [eX]; simp [kV, HL.out.2]
  have HALL : Hid (Row w3 w.heap.size 47 .u32 (List.replicate 8 0) ∧ ZRow w3 (w.heap.size + 1) 43 zs ∧ Row w3 T 47 .u32 L ∧ Below w.heap.size w w3 ∧ zs = [z0, z1, z2, z3, z4, z5, z6, z7] ∧ L = [x0, x1, x2, x3, x4, x5, x6, x7]) := ⟨r3, n3, t3, c3, hz, hx⟩
  have hS : ∀ w', ZRow w' (w.heap.size + 1) 43 zs → Row w' T 47 .u32 L → (w'.cell? ⟨T, 0, none⟩ = some (.int .u32 (x0 : Int)) ∧ w'.cell? ⟨T, 1, none⟩ = some (.int .u32 (x1 : Int)) ∧ w'.cell? ⟨T, 2, none⟩ = some (.int .u32 (x2 : Int)) ∧ w'.cell? ⟨T, 3, none⟩ = some (.int .u32 (x3 : Int)) ∧ w'.cell? ⟨T, 4, none⟩ = some (.int .u32 (x4 : Int)) ∧ w'.cell? ⟨T, 5, none⟩ = some (.int .u32 (x5 : Int)) ∧ w'.cell? ⟨T, 6, none⟩ = some (.int .u32 (x6 : Int)) ∧ w'.cell? ⟨T, 7, none⟩ = some (.int .u32 (x7 : Int)) ∧ w'.cell? ⟨w.heap.size + 1, 0, none⟩ = some (.int .i64 z0) ∧ w'.cell? ⟨w.heap.size + 1, 1, none⟩ = some (.int .i64 z1) ∧ w'.cell? ⟨w.heap.size + 1, 2, none⟩ = some (.int .i64 z2) ∧ w'.cell? ⟨w.heap.size + 1, 3, none⟩ = some (.int .i64 z3) ∧ w'.cell? ⟨w.heap.size + 1, 4, none⟩ = some (.int .i64 z4) ∧ w'.cell? ⟨w.heap.size + 1, 5, none⟩ = some (.int .i64 z5) ∧ w'.cell? ⟨w.heap.size + 1, 6, none⟩ = some (.int .i64 z6) ∧ w'.cell? ⟨w.heap.size + 1, 7, none⟩ = some (.int .i64 z7)) := by
    intro w' h1 h2
    rw [hz] at h1
    rw [hx] at h2
    exact ⟨h2.cell 0 (by simp), h2.cell 1 (by simp), h2.cell 2 (by simp), h2.cell 3 (by simp), h2.cell 4 (by simp), h2.cell 5 (by simp), h2.cell 6 (by simp), h2.cell 7 (by simp), h1.cell 0 (by simp), h1.cell 1 (by simp), h1.cell 2 (by simp), h1.cell 3 (by simp), h1.cell 4 (by simp), h1.cell 5 (by simp), h1.cell 6 (by simp), h1.cell 7 (by simp)⟩
  have HS : Hid (∀ w', ZRow w' (w.heap.size + 1) 43 zs → Row w' T 47 .u32 L → (w'.cell? ⟨T, 0, none⟩ = some (.int .u32 (x0 : Int)) ∧ w'.cell? ⟨T, 1, none⟩ = some (.int .u32 (x1 : Int)) ∧ w'.cell? ⟨T, 2, none⟩ = some (.int .u32 (x2 : Int)) ∧ w'.cell? ⟨T, 3, none⟩ = some (.int .u32 (x3 : Int)) ∧ w'.cell? ⟨T, 4, none⟩ = some (.int .u32 (x4 : Int)) ∧ w'.cell? ⟨T, 5, none⟩ = some (.int .u32 (x5 : Int)) ∧ w'.cell? ⟨T, 6, none⟩ = some (.int .u32 (x6 : Int)) ∧ w'.cell? ⟨T, 7, none⟩ = some (.int .u32 (x7 : Int)) ∧ w'.cell? ⟨w.heap.size + 1, 0, none⟩ = some (.int .i64 z0) ∧ w'.cell? ⟨w.heap.size + 1, 1, none⟩ = some (.int .i64 z1) ∧ w'.cell? ⟨w.heap.size + 1, 2, none⟩ = some (.int .i64 z2) ∧ w'.cell? ⟨w.heap.size + 1, 3, none⟩ = some (.int .i64 z3) ∧ w'.cell? ⟨w.heap.size + 1, 4, none⟩ = some (.int .i64 z4) ∧ w'.cell? ⟨w.heap.size + 1, 5, none⟩ = some (.int .i64 z5) ∧ w'.cell? ⟨w.heap.size + 1, 6, none⟩ = some (.int .i64 z6) ∧ w'.cell? ⟨w.heap.size + 1, 7, none⟩ = some (.int .i64 z7))) := hS
  have hSw := hS w3 n3 t3
  have k3 := t3.lt
  clear hS r3 n3 t3 c3 hz hx hA hA0 hr eB eX
  have hSd := HS.out w3.drew HALL.out.2.1 HALL.out.2.2.1
  clear hSw
  have ne1 : ¬ w.heap.size = T := by omega
  have ne2 : ¬ T = w.heap.size := by omega
  simp only [Act.put]
  go_region_held3 (fun w' => w'.cell? ⟨T, 0, none⟩ = some (.int .u32 (x0 : Int)) ∧ w'.cell? ⟨T, 1, none⟩ = some (.int .u32 (x1 : Int)) ∧ w'.cell? ⟨T, 2, none⟩ = some (.int .u32 (x2 : Int)) ∧ w'.cell? ⟨T, 3, none⟩ = some (.int .u32 (x3 : Int)) ∧ w'.cell? ⟨T, 4, none⟩ = some (.int .u32 (x4 : Int)) ∧ w'.cell? ⟨T, 5, none⟩ = some (.int .u32 (x5 : Int)) ∧ w'.cell? ⟨T, 6, none⟩ = some (.int .u32 (x6 : Int)) ∧ w'.cell? ⟨T, 7, none⟩ = some (.int .u32 (x7 : Int)) ∧ w'.cell? ⟨w.heap.size + 1, 0, none⟩ = some (.int .i64 z0) ∧ w'.cell? ⟨w.heap.size + 1, 1, none⟩ = some (.int .i64 z1) ∧ w'.cell? ⟨w.heap.size + 1, 2, none⟩ = some (.int .i64 z2) ∧ w'.cell? ⟨w.heap.size + 1, 3, none⟩ = some (.int .i64 z3) ∧ w'.cell? ⟨w.heap.size + 1, 4, none⟩ = some (.int .i64 z4) ∧ w'.cell? ⟨w.heap.size + 1, 5, none⟩ = some (.int .i64 z5) ∧ w'.cell? ⟨w.heap.size + 1, 6, none⟩ = some (.int .i64 z6) ∧ w'.cell? ⟨w.heap.size + 1, 7, none⟩ = some (.int .i64 z7)) (assumption) ((go_at_call 22; refine (numbers_at L A w3.drew HR.out.2.1 HL.out.2 HR.out.2.2 (.agg X) (by rw [HX.out])).mono ?_; rintro e w5 ⟨rfl, b5⟩; have q1 : ZRow w5 (w.heap.size + 1) 43 zs := ZRow.below (w := w3.drew) HALL.out.2.1 b5 (by show w.heap.size + 1 < w3.heap.size; omega); have q2 : Row w5 T 47 .u32 L := Row.below (w := w3.drew) HALL.out.2.2.1 b5 k3; have q3 : Row w5 w.heap.size 47 .u32 (List.replicate 8 0) := Row.below (w := w3.drew) HALL.out.1 b5 (by show w.heap.size < w3.heap.size; omega); have hS5 := HS.out w5 q1 q2; have hS6 := HS.out (w5.setRow w.heap.size X) ((setRow_other w5 _ _ _ (by omega)).trans q1) (q2.rowOther (by omega)); have hst5 := storeX w5 w.heap.size L X HX.out HL.out.2 q3; have HQ : Hid (Row w5 w.heap.size 47 .u32 (List.replicate 8 0)) := q3; clear q1 q2 q3))
  have rF : Row (w5.setRow w.heap.size X) w.heap.size 47 .u32 L := by rw [HX.out]; exact Row.stored HQ.out
  have bF : Below w.heap.size w (w5.setRow w.heap.size X) := below_setRow ((HALL.out.2.2.2.1.drew).trans (b5.mono HALL.out.2.2.2.1.size)) (Nat.le_refl _) _
  clear hst5 hS5 hS6 hSd hX hY hEq hXs
  go_wp2
  refine bodyPost_ret (results_row_tmp Tryd.results23 _ _ w.heap.size (kV .u32 L).toArray rfl (rF.load _ Tryd.underlying47 rfl (by rw [HL.out.2]; exact infoSt))) rfl ⟨?_, bF⟩
  rw [← HR.out.1, ← HL.out.1]
  rfl

end Go.Proofs.YtfbdbeaijkhbfaaDoor
