/- What spec's l09Rule answers, of any rule. -/
import Derived.Test.YtojaohdmfahpmaaDoorRuleIS
namespace Go.Proofs.YtojaohdmfahpmaaDoor
open Go.RowKit
set_option linter.unusedVariables false

/-- A number lies in a block. -/
def NumAt (w : World) (b o : Nat) (z : Int) : Prop := b < w.heap.size ∧ w.cell? ⟨b, o, none⟩ = some (.int .i64 z)

theorem NumAt.step {w w' : World} {b o : Nat} {z : Int} (h : NumAt w b o z) (hE : Ext w w') : NumAt w' b o z := ⟨Nat.lt_of_lt_of_le h.1 hE.size, (hE.cell (p := ⟨b, o, none⟩) h.1).trans h.2⟩

theorem NumAt.drew {w : World} {b o : Nat} {z : Int} (h : NumAt w b o z) : NumAt w.drew b o z := h

set_option maxRecDepth 100000 in
set_option maxHeartbeats 3200000 in
theorem l09Rule_any (zs : List Int) (cs : List CN) (act data : Int) (a1 a2 : Option Addr) (c1 c2 : Nat) (w : World) (l1 : zs.length ≤ 1048576) (l2 : cs.length ≤ 1048576) (h1 : Nums w a1 zs) (h2 : Conds w a2 cs) :
    Calls Tryd.prog 21 #[.agg #[.slice a1 zs.length c1, .slice a2 cs.length c2, .int .i64 act, .int .i64 data]] w fun e w' => e = .returned (.bool (ruleB ⟨zs, cs, act, data⟩)) ∧ Ext w w' := by
  obtain ⟨n1, hn1⟩ : ∃ n1, n1 = zs.length := ⟨_, rfl⟩
  obtain ⟨n2, hn2⟩ : ∃ n2, n2 = cs.length := ⟨_, rfl⟩
  have HB : Hid (ruleB ⟨zs, cs, act, data⟩ = (outB act data && (decide (n1 ≤ 4) && (List.range n1).all (okAt zs)) && (decide (n2 ≤ 3) && cs.all condB))) := by rw [hn1, hn2]; rfl
  have HN : Hid (n1 = zs.length ∧ n2 = cs.length) := ⟨hn1, hn2⟩
  have H1 : Hid (∀ W, Ext w W → Nums W a1 zs) := fun W hE => h1.step hE
  have H2 : Hid (∀ W, Ext w W → Conds W a2 cs) := fun W hE => h2.step hE
  rw [← hn1] at l1 ⊢
  rw [← hn2] at l2 ⊢
  clear h1 h2 hn1 hn2
  obtain ⟨W, hW⟩ : ∃ W, W = w.alloc (.cells #[.slice a1 n1 c1, .slice a2 n2 c2, .int .i64 act, .int .i64 data] 42) := ⟨_, rfl⟩
  have HX : Hid (CellsAt W w.heap.size [.slice a1 n1 c1, .slice a2 n2 c2, .int .i64 act, .int .i64 data] ∧ Ext w W) := by rw [hW]; exact ⟨CellsAt.new w _ _, Ext.one _ _⟩
  have HW : Hid (W = w.alloc (.cells #[.slice a1 n1 c1, .slice a2 n2 c2, .int .i64 act, .int .i64 data] 42)) := hW
  clear hW
  go_enter Tryd.func21, Tryd.ntmps21
  go_wp2_with fail
  go_loopw [3] (fun i wr => ∃ k : Nat, i = .int .i64 k ∧ k ≤ n1 ∧ Hid (Ext W wr) ∧ Hid ((List.range k).all (okAt zs) = true)) (fun i _ => n1 - (intOf i).toNat)
  case atStart => exact ⟨0, rfl, by omega, by rw [HW.out]; exact Ext.refl _, by simp [Hid]⟩
  case round =>
    obtain ⟨k, rfl, hk, hE, hall⟩ := hrel
    have cx : CellsAt wr w.heap.size [.slice a1 n1 c1, .slice a2 n2 c2, .int .i64 act, .int .i64 data] := HX.out.1.step hE.out
    by_cases hlt : k < n1
    · have bk : (k : Int) < (n1 : Int) := by omega
      obtain ⟨b, off, rfl, hbl, hc⟩ := (H1.out wr (HX.out.2.trans hE.out)).at (k := k) (by have := HN.out.1; omega)
      obtain ⟨z, hz⟩ : ∃ z, z = zs.getD k 0 := ⟨_, rfl⟩
      rw [← hz] at hc
      have HZ : Hid (z = zs.getD k 0) := hz
      have nz : NumAt wr b (off + k) z := ⟨hbl, hc⟩
      have q := cx.2 0 _ rfl
      clear hz hc
      cases hh : halfB z
      · have HF : Hid ((List.range n1).all (okAt zs) = false) := by
          have := okAll_bad (zs := zs) (k := k) (by have := HN.out.1; omega) (by unfold okAt; rw [← HZ.out, hh]; rfl)
          rw [← HN.out.1] at this
          exact this
        have HH : Hid (∀ W', Calls Tryd.prog 22 #[.int .i64 z] W' fun e w' => e = .returned (.bool false) ∧ W' = w') := fun W' => by rw [← hh]; exact sHalf_any z W'
        clear hall hh
        go_wp2_with fail
        clear q
        refine' wp_region_loose (.inl _ :: .inl _ :: .inl _ :: .inl _ :: .inl _ :: .inl _ :: .inl _ :: .inl _ :: .inl undef :: .inl undef :: .inl undef :: .inl undef :: .inl undef :: .inl undef :: .inl undef :: .inl undef :: .inl undef :: .inl undef :: .inl undef :: .inl undef :: .inl undef :: .inl undef :: .inl undef :: .inl undef :: .inl _ :: []) (fun w' => CellsAt w' w.heap.size [.slice (some ⟨b, off, none⟩) n1 c1, .slice a2 n2 c2, .int .i64 act, .int .i64 data] ∧ NumAt w' b (off + k) z) (by kernel_rfl) (by kernel_rfl) (⟨cx.drew, nz.drew⟩) (fun _ _ h hE => ⟨h.1.step hE, h.2.step hE⟩) ?hAx ?hlx ?hMx
        case' hMx => skip
        apply wpLoose_val rfl rfl
        case hs =>
          intro w1 hC hd Q1 hQ1
          obtain ⟨hE, hS⟩ := hC
          dsimp only [bare]
          obtain ⟨q, ⟨_, q1⟩⟩ := (⟨hS.1.2 0 _ rfl, hS.2⟩ : _ ∧ _)
          clear hd hE
          try clear hS
          go_wp2
          exact Ext.refl _
        case ha => rfl
        apply wpLoose_val rfl rfl
        case hs =>
          intro w1 hC hd Q1 hQ1
          obtain ⟨hE, hS⟩ := hC
          dsimp only [bare]
          obtain ⟨q, ⟨_, q1⟩⟩ := (⟨hS.1.2 0 _ rfl, hS.2⟩ : _ ∧ _)
          clear hd hE
          try clear hS
          go_wp2
          exact Ext.refl _
        case ha => rfl
        apply wpLoose_val rfl rfl
        case hs =>
          intro w1 hC hd Q1 hQ1
          obtain ⟨hE, hS⟩ := hC
          dsimp only [bare]
          obtain ⟨q, ⟨_, q1⟩⟩ := (⟨hS.1.2 0 _ rfl, hS.2⟩ : _ ∧ _)
          clear hd hE
          try clear hS
          go_wp2
          exact Ext.refl _
        case ha => rfl
        apply wpLoose_val rfl rfl
        case hs =>
          intro w1 hC hd Q1 hQ1
          obtain ⟨hE, hS⟩ := hC
          dsimp only [bare]
          obtain ⟨q, ⟨_, q1⟩⟩ := (⟨hS.1.2 0 _ rfl, hS.2⟩ : _ ∧ _)
          clear hd hE
          try clear hS
          go_wp2
          exact Ext.refl _
        case ha => rfl
        apply wpLoose_val rfl rfl
        case hs =>
          intro w1 hC hd Q1 hQ1
          obtain ⟨hE, hS⟩ := hC
          dsimp only [bare]
          obtain ⟨q, ⟨_, q1⟩⟩ := (⟨hS.1.2 0 _ rfl, hS.2⟩ : _ ∧ _)
          clear hd hE
          try clear hS
          go_wp2
          exact Ext.refl _
        case ha => rfl
        apply wpLoose_val rfl rfl
        case hs =>
          intro w1 hC hd Q1 hQ1
          obtain ⟨hE, hS⟩ := hC
          dsimp only [bare]
          clear hd
          go_wp2_with fail
          refine (HH.out _).mono ?_
          rintro e w2 ⟨rfl, rfl⟩
          go_wp2_with fail
          exact Ext.refl _
        case ha => rfl
        apply wpLoose_val rfl rfl
        case hs =>
          intro w1 hC hd Q1 hQ1
          obtain ⟨hE, hS⟩ := hC
          dsimp only [bare]
          obtain ⟨q, ⟨_, q1⟩⟩ := (⟨hS.1.2 0 _ rfl, hS.2⟩ : _ ∧ _)
          clear hd hE
          try clear hS
          go_wp2
          exact Ext.refl _
        case ha => rfl
        apply wpLoose_val rfl rfl
        case hs =>
          intro w1 hC hd Q1 hQ1
          obtain ⟨hE, hS⟩ := hC
          dsimp only [bare]
          obtain ⟨q, ⟨_, q1⟩⟩ := (⟨hS.1.2 0 _ rfl, hS.2⟩ : _ ∧ _)
          clear hd hE
          try clear hS
          go_wp2
          exact Ext.refl _
        case ha => rfl
        refine wpLoose_skip rfl rfl ?_
        try simp only [Act.put, List.setIfInBounds_toArray, List.set_cons_succ, List.set_cons_zero]
        refine wpLoose_skip rfl rfl ?_
        try simp only [Act.put, List.setIfInBounds_toArray, List.set_cons_succ, List.set_cons_zero]
        refine wpLoose_skip rfl rfl ?_
        try simp only [Act.put, List.setIfInBounds_toArray, List.set_cons_succ, List.set_cons_zero]
        refine wpLoose_skip rfl rfl ?_
        try simp only [Act.put, List.setIfInBounds_toArray, List.set_cons_succ, List.set_cons_zero]
        refine wpLoose_skip rfl rfl ?_
        try simp only [Act.put, List.setIfInBounds_toArray, List.set_cons_succ, List.set_cons_zero]
        refine wpLoose_skip rfl rfl ?_
        try simp only [Act.put, List.setIfInBounds_toArray, List.set_cons_succ, List.set_cons_zero]
        refine wpLoose_skip rfl rfl ?_
        try simp only [Act.put, List.setIfInBounds_toArray, List.set_cons_succ, List.set_cons_zero]
        refine wpLoose_skip rfl rfl ?_
        try simp only [Act.put, List.setIfInBounds_toArray, List.set_cons_succ, List.set_cons_zero]
        refine wpLoose_skip rfl rfl ?_
        try simp only [Act.put, List.setIfInBounds_toArray, List.set_cons_succ, List.set_cons_zero]
        refine wpLoose_skip rfl rfl ?_
        try simp only [Act.put, List.setIfInBounds_toArray, List.set_cons_succ, List.set_cons_zero]
        refine wpLoose_skip rfl rfl ?_
        try simp only [Act.put, List.setIfInBounds_toArray, List.set_cons_succ, List.set_cons_zero]
        refine wpLoose_skip rfl rfl ?_
        try simp only [Act.put, List.setIfInBounds_toArray, List.set_cons_succ, List.set_cons_zero]
        refine wpLoose_skip rfl rfl ?_
        try simp only [Act.put, List.setIfInBounds_toArray, List.set_cons_succ, List.set_cons_zero]
        refine wpLoose_skip rfl rfl ?_
        try simp only [Act.put, List.setIfInBounds_toArray, List.set_cons_succ, List.set_cons_zero]
        refine wpLoose_skip rfl rfl ?_
        try simp only [Act.put, List.setIfInBounds_toArray, List.set_cons_succ, List.set_cons_zero]
        refine wpLoose_skip rfl rfl ?_
        try simp only [Act.put, List.setIfInBounds_toArray, List.set_cons_succ, List.set_cons_zero]
        apply wpLoose_val rfl rfl
        case hs =>
          intro w1 hC hd Q1 hQ1
          obtain ⟨hE, hS⟩ := hC
          dsimp only [bare]
          obtain ⟨q, ⟨_, q1⟩⟩ := (⟨hS.1.2 0 _ rfl, hS.2⟩ : _ ∧ _)
          clear hd hE
          try clear hS
          go_wp2
          exact Ext.refl _
        case ha => rfl
        refine wpLoose_nil ?_
        intro wx hEx hSx hFx
        have X2 : Hid (Ext w wx) := (HX.out.2.trans hE.out).drew.trans hEx
        clear hFx hSx hEx cx nz
        go_wp2
        go_ret
        exact ⟨by rw [HB.out, HF.out]; simp, X2.out⟩
        case hAx => kernel_rfl
        case hlx => exact ⟨trivial, trivial, trivial, trivial, trivial, trivial, trivial, trivial, trivial, trivial, trivial, trivial, trivial, trivial, trivial, trivial, trivial, trivial, trivial, trivial, trivial, trivial, trivial, trivial, trivial, trivial⟩
      · have HH : Hid (∀ W', Calls Tryd.prog 22 #[.int .i64 z] W' fun e w' => e = .returned (.bool true) ∧ W' = w') := fun W' => by rw [← hh]; exact sHalf_any z W'
        by_cases hk0 : k = 0
        · subst hk0
          have HT : Hid ((List.range 1).all (okAt zs) = true) := okAll_more hall.out (by unfold okAt; rw [← HZ.out, hh]; rfl)
          rw [Nat.add_zero] at nz
          clear hall hh
          go_wp2_with fail
          clear q
          refine' wp_region_loose (.inl _ :: .inl _ :: .inl _ :: .inl _ :: .inl _ :: .inl _ :: .inl _ :: .inl _ :: .inl _ :: .inl _ :: .inl _ :: .inl undef :: .inl undef :: .inl undef :: .inl undef :: .inl undef :: .inl undef :: .inl undef :: .inl undef :: .inl undef :: .inl undef :: .inl undef :: .inl undef :: .inl _ :: .inl _ :: []) (fun w' => CellsAt w' w.heap.size [.slice (some ⟨b, off, none⟩) n1 c1, .slice a2 n2 c2, .int .i64 act, .int .i64 data] ∧ NumAt w' b off z) (by kernel_rfl) (by kernel_rfl) (⟨cx.drew, nz.drew⟩) (fun _ _ h hE => ⟨h.1.step hE, h.2.step hE⟩) ?hAy ?hly ?hMy
          case' hMy => skip
          apply wpLoose_val rfl rfl
          case hs =>
            intro w1 hC hd Q1 hQ1
            obtain ⟨hE, hS⟩ := hC
            dsimp only [bare]
            obtain ⟨q, ⟨_, q1⟩⟩ := (⟨hS.1.2 0 _ rfl, hS.2⟩ : _ ∧ _)
            clear hd hE
            try clear hS
            go_wp2
            exact Ext.refl _
          case ha => rfl
          apply wpLoose_val rfl rfl
          case hs =>
            intro w1 hC hd Q1 hQ1
            obtain ⟨hE, hS⟩ := hC
            dsimp only [bare]
            obtain ⟨q, ⟨_, q1⟩⟩ := (⟨hS.1.2 0 _ rfl, hS.2⟩ : _ ∧ _)
            clear hd hE
            try clear hS
            go_wp2
            exact Ext.refl _
          case ha => rfl
          apply wpLoose_val rfl rfl
          case hs =>
            intro w1 hC hd Q1 hQ1
            obtain ⟨hE, hS⟩ := hC
            dsimp only [bare]
            obtain ⟨q, ⟨_, q1⟩⟩ := (⟨hS.1.2 0 _ rfl, hS.2⟩ : _ ∧ _)
            clear hd hE
            try clear hS
            go_wp2
            exact Ext.refl _
          case ha => rfl
          apply wpLoose_val rfl rfl
          case hs =>
            intro w1 hC hd Q1 hQ1
            obtain ⟨hE, hS⟩ := hC
            dsimp only [bare]
            obtain ⟨q, ⟨_, q1⟩⟩ := (⟨hS.1.2 0 _ rfl, hS.2⟩ : _ ∧ _)
            clear hd hE
            try clear hS
            go_wp2
            exact Ext.refl _
          case ha => rfl
          apply wpLoose_val rfl rfl
          case hs =>
            intro w1 hC hd Q1 hQ1
            obtain ⟨hE, hS⟩ := hC
            dsimp only [bare]
            obtain ⟨q, ⟨_, q1⟩⟩ := (⟨hS.1.2 0 _ rfl, hS.2⟩ : _ ∧ _)
            clear hd hE
            try clear hS
            go_wp2
            exact Ext.refl _
          case ha => rfl
          apply wpLoose_val rfl rfl
          case hs =>
            intro w1 hC hd Q1 hQ1
            obtain ⟨hE, hS⟩ := hC
            dsimp only [bare]
            clear hd
            go_wp2_with fail
            refine (HH.out _).mono ?_
            rintro e w2 ⟨rfl, rfl⟩
            go_wp2_with fail
            exact Ext.refl _
          case ha => rfl
          apply wpLoose_val rfl rfl
          case hs =>
            intro w1 hC hd Q1 hQ1
            obtain ⟨hE, hS⟩ := hC
            dsimp only [bare]
            obtain ⟨q, ⟨_, q1⟩⟩ := (⟨hS.1.2 0 _ rfl, hS.2⟩ : _ ∧ _)
            clear hd hE
            try clear hS
            go_wp2
            exact Ext.refl _
          case ha => rfl
          apply wpLoose_val rfl rfl
          case hs =>
            intro w1 hC hd Q1 hQ1
            obtain ⟨hE, hS⟩ := hC
            dsimp only [bare]
            obtain ⟨q, ⟨_, q1⟩⟩ := (⟨hS.1.2 0 _ rfl, hS.2⟩ : _ ∧ _)
            clear hd hE
            try clear hS
            go_wp2
            exact Ext.refl _
          case ha => rfl
          apply wpLoose_val rfl rfl
          case hs =>
            intro w1 hC hd Q1 hQ1
            obtain ⟨hE, hS⟩ := hC
            dsimp only [bare]
            obtain ⟨q, ⟨_, q1⟩⟩ := (⟨hS.1.2 0 _ rfl, hS.2⟩ : _ ∧ _)
            clear hd hE
            try clear hS
            go_wp2
            exact Ext.refl _
          case ha => rfl
          apply wpLoose_val rfl rfl
          case hs =>
            intro w1 hC hd Q1 hQ1
            obtain ⟨hE, hS⟩ := hC
            dsimp only [bare]
            obtain ⟨q, ⟨_, q1⟩⟩ := (⟨hS.1.2 0 _ rfl, hS.2⟩ : _ ∧ _)
            clear hd hE
            try clear hS
            go_wp2
            exact Ext.refl _
          case ha => rfl
          apply wpLoose_val rfl rfl
          case hs =>
            intro w1 hC hd Q1 hQ1
            obtain ⟨hE, hS⟩ := hC
            dsimp only [bare]
            obtain ⟨q, ⟨_, q1⟩⟩ := (⟨hS.1.2 0 _ rfl, hS.2⟩ : _ ∧ _)
            clear hd hE
            try clear hS
            go_wp2
            exact Ext.refl _
          case ha => rfl
          refine wpLoose_skip rfl rfl ?_
          try simp only [Act.put, List.setIfInBounds_toArray, List.set_cons_succ, List.set_cons_zero]
          refine wpLoose_skip rfl rfl ?_
          try simp only [Act.put, List.setIfInBounds_toArray, List.set_cons_succ, List.set_cons_zero]
          refine wpLoose_skip rfl rfl ?_
          try simp only [Act.put, List.setIfInBounds_toArray, List.set_cons_succ, List.set_cons_zero]
          refine wpLoose_skip rfl rfl ?_
          try simp only [Act.put, List.setIfInBounds_toArray, List.set_cons_succ, List.set_cons_zero]
          refine wpLoose_skip rfl rfl ?_
          try simp only [Act.put, List.setIfInBounds_toArray, List.set_cons_succ, List.set_cons_zero]
          refine wpLoose_skip rfl rfl ?_
          try simp only [Act.put, List.setIfInBounds_toArray, List.set_cons_succ, List.set_cons_zero]
          refine wpLoose_skip rfl rfl ?_
          try simp only [Act.put, List.setIfInBounds_toArray, List.set_cons_succ, List.set_cons_zero]
          refine wpLoose_skip rfl rfl ?_
          try simp only [Act.put, List.setIfInBounds_toArray, List.set_cons_succ, List.set_cons_zero]
          refine wpLoose_skip rfl rfl ?_
          try simp only [Act.put, List.setIfInBounds_toArray, List.set_cons_succ, List.set_cons_zero]
          refine wpLoose_skip rfl rfl ?_
          try simp only [Act.put, List.setIfInBounds_toArray, List.set_cons_succ, List.set_cons_zero]
          refine wpLoose_skip rfl rfl ?_
          try simp only [Act.put, List.setIfInBounds_toArray, List.set_cons_succ, List.set_cons_zero]
          refine wpLoose_skip rfl rfl ?_
          try simp only [Act.put, List.setIfInBounds_toArray, List.set_cons_succ, List.set_cons_zero]
          apply wpLoose_val rfl rfl
          case hs =>
            intro w1 hC hd Q1 hQ1
            obtain ⟨hE, hS⟩ := hC
            dsimp only [bare]
            obtain ⟨q, ⟨_, q1⟩⟩ := (⟨hS.1.2 0 _ rfl, hS.2⟩ : _ ∧ _)
            clear hd hE
            try clear hS
            go_wp2
            exact Ext.refl _
          case ha => rfl
          apply wpLoose_val rfl rfl
          case hs =>
            intro w1 hC hd Q1 hQ1
            obtain ⟨hE, hS⟩ := hC
            dsimp only [bare]
            obtain ⟨q, ⟨_, q1⟩⟩ := (⟨hS.1.2 0 _ rfl, hS.2⟩ : _ ∧ _)
            clear hd hE
            try clear hS
            go_wp2
            exact Ext.refl _
          case ha => rfl
          refine wpLoose_nil ?_
          intro wy hEy hSy hFy
          have X2 : Hid (Ext W wy) := hE.out.drew.trans hEy
          clear hFy hSy hEy cx nz
          go_wp2
          go_roundw
          case rel => exact ⟨1, by go_num, by omega, X2, HT⟩
          case measure => simp [intOf]; omega
          case hAy => kernel_rfl
          case hly => exact ⟨trivial, trivial, trivial, trivial, trivial, trivial, trivial, trivial, trivial, trivial, trivial, trivial, trivial, trivial, trivial, trivial, trivial, trivial, trivial, trivial, trivial, trivial, trivial, trivial, trivial, trivial⟩
        · obtain ⟨j, rfl⟩ : ∃ j, k = j + 1 := ⟨k - 1, by omega⟩
          obtain ⟨b', off', e', _, hc'⟩ := (H1.out wr (HX.out.2.trans hE.out)).at (k := j) (by have := HN.out.1; omega)
          obtain ⟨rfl, rfl⟩ : b = b' ∧ off = off' := by injection e' with e'; injection e' with e1 e2; exact ⟨e1, e2⟩
          clear e'
          obtain ⟨y, hy⟩ : ∃ y, y = zs.getD j 0 := ⟨_, rfl⟩
          rw [← hy] at hc'
          have HY : Hid (y = zs.getD j 0) := hy
          have ny : NumAt wr b (off + j) y := ⟨hbl, hc'⟩
          clear hy hk0 hc'
          have hj1 : (j : Int) + 1 - 1 = j := by omega
          have hj2 : (0 : Int) < (j : Int) + 1 := by omega
          have hj3 : (j : Int) < n1 := by omega
          have hj4 : (j : Int) + 1 < n1 := by omega
          obtain ⟨d, hd0⟩ : ∃ d, d = decide (z ≤ y) := ⟨_, rfl⟩
          have HO : Hid (okAt zs (j + 1) = !d) := by
            unfold Hid okAt
            rw [show j + 1 - 1 = j from rfl, ← HZ.out, ← HY.out, hh, hd0]
            by_cases h : z ≤ y
            · simp [h]
            · simp [h]; omega
          have hdd : decide (z ≤ y) = d := hd0.symm
          clear hd0 hh
          go_wp2_with fail
          clear q
          refine' wp_region_loose (.inl _ :: .inl _ :: .inl _ :: .inl _ :: .inl _ :: .inl _ :: .inl _ :: .inl _ :: .inl _ :: .inl _ :: .inl _ :: .inl _ :: .inl _ :: .inl _ :: .inl _ :: .inl _ :: .inl _ :: .inl _ :: .inl _ :: .inl _ :: .inl _ :: .inl _ :: .inl _ :: .inl _ :: .inl _ :: []) (fun w' => CellsAt w' w.heap.size [.slice (some ⟨b, off, none⟩) n1 c1, .slice a2 n2 c2, .int .i64 act, .int .i64 data] ∧ NumAt w' b (off + (j + 1)) z ∧ NumAt w' b (off + j) y) (by kernel_rfl) (by kernel_rfl) (⟨cx.drew, nz.drew, ny.drew⟩) (fun _ _ h hE => ⟨h.1.step hE, h.2.1.step hE, h.2.2.step hE⟩) ?hAz ?hlz ?hMz
          case' hMz => skip
          apply wpLoose_val rfl rfl
          case hs =>
            intro w1 hC hd Q1 hQ1
            obtain ⟨hE, hS⟩ := hC
            dsimp only [bare]
            obtain ⟨q, ⟨_, q1⟩, ⟨_, q2⟩⟩ := (⟨hS.1.2 0 _ rfl, hS.2.1, hS.2.2⟩ : _ ∧ _ ∧ _)
            clear hd hE
            try clear hS
            go_wp2
            exact Ext.refl _
          case ha => rfl
          apply wpLoose_val rfl rfl
          case hs =>
            intro w1 hC hd Q1 hQ1
            obtain ⟨hE, hS⟩ := hC
            dsimp only [bare]
            obtain ⟨q, ⟨_, q1⟩, ⟨_, q2⟩⟩ := (⟨hS.1.2 0 _ rfl, hS.2.1, hS.2.2⟩ : _ ∧ _ ∧ _)
            clear hd hE
            try clear hS
            go_wp2
            exact Ext.refl _
          case ha => rfl
          apply wpLoose_val rfl rfl
          case hs =>
            intro w1 hC hd Q1 hQ1
            obtain ⟨hE, hS⟩ := hC
            dsimp only [bare]
            obtain ⟨q, ⟨_, q1⟩, ⟨_, q2⟩⟩ := (⟨hS.1.2 0 _ rfl, hS.2.1, hS.2.2⟩ : _ ∧ _ ∧ _)
            clear hd hE
            try clear hS
            go_wp2
            exact Ext.refl _
          case ha => rfl
          apply wpLoose_val rfl rfl
          case hs =>
            intro w1 hC hd Q1 hQ1
            obtain ⟨hE, hS⟩ := hC
            dsimp only [bare]
            obtain ⟨q, ⟨_, q1⟩, ⟨_, q2⟩⟩ := (⟨hS.1.2 0 _ rfl, hS.2.1, hS.2.2⟩ : _ ∧ _ ∧ _)
            clear hd hE
            try clear hS
            go_wp2
            exact Ext.refl _
          case ha => rfl
          apply wpLoose_val rfl rfl
          case hs =>
            intro w1 hC hd Q1 hQ1
            obtain ⟨hE, hS⟩ := hC
            dsimp only [bare]
            obtain ⟨q, ⟨_, q1⟩, ⟨_, q2⟩⟩ := (⟨hS.1.2 0 _ rfl, hS.2.1, hS.2.2⟩ : _ ∧ _ ∧ _)
            clear hd hE
            try clear hS
            go_wp2
            exact Ext.refl _
          case ha => rfl
          apply wpLoose_val rfl rfl
          case hs =>
            intro w1 hC hd Q1 hQ1
            obtain ⟨hE, hS⟩ := hC
            dsimp only [bare]
            clear hd
            go_wp2_with fail
            refine (HH.out _).mono ?_
            rintro e w2 ⟨rfl, rfl⟩
            go_wp2_with fail
            exact Ext.refl _
          case ha => rfl
          apply wpLoose_val rfl rfl
          case hs =>
            intro w1 hC hd Q1 hQ1
            obtain ⟨hE, hS⟩ := hC
            dsimp only [bare]
            obtain ⟨q, ⟨_, q1⟩, ⟨_, q2⟩⟩ := (⟨hS.1.2 0 _ rfl, hS.2.1, hS.2.2⟩ : _ ∧ _ ∧ _)
            clear hd hE
            try clear hS
            go_wp2
            exact Ext.refl _
          case ha => rfl
          apply wpLoose_val rfl rfl
          case hs =>
            intro w1 hC hd Q1 hQ1
            obtain ⟨hE, hS⟩ := hC
            dsimp only [bare]
            obtain ⟨q, ⟨_, q1⟩, ⟨_, q2⟩⟩ := (⟨hS.1.2 0 _ rfl, hS.2.1, hS.2.2⟩ : _ ∧ _ ∧ _)
            clear hd hE
            try clear hS
            go_wp2
            exact Ext.refl _
          case ha => rfl
          apply wpLoose_val rfl rfl
          case hs =>
            intro w1 hC hd Q1 hQ1
            obtain ⟨hE, hS⟩ := hC
            dsimp only [bare]
            obtain ⟨q, ⟨_, q1⟩, ⟨_, q2⟩⟩ := (⟨hS.1.2 0 _ rfl, hS.2.1, hS.2.2⟩ : _ ∧ _ ∧ _)
            clear hd hE
            try clear hS
            go_wp2
            exact Ext.refl _
          case ha => rfl
          apply wpLoose_val rfl rfl
          case hs =>
            intro w1 hC hd Q1 hQ1
            obtain ⟨hE, hS⟩ := hC
            dsimp only [bare]
            obtain ⟨q, ⟨_, q1⟩, ⟨_, q2⟩⟩ := (⟨hS.1.2 0 _ rfl, hS.2.1, hS.2.2⟩ : _ ∧ _ ∧ _)
            clear hd hE
            try clear hS
            go_wp2
            exact Ext.refl _
          case ha => rfl
          apply wpLoose_val rfl rfl
          case hs =>
            intro w1 hC hd Q1 hQ1
            obtain ⟨hE, hS⟩ := hC
            dsimp only [bare]
            obtain ⟨q, ⟨_, q1⟩, ⟨_, q2⟩⟩ := (⟨hS.1.2 0 _ rfl, hS.2.1, hS.2.2⟩ : _ ∧ _ ∧ _)
            clear hd hE
            try clear hS
            go_wp2
            exact Ext.refl _
          case ha => rfl
          apply wpLoose_val rfl rfl
          case hs =>
            intro w1 hC hd Q1 hQ1
            obtain ⟨hE, hS⟩ := hC
            dsimp only [bare]
            obtain ⟨q, ⟨_, q1⟩, ⟨_, q2⟩⟩ := (⟨hS.1.2 0 _ rfl, hS.2.1, hS.2.2⟩ : _ ∧ _ ∧ _)
            clear hd hE
            try clear hS
            go_wp2
            exact Ext.refl _
          case ha => rfl
          apply wpLoose_val rfl rfl
          case hs =>
            intro w1 hC hd Q1 hQ1
            obtain ⟨hE, hS⟩ := hC
            dsimp only [bare]
            obtain ⟨q, ⟨_, q1⟩, ⟨_, q2⟩⟩ := (⟨hS.1.2 0 _ rfl, hS.2.1, hS.2.2⟩ : _ ∧ _ ∧ _)
            clear hd hE
            try clear hS
            go_wp2
            exact Ext.refl _
          case ha => rfl
          apply wpLoose_val rfl rfl
          case hs =>
            intro w1 hC hd Q1 hQ1
            obtain ⟨hE, hS⟩ := hC
            dsimp only [bare]
            obtain ⟨q, ⟨_, q1⟩, ⟨_, q2⟩⟩ := (⟨hS.1.2 0 _ rfl, hS.2.1, hS.2.2⟩ : _ ∧ _ ∧ _)
            clear hd hE
            try clear hS
            go_wp2
            exact Ext.refl _
          case ha => rfl
          apply wpLoose_val rfl rfl
          case hs =>
            intro w1 hC hd Q1 hQ1
            obtain ⟨hE, hS⟩ := hC
            dsimp only [bare]
            obtain ⟨q, ⟨_, q1⟩, ⟨_, q2⟩⟩ := (⟨hS.1.2 0 _ rfl, hS.2.1, hS.2.2⟩ : _ ∧ _ ∧ _)
            clear hd hE
            try clear hS
            go_wp2
            exact Ext.refl _
          case ha => rfl
          apply wpLoose_val rfl rfl
          case hs =>
            intro w1 hC hd Q1 hQ1
            obtain ⟨hE, hS⟩ := hC
            dsimp only [bare]
            obtain ⟨q, ⟨_, q1⟩, ⟨_, q2⟩⟩ := (⟨hS.1.2 0 _ rfl, hS.2.1, hS.2.2⟩ : _ ∧ _ ∧ _)
            clear hd hE
            try clear hS
            go_wp2
            exact Ext.refl _
          case ha => rfl
          apply wpLoose_val rfl rfl
          case hs =>
            intro w1 hC hd Q1 hQ1
            obtain ⟨hE, hS⟩ := hC
            dsimp only [bare]
            obtain ⟨q, ⟨_, q1⟩, ⟨_, q2⟩⟩ := (⟨hS.1.2 0 _ rfl, hS.2.1, hS.2.2⟩ : _ ∧ _ ∧ _)
            clear hd hE
            try clear hS
            go_wp2
            exact Ext.refl _
          case ha => rfl
          apply wpLoose_val rfl rfl
          case hs =>
            intro w1 hC hd Q1 hQ1
            obtain ⟨hE, hS⟩ := hC
            dsimp only [bare]
            obtain ⟨q, ⟨_, q1⟩, ⟨_, q2⟩⟩ := (⟨hS.1.2 0 _ rfl, hS.2.1, hS.2.2⟩ : _ ∧ _ ∧ _)
            clear hd hE
            try clear hS
            go_wp2
            exact Ext.refl _
          case ha => rfl
          apply wpLoose_val rfl rfl
          case hs =>
            intro w1 hC hd Q1 hQ1
            obtain ⟨hE, hS⟩ := hC
            dsimp only [bare]
            obtain ⟨q, ⟨_, q1⟩, ⟨_, q2⟩⟩ := (⟨hS.1.2 0 _ rfl, hS.2.1, hS.2.2⟩ : _ ∧ _ ∧ _)
            clear hd hE
            try clear hS
            go_wp2
            exact Ext.refl _
          case ha => rfl
          apply wpLoose_val rfl rfl
          case hs =>
            intro w1 hC hd Q1 hQ1
            obtain ⟨hE, hS⟩ := hC
            dsimp only [bare]
            obtain ⟨q, ⟨_, q1⟩, ⟨_, q2⟩⟩ := (⟨hS.1.2 0 _ rfl, hS.2.1, hS.2.2⟩ : _ ∧ _ ∧ _)
            clear hd hE
            try clear hS
            go_wp2
            exact Ext.refl _
          case ha => rfl
          apply wpLoose_val rfl rfl
          case hs =>
            intro w1 hC hd Q1 hQ1
            obtain ⟨hE, hS⟩ := hC
            dsimp only [bare]
            obtain ⟨q, ⟨_, q1⟩, ⟨_, q2⟩⟩ := (⟨hS.1.2 0 _ rfl, hS.2.1, hS.2.2⟩ : _ ∧ _ ∧ _)
            clear hd hE
            try clear hS
            go_wp2
            exact Ext.refl _
          case ha => rfl
          apply wpLoose_val rfl rfl
          case hs =>
            intro w1 hC hd Q1 hQ1
            obtain ⟨hE, hS⟩ := hC
            dsimp only [bare]
            obtain ⟨q, ⟨_, q1⟩, ⟨_, q2⟩⟩ := (⟨hS.1.2 0 _ rfl, hS.2.1, hS.2.2⟩ : _ ∧ _ ∧ _)
            clear hd hE
            try clear hS
            go_wp2
            exact Ext.refl _
          case ha => rfl
          apply wpLoose_val rfl rfl
          case hs =>
            intro w1 hC hd Q1 hQ1
            obtain ⟨hE, hS⟩ := hC
            dsimp only [bare]
            obtain ⟨q, ⟨_, q1⟩, ⟨_, q2⟩⟩ := (⟨hS.1.2 0 _ rfl, hS.2.1, hS.2.2⟩ : _ ∧ _ ∧ _)
            clear hd hE
            try clear hS
            go_wp2
            exact Ext.refl _
          case ha => rfl
          apply wpLoose_val rfl rfl
          case hs =>
            intro w1 hC hd Q1 hQ1
            obtain ⟨hE, hS⟩ := hC
            dsimp only [bare]
            obtain ⟨q, ⟨_, q1⟩, ⟨_, q2⟩⟩ := (⟨hS.1.2 0 _ rfl, hS.2.1, hS.2.2⟩ : _ ∧ _ ∧ _)
            clear hd hE
            try clear hS
            go_wp2
            exact Ext.refl _
          case ha => rfl
          apply wpLoose_val rfl rfl
          case hs =>
            intro w1 hC hd Q1 hQ1
            obtain ⟨hE, hS⟩ := hC
            dsimp only [bare]
            obtain ⟨q, ⟨_, q1⟩, ⟨_, q2⟩⟩ := (⟨hS.1.2 0 _ rfl, hS.2.1, hS.2.2⟩ : _ ∧ _ ∧ _)
            clear hd hE
            try clear hS
            go_wp2
            exact Ext.refl _
          case ha => rfl
          refine wpLoose_nil ?_
          intro wz hEz hSz hFz
          have X2 : Hid (Ext W wz) := hE.out.drew.trans hEz
          clear hFz hSz hEz cx nz ny
          cases d
          · have HT : Hid ((List.range (j + 1 + 1)).all (okAt zs) = true) := okAll_more hall.out HO.out
            clear hall
            go_wp2
            go_roundw
            case rel => exact ⟨j + 1 + 1, by go_num, by omega, X2, HT⟩
            case measure => simp [intOf]; omega
          · have HF : Hid ((List.range n1).all (okAt zs) = false) := by
              have := okAll_bad (zs := zs) (k := j + 1) (by have := HN.out.1; omega) HO.out
              rw [← HN.out.1] at this
              exact this
            clear hall
            go_wp2
            go_ret
            exact ⟨by rw [HB.out, HF.out]; simp, HX.out.2.trans X2.out⟩
          case hAz => kernel_rfl
          case hlz => exact ⟨trivial, trivial, trivial, trivial, trivial, trivial, trivial, trivial, trivial, trivial, trivial, trivial, trivial, trivial, trivial, trivial, trivial, trivial, trivial, trivial, trivial, trivial, trivial, trivial, trivial, trivial⟩
    · have hkn : k = n1 := by omega
      have HT : Hid ((List.range n1).all (okAt zs) = true) := by rw [← hkn]; exact hall
      have bk : ¬ ((k : Int) < (n1 : Int)) := by omega
      have q := cx.2 0 _ rfl
      clear hall hkn
      go_wp2_with fail
      clear q
      rename World => wf
      have HX3 : Hid (CellsAt wf w.heap.size [.slice a1 n1 c1, .slice a2 n2 c2, .int .i64 act, .int .i64 data] ∧ Ext w wf) := ⟨cx, HX.out.2.trans hE.out⟩
      clear cx hE HX
      go_loopw [4] (fun i wt => ∃ k : Nat, i = .int .i64 k ∧ k ≤ n2 ∧ Hid (Ext wf wt) ∧ Hid ((cs.take k).all condB = true)) (fun i _ => n2 - (intOf i).toNat)
      case atStart => exact ⟨0, rfl, by omega, Ext.refl _, by simp [Hid]⟩
      case round =>
        obtain ⟨k, rfl, hk, hE, hall⟩ := hrel
        have cx : CellsAt wr w.heap.size [.slice a1 n1 c1, .slice a2 n2 c2, .int .i64 act, .int .i64 data] := HX3.out.1.step hE.out
        have q1 := cx.2 1 _ rfl
        by_cases hlt : k < n2
        · have bk : (k : Int) < (n2 : Int) := by omega
          obtain ⟨c, hc⟩ : ∃ c, c = cs.getD k c0 := ⟨_, rfl⟩
          obtain ⟨b, off, rfl, hbl, hs⟩ := (H2.out wr (HX3.out.2.trans hE.out)).at (k := k) (by have := HN.out.2; omega) hc
          obtain ⟨ag, mh, ml, cm, vh, vl⟩ := c
          obtain ⟨s0, s1, s2, s3, s4, s5⟩ := hs.six
          have HC : Hid (⟨ag, mh, ml, cm, vh, vl⟩ = cs.getD k c0) := hc
          clear hc hs cx
          simp only at s0 s1 s2 s3 s4 s5
          go_wp2_with fail
          refine (sCondOk_any ag mh ml cm vh vl _).mono ?_
          rintro e w2 ⟨rfl, x2⟩
          have X2 : Hid (Ext wf w2) := hE.out.trans x2
          clear x2 s0 s1 s2 s3 s4 s5 q1
          cases hcb : condB ⟨ag, mh, ml, cm, vh, vl⟩
          · have HF : Hid (cs.all condB = false) := all_bad (k := k) (d := c0) (by have := HN.out.2; omega) (by rw [← HC.out]; exact hcb)
            clear hall
            go_wp2
            go_ret
            exact ⟨by rw [HB.out, HF.out]; simp, HX3.out.2.trans X2.out⟩
          · have HT2 : Hid ((cs.take (k + 1)).all condB = true) := by unfold Hid; rw [all_get cs condB c0 k (by have := HN.out.2; omega), hall.out, ← HC.out, hcb]; rfl
            clear hall
            go_wp2
            go_roundw
            case rel => exact ⟨k + 1, by go_num, by omega, X2, HT2⟩
            case measure => simp [intOf]; omega
        · have hkn : k = n2 := by omega
          have HT2 : Hid (cs.all condB = true) := all_end (k := k) (by have := HN.out.2; omega) hall.out
          have bk : ¬ ((k : Int) < (n2 : Int)) := by omega
          have q0 := cx.2 0 _ rfl
          have q2 := cx.2 2 _ rfl
          have q3 := cx.2 3 _ rfl
          have X4 : Hid (Ext w wr) := HX3.out.2.trans hE.out
          clear hall hkn cx hE HX3
          by_cases g1 : n1 ≤ 4
          · have g1' : (n1 : Int) ≤ 4 := by omega
            by_cases g2 : n2 ≤ 3
            · have g2' : (n2 : Int) ≤ 3 := by omega
              have HD : Hid (decide (n1 ≤ 4) = true ∧ decide (n2 ≤ 3) = true) := ⟨decide_eq_true g1, decide_eq_true g2⟩
              clear g1 g2
              go_wp2_with (go_at_call 23; refine (l09Act_any _ _ _).mono ?_; rintro e w' ⟨rfl, rfl⟩)
              go_ret
              exact ⟨by rw [HB.out, HT.out, HT2.out, HD.out.1, HD.out.2]; simp, X4.out⟩
            · have g2' : (3 : Int) < (n2 : Int) := by omega
              have HD : Hid (decide (n2 ≤ 3) = false) := decide_eq_false g2
              clear g1 g2
              go_wp2
              go_ret
              exact ⟨by rw [HB.out, HD.out]; simp, X4.out⟩
          · have g1' : (4 : Int) < (n1 : Int) := by omega
            have HD : Hid (decide (n1 ≤ 4) = false) := decide_eq_false g1
            clear g1
            go_wp2
            go_ret
            exact ⟨by rw [HB.out, HD.out]; simp, X4.out⟩

end Go.Proofs.YtojaohdmfahpmaaDoor
