/- Impl's reader of signs: what its small functions do, in plain lists. -/
import Derived.Test.YtojaohdmfahpmaaGreatDoorReadSg
import Derived.Test.YtojaohdmfahpmaaGreatDoorShowRead
import Derived.Test.YtojaohdmfahpmaaGreatDoorSignSl
import Derived.Test.YtojaohdmfahpmaaGreatDoorKno
namespace Go.Proofs.YtojaohdmfahpmaaGreatDoor
open Go.RowKit
set_option linter.unusedVariables false

/-- All of old memory but block p is as it was. -/
abbrev GB (p : Nat) (w w' : World) : Prop := w.grownBy w' (some p)

theorem gb_refl (p : Nat) (w : World) : GB p w w := ⟨rfl, rfl, rfl, Nat.le_refl _, fun _ _ _ => rfl⟩
theorem gb_trans {p : Nat} {a b c : World} (h : GB p a b) (k : GB p b c) : GB p a c :=
  ⟨k.os.trans h.os, k.tape.trans h.tape, k.output.trans h.output, Nat.le_trans h.size k.size, fun i hi hne => (k.block i (Nat.lt_of_lt_of_le hi h.size) hne).trans (h.block i hi hne)⟩
theorem gb_ext {p : Nat} {a b : World} (h : Ext a b) : GB p a b := ⟨h.os, h.tape, h.output, h.size, fun i hi _ => h.block i hi⟩
theorem gb_set (p j : Nat) (w : World) (v : Value) : GB p w (w.setCell ⟨p, j, none⟩ v) :=
  ⟨rfl, rfl, rfl, by simp [World.setCell], fun k _ hk => Below.heap_setCell _ _ _ _ (fun e => hk (by rw [e]))⟩

/-- A reader at block p: the signs, the place. -/
def RdI (W : World) (p : Nat) (a : Option Addr) (cap : Nat) (G : List Sg) (i : Nat) : Prop :=
  Kn W p [.slice a G.length cap, .int .i64 (i : Int)] 59 ∧ i ≤ G.length ∧ G.length ≤ 1200 ∧ Signs W a G ∧ ∀ b o s, a = some ⟨b, o, s⟩ → b ≠ p

theorem RdI.step {w w' : World} {p : Nat} {a : Option Addr} {cap : Nat} {G : List Sg} {i : Nat} (h : RdI w p a cap G i) (hE : Ext w w') : RdI w' p a cap G i :=
  ⟨h.1.ext hE, h.2.1, h.2.2.1, h.2.2.2.1.ext hE, h.2.2.2.2⟩

theorem Signs.gb {w w' : World} {p : Nat} {a : Option Addr} {G : List Sg} (h : Signs w a G) (hp : ∀ b o s, a = some ⟨b, o, s⟩ → b ≠ p) (hG : GB p w w') : Signs w' a G := fun h0 => by
  obtain ⟨b, off, e, hc⟩ := h h0
  have hb : b ≠ p := hp b off none e
  refine ⟨b, off, e, fun j hj => ?_⟩
  obtain ⟨c1, c2, c3⟩ := hc j hj
  exact ⟨hG.cell c1 (fun e => hb (Option.some.inj e)), hG.cell c2 (fun e => hb (Option.some.inj e)), hG.cell c3 (fun e => hb (Option.some.inj e))⟩

theorem RdI.set {w : World} {p : Nat} {a : Option Addr} {cap : Nat} {G : List Sg} {i : Nat} (h : RdI w p a cap G i) {j : Nat} (hj : j ≤ G.length) : RdI (w.setCell ⟨p, 1, none⟩ (.int .i64 (j : Int))) p a cap G j :=
  ⟨h.1.set 1 _, hj, h.2.2.1, h.2.2.2.1.gb h.2.2.2.2 (gb_set _ _ _ _), h.2.2.2.2⟩

/-- What a wrong sign panics with. -/
abbrev Bad : Ending := .panicked [{ v := .iface 103 (.agg #[]), recovered := false }]

set_option maxRecDepth 100000 in
theorem atEnd_any {w : World} {p : Nat} {a : Option Addr} {cap : Nat} {G : List Sg} {i : Nat} (h : RdI w p a cap G i) :
    Calls Tryz.prog 65 #[.pointer (some ⟨p, 0, none⟩)] w fun e w' => e = .returned (.bool (decide (i = G.length))) ∧ Ext w w' := by
  obtain ⟨z, hz⟩ : ∃ z, z = decide (i = G.length) := ⟨_, rfl⟩
  have hzz : ((i : Int) == (G.length : Int)) = z := by rw [hz, Bool.eq_iff_iff]; simp; omega
  rw [← hz]
  have c0 := h.1.cell 0 _ rfl
  have c1 := h.1.cell 1 _ rfl
  clear hz h
  generalize G.length = n at *
  go_enter Tryz.func65, Tryz.ntmps65
  go_wp2
  go_quiet (fail)
  go_wp2
  go_ret
  exact ⟨rfl, ⟨rfl, rfl, rfl, Nat.le_refl _, fun _ _ => rfl⟩⟩

theorem bad_panic {P : Program} {fn : Func} {R : Ending → World → Prop} {a : Act} {w : World} {ch : List PanicEntry} (hd : a.defers = []) (h : R (.panicked ch) w) : bodyPost P fn R (.panic ch) a w := ⟨hd, h⟩

theorem fld0 (a b c : Value) (wx : World) : (Instr.field 98 (.agg #[a, b, c]) 0).run Tryz.prog wx = .ok a wx := by simp [go_sem, Instr.field, asAgg, part, Tryz.isAgg3]
theorem fld1 (a b c : Value) (wx : World) : (Instr.field 98 (.agg #[a, b, c]) 1).run Tryz.prog wx = .ok b wx := by simp [go_sem, Instr.field, asAgg, part, Tryz.isAgg9]
theorem fld2 (a b c : Value) (wx : World) : (Instr.field 98 (.agg #[a, b, c]) 2).run Tryz.prog wx = .ok c wx := by simp [go_sem, Instr.field, asAgg, part, Tryz.isAgg3]

theorem zero_sgV : sgV zeroG = .agg #[.int .i64 0, .string ⟨#[]⟩, .int .i64 0] := rfl

set_option maxRecDepth 100000 in
theorem next_any {w : World} {p : Nat} {a : Option Addr} {cap : Nat} {G : List Sg} {i : Nat} (h : RdI w p a cap G i) :
    Calls Tryz.prog 106 #[.pointer (some ⟨p, 0, none⟩)] w fun e w' => e = .returned (sgV (sgA G i)) ∧ Ext w w' := by
  have X0 : Hid (Ext w (w.alloc (.cells #[.int .i64 0, .string ⟨#[]⟩, .int .i64 0] 98))) := Ext.one _ _
  have K0 : Hid (Kn (w.alloc (.cells #[.int .i64 0, .string ⟨#[]⟩, .int .i64 0] 98)) w.heap.size [.int .i64 0, .string ⟨#[]⟩, .int .i64 0] 98) := Kn.new w _ _
  have h1 : Hid (RdI (w.alloc (.cells #[.int .i64 0, .string ⟨#[]⟩, .int .i64 0] 98)) p a cap G i) := h.step X0.out
  by_cases hi : i = G.length
  · have HV : Hid (sgA G i = zeroG) := by unfold Hid sgA; rw [List.getD_eq_getElem?_getD, List.getElem?_eq_none (by omega)]; rfl
    have HE : Hid (∀ {W : World}, RdI W p a cap G i → Calls Tryz.prog 65 #[.pointer (some ⟨p, 0, none⟩)] W fun e w' => e = .returned (.bool true) ∧ Ext W w') := fun {W} h => by
      have := atEnd_any h
      rw [decide_eq_true hi] at this
      exact this
    clear h hi
    rw [HV.out, zero_sgV]
    go_enter Tryz.func106, Tryz.ntmps106
    go_wp2_with fail
    generalize w.alloc (.cells #[.int .i64 0, .string ⟨#[]⟩, .int .i64 0] 98) = W0 at *
    refine (HE.out h1.out).mono ?_
    rintro e w1 ⟨rfl, x1⟩
    have X1 : Hid (Ext w w1) := X0.out.trans x1
    have K1 := K0.out.ext x1
    have f1 := K1.free
    obtain ⟨c0, c1, c2⟩ := (⟨K1.cell 0 _ rfl, K1.cell 1 _ rfl, K1.cell 2 _ rfl⟩ : _ ∧ _ ∧ _)
    have KN : Hid (Kn w1 w.heap.size [.int .i64 0, .string ⟨#[]⟩, .int .i64 0] 98) := K1
    have hs1 := K1.lt
    clear x1 HE K1
    go_wp2
    refine bodyPost_ret (v := .agg #[.int .i64 0, .string ⟨#[]⟩, .int .i64 0]) (by simp [results, Tryz.results106, go_sem, *]) rfl ?_
    exact ⟨rfl, ((X1.out.set (Nat.le_refl _) _ _).set (Nat.le_refl _) _ _).set (Nat.le_refl _) _ _⟩
  · have hlt : i < G.length := by have := h.2.1; omega
    have HE : Hid (∀ {W : World}, RdI W p a cap G i → Calls Tryz.prog 65 #[.pointer (some ⟨p, 0, none⟩)] W fun e w' => e = .returned (.bool false) ∧ Ext W w') := fun {W} h => by
      have := atEnd_any h
      rw [decide_eq_false hi] at this
      exact this
    obtain ⟨b, off, rfl, ht⟩ := h.2.2.2.1.tri hlt
    obtain ⟨k, t, m⟩ : True ∧ True ∧ True := ⟨trivial, trivial, trivial⟩
    obtain ⟨sk, hsk⟩ : ∃ k, k = (sgA G i).1 := ⟨_, rfl⟩
    obtain ⟨st, hst⟩ : ∃ k, k = txt (sgA G i).2.1 := ⟨_, rfl⟩
    obtain ⟨sn, hsn⟩ : ∃ k, k = (sgA G i).2.2 := ⟨_, rfl⟩
    have hv : sgV (sgA G i) = .agg #[.int .i64 sk, .string st, .int .i64 sn] := by rw [hsk, hst, hsn]; rfl
    rw [hv]
    have HT : Hid (Tri w b (off + i * 3) sk st sn) := by rw [hsk, hst, hsn]; exact ht
    have bi : (i : Int) < (G.length : Int) := by omega
    clear h hi ht hsk hst hsn hv
    obtain ⟨n, hn⟩ : ∃ n, n = G.length := ⟨_, rfl⟩
    go_enter Tryz.func106, Tryz.ntmps106
    go_wp2_with fail
    generalize w.alloc (.cells #[.int .i64 0, .string ⟨#[]⟩, .int .i64 0] 98) = W0 at *
    refine (HE.out h1.out).mono ?_
    rintro e w1 ⟨rfl, x1⟩
    have X1 : Hid (Ext w w1) := X0.out.trans x1
    have K1 : Hid (Kn w1 w.heap.size [.int .i64 0, .string ⟨#[]⟩, .int .i64 0] 98) := K0.out.ext x1
    have R1 : Hid (Kn w1 p [.slice (some ⟨b, off, none⟩) G.length cap, .int .i64 (i : Int)] 59) := (h1.out.step x1).1
    have T1 : Hid (Tri w1 b (off + i * 3) sk st sn) := HT.out.ext X1.out
    clear x1 HE
    rw [← hn] at R1 bi
    clear hn h1
    go_wp2_with fail
    refine' wp_region_loose_tail 10 (.inl _ :: .inl _ :: .inl _ :: .inl _ :: .inl _ :: .inl _ :: .inl _ :: .inl _ :: .inl _ :: .inl _ :: []) (fun w' => Kn w' w.heap.size [.int .i64 0, .string ⟨#[]⟩, .int .i64 0] 98 ∧ Kn w' p [.slice (some ⟨b, off, none⟩) n cap, .int .i64 (i : Int)] 59 ∧ Tri w' b (off + i * 3) sk st sn) (by kernel_rfl) (by kernel_rfl) (⟨K1.out.drew, R1.out.drew, T1.out⟩) (fun _ _ h hE => ⟨h.1.ext hE, h.2.1.ext hE, h.2.2.ext hE⟩) ?hAa ?hla ?hMa
    case' hMa => skip
    simp only [List.take_succ_cons, List.take_zero, List.drop_succ_cons, List.drop_zero]
    apply wpLoose_val rfl rfl
    case hs =>
      intro w1 hC hd Q1 hQ1
      obtain ⟨hE, hS⟩ := hC
      dsimp only [bare]
      obtain ⟨q0, q1, t0, t1, t2⟩ := (⟨hS.2.1.cell 0 _ rfl, hS.2.1.cell 1 _ rfl, hS.2.2.1, hS.2.2.2.1, hS.2.2.2.2⟩ : _ ∧ _ ∧ _ ∧ _ ∧ _)
      clear hd hE
      try clear hS
      go_wp2
      exact Ext.refl _
    case ha => rfl
    apply wpLoose_val rfl rfl
    case hs =>
      intro w1 hC hd Q1 hQ1
      obtain ⟨hE, hS⟩ := hC
      dsimp only [bare]
      obtain ⟨q0, q1, t0, t1, t2⟩ := (⟨hS.2.1.cell 0 _ rfl, hS.2.1.cell 1 _ rfl, hS.2.2.1, hS.2.2.2.1, hS.2.2.2.2⟩ : _ ∧ _ ∧ _ ∧ _ ∧ _)
      clear hd hE
      try clear hS
      go_wp2
      exact Ext.refl _
    case ha => rfl
    apply wpLoose_val rfl rfl
    case hs =>
      intro w1 hC hd Q1 hQ1
      obtain ⟨hE, hS⟩ := hC
      dsimp only [bare]
      obtain ⟨q0, q1, t0, t1, t2⟩ := (⟨hS.2.1.cell 0 _ rfl, hS.2.1.cell 1 _ rfl, hS.2.2.1, hS.2.2.2.1, hS.2.2.2.2⟩ : _ ∧ _ ∧ _ ∧ _ ∧ _)
      clear hd hE
      try clear hS
      go_wp2
      exact Ext.refl _
    case ha => rfl
    apply wpLoose_val rfl rfl
    case hs =>
      intro w1 hC hd Q1 hQ1
      obtain ⟨hE, hS⟩ := hC
      dsimp only [bare]
      obtain ⟨q0, q1, t0, t1, t2⟩ := (⟨hS.2.1.cell 0 _ rfl, hS.2.1.cell 1 _ rfl, hS.2.2.1, hS.2.2.2.1, hS.2.2.2.2⟩ : _ ∧ _ ∧ _ ∧ _ ∧ _)
      clear hd hE
      try clear hS
      go_wp2
      exact Ext.refl _
    case ha => rfl
    apply wpLoose_val rfl rfl
    case hs =>
      intro w1 hC hd Q1 hQ1
      obtain ⟨hE, hS⟩ := hC
      dsimp only [bare]
      obtain ⟨q0, q1, t0, t1, t2⟩ := (⟨hS.2.1.cell 0 _ rfl, hS.2.1.cell 1 _ rfl, hS.2.2.1, hS.2.2.2.1, hS.2.2.2.2⟩ : _ ∧ _ ∧ _ ∧ _ ∧ _)
      clear hd hE
      try clear hS
      go_wp2
      exact Ext.refl _
    case ha => rfl
    apply wpLoose_val rfl rfl
    case hs =>
      intro w1 hC hd Q1 hQ1
      obtain ⟨hE, hS⟩ := hC
      dsimp only [bare]
      obtain ⟨q0, q1, t0, t1, t2⟩ := (⟨hS.2.1.cell 0 _ rfl, hS.2.1.cell 1 _ rfl, hS.2.2.1, hS.2.2.2.1, hS.2.2.2.2⟩ : _ ∧ _ ∧ _ ∧ _ ∧ _)
      clear hd hE
      try clear hS
      go_wp2
      exact Ext.refl _
    case ha => rfl
    apply wpLoose_val rfl rfl
    case hs =>
      intro w1 hC hd Q1 hQ1
      obtain ⟨hE, hS⟩ := hC
      dsimp only [bare]
      obtain ⟨q0, q1, t0, t1, t2⟩ := (⟨hS.2.1.cell 0 _ rfl, hS.2.1.cell 1 _ rfl, hS.2.2.1, hS.2.2.2.1, hS.2.2.2.2⟩ : _ ∧ _ ∧ _ ∧ _ ∧ _)
      clear hd hE
      try clear hS
      go_wp2
      exact Ext.refl _
    case ha => rfl
    apply wpLoose_val rfl rfl
    case hs =>
      intro w1 hC hd Q1 hQ1
      obtain ⟨hE, hS⟩ := hC
      dsimp only [bare]
      obtain ⟨q0, q1, t0, t1, t2⟩ := (⟨hS.2.1.cell 0 _ rfl, hS.2.1.cell 1 _ rfl, hS.2.2.1, hS.2.2.2.1, hS.2.2.2.2⟩ : _ ∧ _ ∧ _ ∧ _ ∧ _)
      clear hd hE
      try clear hS
      go_wp2
      exact Ext.refl _
    case ha => rfl
    apply wpLoose_val rfl rfl
    case hs =>
      intro w1 hC hd Q1 hQ1
      obtain ⟨hE, hS⟩ := hC
      dsimp only [bare]
      obtain ⟨q0, q1, t0, t1, t2⟩ := (⟨hS.2.1.cell 0 _ rfl, hS.2.1.cell 1 _ rfl, hS.2.2.1, hS.2.2.2.1, hS.2.2.2.2⟩ : _ ∧ _ ∧ _ ∧ _ ∧ _)
      clear hd hE
      try clear hS
      go_wp2
      exact Ext.refl _
    case ha => rfl
    apply wpLoose_val rfl rfl
    case hs =>
      intro w1 hC hd Q1 hQ1
      obtain ⟨hE, hS⟩ := hC
      dsimp only [bare]
      obtain ⟨q0, q1, t0, t1, t2⟩ := (⟨hS.2.1.cell 0 _ rfl, hS.2.1.cell 1 _ rfl, hS.2.2.1, hS.2.2.2.1, hS.2.2.2.2⟩ : _ ∧ _ ∧ _ ∧ _ ∧ _)
      clear hd hE
      try clear hS
      go_wp2
      exact Ext.refl _
    case ha => rfl
    refine wpLoose_nil ?_
    intro wa hEa hSa hFa
    · have XA : Hid (Ext w wa) := X1.out.drew.trans hEa
      have KA := hSa.1
      have f1 := KA.free
      obtain ⟨c0, c1, c2⟩ := (⟨KA.cell 0 _ rfl, KA.cell 1 _ rfl, KA.cell 2 _ rfl⟩ : _ ∧ _ ∧ _)
      have KB : Hid (Kn (((wa.setCell ⟨w.heap.size, 0, none⟩ (.int .i64 sk)).setCell ⟨w.heap.size, 1, none⟩ (.string st)).setCell ⟨w.heap.size, 2, none⟩ (.int .i64 sn)) w.heap.size [.int .i64 sk, .string st, .int .i64 sn] 98) := ((KA.set 0 _).set 1 _).set 2 _
      have XB : Hid (Ext w (((wa.setCell ⟨w.heap.size, 0, none⟩ (.int .i64 sk)).setCell ⟨w.heap.size, 1, none⟩ (.string st)).setCell ⟨w.heap.size, 2, none⟩ (.int .i64 sn))) := ((XA.out.set (Nat.le_refl _) _ _).set (Nat.le_refl _) _ _).set (Nat.le_refl _) _ _
      clear hEa hSa hFa KA
      go_wp2
      generalize ((wa.setCell ⟨w.heap.size, 0, none⟩ (.int .i64 sk)).setCell ⟨w.heap.size, 1, none⟩ (.string st)).setCell ⟨w.heap.size, 2, none⟩ (.int .i64 sn) = WB at *
      clear c0 c1 c2 f1
      obtain ⟨c0, c1, c2⟩ := (⟨KB.out.cell 0 _ rfl, KB.out.cell 1 _ rfl, KB.out.cell 2 _ rfl⟩ : _ ∧ _ ∧ _)
      refine bodyPost_ret (v := .agg #[.int .i64 sk, .string st, .int .i64 sn]) (by simp [results, Tryz.results106, go_sem, *]) rfl ?_
      exact ⟨rfl, XB.out⟩
    case hAa => kernel_rfl
    case hla => exact ⟨trivial, trivial, trivial, trivial, trivial, trivial, trivial, trivial, trivial, trivial, trivial⟩

set_option maxRecDepth 100000 in
/-- A name or a mark where it stands: behind it. -/
theorem passes_any {w : World} {p : Nat} {a : Option Addr} {cap : Nat} {G : List Sg} {i : Nat} (t : List UInt8) (ht : t ≠ []) (h : RdI w p a cap G i) :
    Calls Tryz.prog 104 #[.pointer (some ⟨p, 0, none⟩), .string (txt t)] w fun e w' => e = .returned (.bool (isT G i t)) ∧ RdI w' p a cap G (if isT G i t then i + 1 else i) ∧ GB p w w' := by
  have HN : Hid (Calls Tryz.prog 106 #[.pointer (some ⟨p, 0, none⟩)] w fun e w' => e = .returned (sgV (sgA G i)) ∧ Ext w w') := next_any h
  have HR : Hid (∀ W, Ext w W → RdI W p a cap G i) := fun W hE => h.step hE
  obtain ⟨sk, hsk⟩ : ∃ k, k = (sgA G i).1 := ⟨_, rfl⟩
  obtain ⟨st, hst⟩ : ∃ k, k = txt (sgA G i).2.1 := ⟨_, rfl⟩
  obtain ⟨sn, hsn⟩ : ∃ k, k = (sgA G i).2.2 := ⟨_, rfl⟩
  have hv : sgV (sgA G i) = .agg #[.int .i64 sk, .string st, .int .i64 sn] := by rw [hsk, hst, hsn]; rfl
  rw [hv] at HN
  obtain ⟨T, hT⟩ : ∃ T, T = txt t := ⟨_, rfl⟩
  rw [← hT]
  have heq : (st.toList == T.toList) = isT G i t := by
    rw [hst, hT]
    unfold isT
    rw [Bool.eq_iff_iff]
    simp only [beq_iff_eq]
    exact ⟨fun e => txt_inj (ByteArray.ext (Array.toList_inj.1 (by simpa [ByteArray.toList_eq] using e))), fun e => by rw [e]⟩
  have hlt : isT G i t = true → i + 1 ≤ G.length := fun e => isT_lt ht e
  obtain ⟨z, hz⟩ : ∃ z, z = isT G i t := ⟨_, rfl⟩
  have HL : Hid (z = true → i + 1 ≤ G.length) := by rw [hz]; exact hlt
  rw [← hz] at heq ⊢
  clear hsk hst hsn hv hT hlt hz h
  have hfld := fld1 (.int .i64 sk) (.string st) (.int .i64 sn)
  cases z
  · go_enter Tryz.func104, Tryz.ntmps104
    go_wp2_with fail
    refine HN.out.mono ?_
    rintro e w1 ⟨rfl, x1⟩
    have X1 : Hid (Ext w w1) := x1
    clear x1 HN
    go_wp2
    go_ret
    exact ⟨rfl, HR.out _ X1.out, gb_ext X1.out⟩
  · go_enter Tryz.func104, Tryz.ntmps104
    go_wp2_with fail
    refine HN.out.mono ?_
    rintro e w1 ⟨rfl, x1⟩
    have X1 : Hid (Ext w w1) := x1
    have R1 : Hid (RdI w1 p a cap G i) := HR.out _ x1
    have c1 := R1.out.1.cell 1 _ rfl
    have f1 := R1.out.1.free
    clear x1 HN
    have hb : i ≤ 1200 := by have := R1.out.2.1; have := R1.out.2.2.1; omega
    go_wp2
    go_ret
    exact ⟨rfl, R1.out.set (HL.out (by first | rfl | trivial)), gb_trans (gb_ext X1.out) (gb_set _ _ _ _)⟩

set_option maxRecDepth 100000 in
theorem mustPass_any {w : World} {p : Nat} {a : Option Addr} {cap : Nat} {G : List Sg} {i : Nat} (t : List UInt8) (ht : t ≠ []) (h : RdI w p a cap G i) :
    Calls Tryz.prog 62 #[.pointer (some ⟨p, 0, none⟩), .string (txt t)] w fun e w' => (match rPass G i t with
      | some j => e = .returned (.tuple #[]) ∧ RdI w' p a cap G j
      | none => e = Bad) ∧ GB p w w' := by
  have HP := passes_any t ht h
  unfold rPass
  obtain ⟨z, hz⟩ : ∃ z, z = isT G i t := ⟨_, rfl⟩
  obtain ⟨T, hT⟩ : ∃ T, T = txt t := ⟨_, rfl⟩
  rw [← hz, ← hT] at HP
  rw [← hz, ← hT]
  clear hz hT h
  have H1 : Hid _ := HP
  clear HP
  cases z
  · go_enter Tryz.func62, Tryz.ntmps62
    go_wp2_with fail
    refine (show Calls Tryz.prog 104 _ _ _ from H1.out).mono ?_
    rintro e w1 ⟨rfl, x1, y1⟩
    have X1 : Hid (GB p w w1) := y1
    clear x1 H1 y1
    go_wp2
    exact bad_panic rfl ⟨rfl, X1.out⟩
  · go_enter Tryz.func62, Tryz.ntmps62
    go_wp2_with fail
    refine (show Calls Tryz.prog 104 _ _ _ from H1.out).mono ?_
    rintro e w1 ⟨rfl, x1, y1⟩
    have X1 : Hid (RdI w1 p a cap G (i + 1) ∧ GB p w w1) := ⟨x1, y1⟩
    clear x1 H1 y1
    go_wp2
    go_end0
    exact ⟨⟨rfl, X1.out.1⟩, X1.out.2⟩

set_option maxRecDepth 100000 in
theorem numberStands_any {w : World} {p : Nat} {a : Option Addr} {cap : Nat} {G : List Sg} {i : Nat} (h : RdI w p a cap G i) :
    Calls Tryz.prog 105 #[.pointer (some ⟨p, 0, none⟩)] w fun e w' => e = .returned (.bool (numAt G i)) ∧ Ext w w' := by
  have HN : Hid (Calls Tryz.prog 106 #[.pointer (some ⟨p, 0, none⟩)] w fun e w' => e = .returned (sgV (sgA G i)) ∧ Ext w w') := next_any h
  obtain ⟨z, hz⟩ : ∃ z, z = numAt G i := ⟨_, rfl⟩
  obtain ⟨sk, hsk⟩ : ∃ k, k = (sgA G i).1 := ⟨_, rfl⟩
  have heq : (sk == 2) = z := by rw [hz, hsk]; rfl
  rw [show sgV (sgA G i) = .agg #[.int .i64 (sgA G i).1, .string (txt (sgA G i).2.1), .int .i64 (sgA G i).2.2] from rfl, ← hsk] at HN
  rw [← hz]
  clear hz hsk h
  generalize txt (sgA G i).2.1 = st at *
  generalize (sgA G i).2.2 = sn at *
  have hfld := fld0 (.int .i64 sk) (.string st) (.int .i64 sn)
  go_enter Tryz.func105, Tryz.ntmps105
  go_wp2_with fail
  refine HN.out.mono ?_
  rintro e w1 ⟨rfl, x1⟩
  have X1 : Hid (Ext w w1) := x1
  clear x1 HN
  go_wp2
  go_ret
  exact ⟨rfl, X1.out⟩

set_option maxRecDepth 100000 in
theorem number_any {w : World} {p : Nat} {a : Option Addr} {cap : Nat} {G : List Sg} {i : Nat} (h : RdI w p a cap G i) :
    Calls Tryz.prog 63 #[.pointer (some ⟨p, 0, none⟩)] w fun e w' => (match rNum G i with
      | some (n, j) => e = .returned (.int .i64 n) ∧ RdI w' p a cap G j
      | none => e = Bad) ∧ GB p w w' := by
  have HS : Hid (Calls Tryz.prog 105 #[.pointer (some ⟨p, 0, none⟩)] w fun e w' => e = .returned (.bool (numAt G i)) ∧ Ext w w') := numberStands_any h
  have HN : Hid (∀ W, Ext w W → Calls Tryz.prog 106 #[.pointer (some ⟨p, 0, none⟩)] W fun e w' => e = .returned (.agg #[.int .i64 (sgA G i).1, .string (txt (sgA G i).2.1), .int .i64 (sgA G i).2.2]) ∧ Ext W w') := fun W hE => next_any (h.step hE)
  have HR : Hid (∀ W, Ext w W → RdI W p a cap G i) := fun W hE => h.step hE
  unfold rNum
  have hlt : numAt G i = true → i + 1 ≤ G.length := fun e => numAt_lt e
  obtain ⟨z, hz⟩ : ∃ z, z = numAt G i := ⟨_, rfl⟩
  have HL : Hid (z = true → i + 1 ≤ G.length) := by rw [hz]; exact hlt
  rw [← hz] at HS ⊢
  generalize (sgA G i).1 = sk at *
  generalize txt (sgA G i).2.1 = st at *
  generalize (sgA G i).2.2 = sn at *
  clear hz hlt h
  have hfld := fld2 (.int .i64 sk) (.string st) (.int .i64 sn)
  cases z
  · go_enter Tryz.func63, Tryz.ntmps63
    go_wp2_with fail
    refine HS.out.mono ?_
    rintro e w1 ⟨rfl, x1⟩
    have X1 : Hid (Ext w w1) := x1
    clear x1 HS HN
    go_wp2
    exact bad_panic rfl ⟨rfl, gb_ext X1.out⟩
  · go_enter Tryz.func63, Tryz.ntmps63
    go_wp2_with fail
    refine HS.out.mono ?_
    rintro e w1 ⟨rfl, x1⟩
    have X1 : Hid (Ext w w1) := x1
    clear x1 HS
    go_wp2_with fail
    refine (HN.out _ X1.out).mono ?_
    rintro e w2 ⟨rfl, x2⟩
    have X2 : Hid (Ext w w2) := X1.out.trans x2
    have R2 : Hid (RdI w2 p a cap G i) := HR.out _ X2.out
    have c1 := R2.out.1.cell 1 _ rfl
    have f1 := R2.out.1.free
    clear x2 HN
    have hb : i ≤ 1200 := by have := R2.out.2.1; have := R2.out.2.2.1; omega
    go_wp2
    go_ret
    exact ⟨⟨rfl, R2.out.set (HL.out (by first | rfl | trivial))⟩, gb_trans (gb_ext X2.out) (gb_set _ _ _ _)⟩

end Go.Proofs.YtojaohdmfahpmaaGreatDoor
