/- Spec's ReadPolicy: the policy that a text tells. -/
import Derived.Test.YtojaohdmfahpmaaGreatDoorPolPack25
import Derived.Recover
import Derived.Tactics2
import Derived.Test.YtojaohdmfahpmaaGreatDoorPolPack2
import Derived.Deep.AppendLies
import Derived.Test.YtojaohdmfahpmaaGreatDoorPolPack21
/- Impl's reader of signs: a policy, and what a wrong sign leaves of it. -/
namespace Go.Proofs.YtojaohdmfahpmaaGreatDoor
open Go.RowKit
set_option linter.unusedVariables false

theorem as_wrong (w : World) : (Instr.typeAssert (.iface 103 (.agg #[])) 20 103 true).run Tryz.prog w = .ok (.tuple #[.agg #[], .bool true]) w := by kernel_rfl
theorem as_none (w : World) : (Instr.typeAssert .nilIface 20 103 true).run Tryz.prog w = .ok (.tuple #[.agg #[], .bool false]) w := by kernel_rfl

set_option maxRecDepth 100000 in
set_option maxHeartbeats 1000000 in
theorem catch_wrong (r s : Nat) (l : List Value) (b : Bool) (older : List PanicEntry) (w : World) (hl : l.length = 4) (hr : Kn w r l 26) (hs : Kn w s [.bool b] 4) (hrs : r ≠ s) :
    CallsD Tryz.prog 61 #[.pointer (some ⟨r, 0, none⟩), .pointer (some ⟨s, 0, none⟩)] (.panicking ({ v := .iface 103 (.agg #[]), recovered := false } :: older)) w fun e u w' =>
      e = .returned (.tuple #[]) ∧ u = .panicking ({ v := .iface 103 (.agg #[]), recovered := true } :: older) ∧ Kn w' r [.int .i64 0, .int .i64 0, .int .i64 0, .slice none 0 0] 26 ∧ Kn w' s [.bool false] 4 ∧ ∀ (p0 : Nat) (w0 : World), GB p0 w0 w → w0.heap.size ≤ r → w0.heap.size ≤ s → GB p0 w0 w' := by
  obtain ⟨l0, l1, l2, l3, rfl⟩ : ∃ l0 l1 l2 l3, l = [l0, l1, l2, l3] := by
    match l, hl with
    | [l0, l1, l2, l3], _ => exact ⟨_, _, _, _, rfl⟩
  refine callsD_of_wpS Tryz.func61 rfl fun c₀ cs hu => ?_
  apply wpS_seq
  apply wpS_region
  simp [wpOpsS, go_sem, recoverD, hu, Tryz.ntmps61, Exit.thenS, as_wrong]
  have kr := hr.alloc (.cells #[] 103)
  have ks := hs.alloc (.cells #[] 103)
  have fr := kr.free
  have fs := ks.free
  obtain ⟨c0, c1, c2, c3, d0⟩ := (⟨kr.cell 0 _ rfl, kr.cell 1 _ rfl, kr.cell 2 _ rfl, kr.cell 3 _ rfl, ks.cell 0 _ rfl⟩ : _ ∧ _ ∧ _ ∧ _ ∧ _)
  have FIN : Hid (Kn ((((((w.alloc (.cells #[] 103)).setCell ⟨r, 0, none⟩ (.int .i64 0)).setCell ⟨r, 1, none⟩ (.int .i64 0)).setCell ⟨r, 2, none⟩ (.int .i64 0)).setCell ⟨r, 3, none⟩ (.slice none 0 0)).setCell ⟨s, 0, none⟩ (.bool false)) r [.int .i64 0, .int .i64 0, .int .i64 0, .slice none 0 0] 26 ∧ Kn ((((((w.alloc (.cells #[] 103)).setCell ⟨r, 0, none⟩ (.int .i64 0)).setCell ⟨r, 1, none⟩ (.int .i64 0)).setCell ⟨r, 2, none⟩ (.int .i64 0)).setCell ⟨r, 3, none⟩ (.slice none 0 0)).setCell ⟨s, 0, none⟩ (.bool false)) s [.bool false] 4 ∧ ∀ (p0 : Nat) (w0 : World), GB p0 w0 w → w0.heap.size ≤ r → w0.heap.size ≤ s → GB p0 w0 ((((((w.alloc (.cells #[] 103)).setCell ⟨r, 0, none⟩ (.int .i64 0)).setCell ⟨r, 1, none⟩ (.int .i64 0)).setCell ⟨r, 2, none⟩ (.int .i64 0)).setCell ⟨r, 3, none⟩ (.slice none 0 0)).setCell ⟨s, 0, none⟩ (.bool false))) :=
    ⟨((((kr.set 0 _).set 1 _).set 2 _).set 3 _).other hrs _ _, ((((ks.other (Ne.symm hrs) _ _).other (Ne.symm hrs) _ _).other (Ne.symm hrs) _ _).other (Ne.symm hrs) _ _).set 0 _, fun p0 w0 h h1 h2 => gb_fresh (gb_fresh (gb_fresh (gb_fresh (gb_fresh (gb_alloc h _) h1) h1) h1) h1) h2⟩
  clear hr hs kr ks
  generalize w.alloc (.cells #[] 103) = W1 at *
  apply wpS_seq
  apply wpS_region
  simp [wpOpsS, go_sem, Exit.thenS]
  refine wpS_cond (t := true) (by simp [Act.eval, Array.replicate]) ?_
  simp only [if_true]
  apply wpS_region
  simp [wpOpsS, go_sem, *]
  exact ⟨rfl, _, rfl, .tuple #[], by simp [results, Tryz.results61, go_sem], rfl, rfl, FIN.out⟩

set_option maxRecDepth 100000 in
set_option maxHeartbeats 1000000 in
theorem catch_idle (r s : Nat) (w : World) :
    CallsD Tryz.prog 61 #[.pointer (some ⟨r, 0, none⟩), .pointer (some ⟨s, 0, none⟩)] .returning w fun e u w' => e = .returned (.tuple #[]) ∧ u = .returning ∧ Ext w w' := by
  refine callsD_of_wpS Tryz.func61 rfl fun c₀ cs hu => ?_
  apply wpS_seq
  apply wpS_region
  simp [wpOpsS, go_sem, recoverD, hu, Tryz.ntmps61, Exit.thenS, as_none]
  have X : Hid (Ext w (w.alloc (.cells #[] 103))) := Ext.one _ _
  generalize hW : w.alloc (.cells #[] 103) = W1 at *
  apply wpS_seq
  apply wpS_region
  simp [wpOpsS, go_sem, Exit.thenS]
  refine wpS_cond (t := false) (by simp [Act.eval, Array.replicate]) ?_
  simp only [Bool.false_eq_true, if_false]
  refine wpS_of_wp (wp_skip ?_)
  cases c₀
  simp_all [bodyPostS, results, Tryz.results61, X.out]
  try exact X.out

theorem Tryz.infoRl : (Tryz.prog.info? 53).map (fun i => (i.zero, i.size, i.bytes)) = some (some (.agg #[.slice none 0 0, .slice none 0 0, .int .i64 0, .int .i64 0]), 4, 64) := by kernel_rfl

theorem own_slice {w : World} {B e size n : Nat} {v : Value} {xs : List Value} (h : w.ownsRow B e size v n xs) : ∃ a c, v = .slice a n c := by
  rcases h.2 with ⟨rfl, h0⟩ | ⟨g, cap, cur, rfl, _⟩
  · exact ⟨_, _, by rw [h0]⟩
  · exact ⟨_, _, rfl⟩

theorem RuleX.shape {B : Nat} {w : World} {r : RN} {l : List Value} (h : RuleX B w r l) : ∃ a1 n1 c1 a2 n2 c2, l = [.slice a1 n1 c1, .slice a2 n2 c2, .int .i64 r.act, .int .i64 r.data] := by
  obtain ⟨v1, v2, B2, rfl, h1, h2, _⟩ := h
  obtain ⟨a1, c1, rfl⟩ := own_slice h1
  obtain ⟨a2, c2, rfl⟩ := own_slice h2
  exact ⟨_, _, _, _, _, _, rfl⟩

theorem Kn.row {w w' : World} {k : Nat} {l : List Value} {t : TypeId} {row : Option Nat} (h : Kn w k l t) (hg : w.grownBy w' row) (hr : row ≠ some k) : Kn w' k l t := (hg.block k h.lt (fun e => hr e.symm)).trans h

theorem gb_drew {p : Nat} {w W : World} (h : GB p w W) : GB p w W.drew := ⟨h.os, h.tape, h.output, h.size, h.block⟩

/-- Which of two places. -/
def plc : Bool → Nat → Nat → Nat
  | true, a, _ => a
  | false, _, b => b

/-- The blocks of a rule's two rows. -/
def Blo (l : List Value) (x : Nat) : Prop := (l.getD 0 undef).ownBlock = some x ∨ (l.getD 1 undef).ownBlock = some x

/-- The rows of the rules, all apart, none of them the block o. -/
def RowsX (B Z : Nat) (w : World) (o : Option Nat) (ps : List (RN × List Value)) : Prop :=
  ∃ m : Nat → Nat, (∀ j, m j ≤ m (j + 1)) ∧ B ≤ m 0 ∧ m ps.length ≤ Z ∧ ∀ j q, ps[j]? = some q → RuleX (m j) w q.1 q.2 ∧ ∀ x, Blo q.2 x → m j ≤ x ∧ x < m (j + 1) ∧ o ≠ some x

/-- Rules in a row of the call's own, each with rows of its own, all apart. -/
def RulesX (B : Nat) (w : World) (v : Value) (ps : List (RN × List Value)) : Prop :=
  w.ownsRow B 53 4 v ps.length (ps.flatMap (·.2)) ∧ RowsX B w.heap.size w v.ownBlock ps

theorem mono_le {m : Nat → Nat} (h : ∀ j, m j ≤ m (j + 1)) : ∀ (d i : Nat), m i ≤ m (i + d)
  | 0, _ => Nat.le_refl _
  | d + 1, i => Nat.le_trans (mono_le h d i) (h (i + d))

theorem mono_lt {m : Nat → Nat} (h : ∀ j, m j ≤ m (j + 1)) {i k : Nat} (hik : i ≤ k) : m i ≤ m k := by
  have := mono_le h (k - i) i
  rwa [show i + (k - i) = k by omega] at this

theorem RuleX.kept {B : Nat} {w w' : World} {r : RN} {l : List Value} {row : Option Nat} (h : RuleX B w r l) (hg : w.grownBy w' row) (hr : ∀ x, Blo l x → row ≠ some x) : RuleX B w' r l := by
  obtain ⟨v1, v2, B2, rfl, h1, h2, h3, h4⟩ := h
  refine ⟨v1, v2, B2, rfl, World.ownsRow.kept h1 hg ?_, World.ownsRow.kept h2 hg ?_, h3, h4⟩
  · cases e : v1.ownBlock with
    | none => exact .inl rfl
    | some x => exact .inr (fun e2 => hr x (.inl e) e2.symm)
  · cases e : v2.ownBlock with
    | none => exact .inl rfl
    | some x => exact .inr (fun e2 => hr x (.inr e) e2.symm)

theorem RuleX.mono {B C : Nat} {w : World} {r : RN} {l : List Value} (h : RuleX B w r l) (hC : C ≤ B) : RuleX C w r l := by
  obtain ⟨v1, v2, B2, rfl, h1, h2, h3, h4⟩ := h
  exact ⟨v1, v2, B2, rfl, own_mono h1 hC, h2, by omega, h4⟩

theorem RuleX.blocks {B : Nat} {w : World} {r : RN} {l : List Value} (h : RuleX B w r l) : ∀ x, Blo l x → B ≤ x ∧ x < w.heap.size := by
  obtain ⟨v1, v2, B2, rfl, h1, h2, h3, h4⟩ := h
  intro x hx
  rcases hx with hx | hx
  · exact own_lt9 h1 hx
  · have := own_lt9 h2 hx
    omega

theorem RowsX.kept {B Z : Nat} {w w' : World} {o row : Option Nat} {ps : List (RN × List Value)} (h : RowsX B Z w o ps) (hg : w.grownBy w' row) (hr : ∀ x, row = some x → o ≠ some x → x < B) : RowsX B Z w' o ps := by
  obtain ⟨m, h1, h2, h3, h4⟩ := h
  refine ⟨m, h1, h2, h3, fun j q hq => ?_⟩
  obtain ⟨k1, k2⟩ := h4 j q hq
  refine ⟨k1.kept hg fun x hx e => ?_, k2⟩
  obtain ⟨a1, a2, a3⟩ := k2 x hx
  have := hr x e a3
  have := mono_lt h1 (Nat.zero_le j)
  omega

theorem RowsX.push {B Z Y : Nat} {w : World} {o o' : Option Nat} {ps : List (RN × List Value)} {r : RN} {l : List Value} (h : RowsX B Z w o ps) (hq : RuleX Z w r l) (hb : ∀ x, Blo l x → x < Y) (hZY : Z ≤ Y) (ho : ∀ x, o = some x → x < Z) (ho' : ∀ x, o' = some x → o = some x ∨ Y ≤ x) : RowsX B Y w o' (ps ++ [(r, l)]) := by
  obtain ⟨m, h1, h2, h3, h4⟩ := h
  refine ⟨fun j => if j ≤ ps.length then m j else Y, fun j => ?_, ?_, ?_, fun j q hj => ?_⟩
  · simp only
    split <;> split
    · exact h1 j
    · have := mono_lt h1 (show j ≤ ps.length by assumption); omega
    · omega
    · exact Nat.le_refl _
  · simpa using h2
  · have hl : (ps ++ [(r, l)]).length = ps.length + 1 := by simp
    simp only
    rw [if_neg (by omega)]
    exact Nat.le_refl _
  · have hlt : j < ps.length + 1 := by
      have := (List.getElem?_eq_some_iff.1 hj).1
      simpa using this
    by_cases hjl : j < ps.length
    · rw [List.getElem?_append_left hjl] at hj
      obtain ⟨k1, k2⟩ := h4 j q hj
      simp only [if_pos (show j ≤ ps.length by omega), if_pos (show j + 1 ≤ ps.length by omega)]
      refine ⟨k1, fun x hx => ?_⟩
      obtain ⟨a1, a2, a3⟩ := k2 x hx
      refine ⟨a1, a2, fun e => ?_⟩
      rcases ho' x e with e2 | e2
      · exact a3 e2
      · have := mono_lt h1 (show j + 1 ≤ ps.length by omega); omega
    · have : j = ps.length := by omega
      subst this
      simp at hj
      subst hj
      simp only [if_pos (Nat.le_refl _), if_neg (show ¬ ps.length + 1 ≤ ps.length by omega)]
      refine ⟨hq.mono h3, fun x hx => ?_⟩
      have a := hq.blocks x hx
      have b := hb x hx
      refine ⟨by omega, b, fun e => ?_⟩
      rcases ho' x e with e2 | e2
      · have := ho x e2; omega
      · omega

theorem RowsX.nil {B Z : Nat} {w : World} {o : Option Nat} (h : B ≤ Z) : RowsX B Z w o [] := ⟨fun _ => B, fun _ => Nat.le_refl _, Nat.le_refl _, h, fun j q hq => by simp at hq⟩

theorem RowsX.up {B Z Y : Nat} {w : World} {o : Option Nat} {ps : List (RN × List Value)} (h : RowsX B Z w o ps) (hZ : Z ≤ Y) : RowsX B Y w o ps := by
  obtain ⟨m, h1, h2, h3, h4⟩ := h
  exact ⟨m, h1, h2, Nat.le_trans h3 hZ, h4⟩

theorem RulesX.ext {B : Nat} {w w' : World} {v : Value} {ps : List (RN × List Value)} (h : RulesX B w v ps) (hE : Ext w w') : RulesX B w' v ps :=
  ⟨own_ext h.1 hE, (h.2.kept (row := none) ⟨hE.os, hE.tape, hE.output, hE.size, fun i hi _ => hE.block i hi⟩ fun x hx => by cases hx).up hE.size⟩

theorem RulesX.low {B d : Nat} {w : World} {v : Value} {ps : List (RN × List Value)} (h : RulesX (B + d) w v ps) : RulesX B w v ps := by
  obtain ⟨h1, m, h2, h3, h4, h5⟩ := h
  exact ⟨own_mono h1 (by omega), m, h2, by omega, h4, h5⟩

theorem RulesX.gb {B p : Nat} {w w' : World} {v : Value} {ps : List (RN × List Value)} (h : RulesX B w v ps) (hp : p < B) (hg : GB p w w') : RulesX B w' v ps :=
  ⟨own_gb h.1 hp hg, (h.2.kept hg fun x hx _ => by injection hx with hx; omega).up hg.size⟩

/-- Which of two states. -/
def plcS : Bool → Option Nat → Option Nat → Option Nat
  | true, a, _ => a
  | false, _, b => b

theorem own_row {w w' : World} {B e size n : Nat} {v : Value} {xs : List Value} {row : Option Nat} (h : w.ownsRow B e size v n xs) (hg : w.grownBy w' row) (hr : ∀ x, v.ownBlock = some x → row ≠ some x) : w'.ownsRow B e size v n xs :=
  h.kept hg (by
    cases hv : v.ownBlock with
    | none => exact .inl rfl
    | some x => exact .inr (fun e => hr x hv e.symm))

theorem sNum_mono {G : List Sg} {s : Option Nat} {j : Nat} (h : (sNum G s).2 = some j) : ∃ i, s = some i ∧ i ≤ j := by
  rw [sNum_if] at h
  cases hh : sHas G s
  · rw [hh] at h; simp at h
  · rw [hh] at h
    obtain ⟨i, rfl, hi⟩ := sHas_lt hh
    simp [nx] at h
    exact ⟨i, rfl, by omega⟩

theorem nx_mono {s : Option Nat} {j : Nat} (h : nx s = some j) : ∃ i, s = some i ∧ i ≤ j := by
  cases s with
  | none => simp [nx] at h
  | some i => simp [nx] at h; exact ⟨i, rfl, by omega⟩

theorem sWide_mono {G : List Sg} {s : Option Nat} {j : Nat} (h : (sWide G s).2 = some j) : ∃ i, s = some i ∧ i ≤ j := by
  unfold sWide at h
  split at h
  · obtain ⟨i1, h1, l1⟩ := sNum_mono h
    obtain ⟨i2, h2, l2⟩ := nx_mono h1
    obtain ⟨i3, h3, l3⟩ := sNum_mono h2
    exact ⟨i3, h3, by omega⟩
  · exact sNum_mono h

theorem sMask_mono {G : List Sg} {s : Option Nat} {j : Nat} (h : (sMask G s).2 = some j) : ∃ i, s = some i ∧ i ≤ j := by
  unfold sMask at h
  split at h
  · obtain ⟨i1, h1, l1⟩ := sWide_mono h
    obtain ⟨i2, h2, l2⟩ := nx_mono h1
    exact ⟨i2, h2, by omega⟩
  · exact ⟨j, h, Nat.le_refl _⟩

theorem sWt_mono {G : List Sg} {s : Option Nat} {k : Int} {t : List UInt8} {j : Nat} (h : sWt G s k t = some j) : ∃ i, s = some i ∧ i ≤ j := by
  unfold sWt at h
  split at h
  · exact nx_mono h
  · cases h

theorem sCmp_mono {G : List Sg} {s : Option Nat} {j : Nat} (h : (sCmp G s).2 = some j) : ∃ i, s = some i ∧ i ≤ j := by
  cases s with
  | none => simp [sCmp] at h
  | some i =>
    refine ⟨i, rfl, ?_⟩
    unfold sCmp at h
    simp only at h
    split at h
    · split at h
      · simp at h; omega
      · simp at h; omega
    · simp at h; omega

theorem sCond_mono (G : List Sg) (i j : Nat) (h : (sCond G (some i)).2 = some j) : i ≤ j := by
  unfold sCond at h
  simp only at h
  obtain ⟨i1, h1, l1⟩ := sWide_mono h
  obtain ⟨i2, h2, l2⟩ := sCmp_mono h1
  obtain ⟨i3, h3, l3⟩ := sMask_mono h2
  obtain ⟨i4, h4, l4⟩ := sNum_mono h3
  obtain ⟨i5, h5, l5⟩ := sWt_mono h4
  injection h5 with h5
  omega

set_option maxRecDepth 100000 in
set_option maxHeartbeats 3200000 in
theorem xRule_any {w : World} {p : Nat} {a : Option Addr} {cap : Nat} {G : List Sg} {s : Option Nat} (h : RdS w p a cap G s) :
    Calls Tryz.prog 35 #[.pointer (some ⟨p, 0, none⟩)] w fun e w' => ∃ l, e = .returned (.agg l.toArray) ∧ RuleX w.heap.size w' (sRule G s).1 l ∧ RdS w' p a cap G (sRule G s).2 ∧ GB p w w' := by
  obtain ⟨j0, ji, jz0, jz1, jz2⟩ := info_parts Tryz.infoCd
  have hp := h.lt
  have X0 : Hid (RdS (w.alloc (.cells #[.slice none 0 0, .slice none 0 0, .int .i64 0, .int .i64 0] 53)) p a cap G s ∧ GB p w (w.alloc (.cells #[.slice none 0 0, .slice none 0 0, .int .i64 0, .int .i64 0] 53)) ∧ Kn (w.alloc (.cells #[.slice none 0 0, .slice none 0 0, .int .i64 0, .int .i64 0] 53)) w.heap.size [.slice none 0 0, .slice none 0 0, .int .i64 0, .int .i64 0] 53) := ⟨h.step (Ext.one _ _), gb_ext (Ext.one _ _), Kn.new w _ _⟩
  have H0 : Hid (RdS w p a cap G s ∧ p < w.heap.size) := ⟨h, hp⟩
  clear h hp
  obtain ⟨o, ho⟩ : ∃ o, o = sRule G s := ⟨_, rfl⟩
  rw [← ho]
  have HO : Hid (o = sRule G s) := ho
  clear ho
  have H1 : Hid (∀ {W}, RdS W p a cap G s → Calls Tryz.prog 32 #[.pointer (some ⟨p, 0, none⟩), .int .i64 1, .string ⟨#[111, 110]⟩] W fun e w' => e = .returned (.tuple #[]) ∧ RdS w' p a cap G (sWt G s 1 tOn) ∧ GB p W w') := fun {W} hW => wants_any 1 tOn hW
  go_enter Tryz.func35, Tryz.ntmps35
  go_wp2_with fail
  generalize w.alloc (.cells #[.slice none 0 0, .slice none 0 0, .int .i64 0, .int .i64 0] 53) = W0 at *
  refine (show Calls Tryz.prog 32 _ _ _ from H1.out X0.out.1).mono ?_
  rintro e w1 ⟨rfl, r1, g1⟩
  have X1 : Hid (RdS w1 p a cap G (sWt G s 1 tOn) ∧ GB p w w1 ∧ Kn w1 w.heap.size [.slice none 0 0, .slice none 0 0, .int .i64 0, .int .i64 0] 53) := ⟨r1, gb_trans X0.out.2.1 g1, X0.out.2.2.gb (by have := H0.out.2; omega) g1⟩
  clear r1 g1 H1 X0
  have H2 : Hid (Calls Tryz.prog 77 #[.pointer (some ⟨p, 0, none⟩)] w1 fun e w' => ∃ v, e = .returned v ∧ OwnZ w' w1.heap.size v (sNums G (sWt G s 1 tOn)).1 ∧ RdS w' p a cap G (sNums G (sWt G s 1 tOn)).2 ∧ GB p w1 w') := xNums_any X1.out.1
  obtain ⟨oz, hoz⟩ : ∃ oz, oz = sNums G (sWt G s 1 tOn) := ⟨_, rfl⟩
  rw [← hoz] at H2
  obtain ⟨zs, s2⟩ := oz
  have HZ : Hid (sNums G (sWt G s 1 tOn) = (zs, s2)) := hoz.symm
  clear hoz
  simp only at H2
  go_wp2_with fail
  refine (show Calls Tryz.prog 77 _ _ _ from H2.out).mono ?_
  rintro e w2 ⟨v1, rfl, oz2, r2, g2⟩
  obtain ⟨a1, e1, hv1⟩ := own_slice oz2
  obtain ⟨n1, hn1⟩ : ∃ n1, n1 = zs.length := ⟨_, rfl⟩
  rw [← hn1] at hv1
  subst hv1
  clear hn1
  have hR1 : w.heap.size + 1 ≤ w1.heap.size := X1.out.2.2.lt
  have HQ : Hid (w.heap.size < w2.heap.size ∧ ∀ x, (Value.slice a1 n1 e1).ownBlock = some x → x < w2.heap.size) := ⟨Nat.lt_of_lt_of_le hR1 g2.size, fun x hx => (own_lt9 oz2 hx).2⟩
  have X2 : Hid (RdS (w2.alloc (.cells #[.slice a1 n1 e1, .slice none 0 0, .int .i64 0, .int .i64 0] 53)) p a cap G s2 ∧ GB p w (w2.alloc (.cells #[.slice a1 n1 e1, .slice none 0 0, .int .i64 0, .int .i64 0] 53)) ∧ Kn (w2.alloc (.cells #[.slice a1 n1 e1, .slice none 0 0, .int .i64 0, .int .i64 0] 53)) w.heap.size [.slice none 0 0, .slice none 0 0, .int .i64 0, .int .i64 0] 53 ∧ Kn (w2.alloc (.cells #[.slice a1 n1 e1, .slice none 0 0, .int .i64 0, .int .i64 0] 53)) w2.heap.size [.slice a1 n1 e1, .slice none 0 0, .int .i64 0, .int .i64 0] 53 ∧ OwnZ (w2.alloc (.cells #[.slice a1 n1 e1, .slice none 0 0, .int .i64 0, .int .i64 0] 53)) (w.heap.size + 1) (.slice a1 n1 e1) zs ∧ OwnC (w2.alloc (.cells #[.slice a1 n1 e1, .slice none 0 0, .int .i64 0, .int .i64 0] 53)) (w2.heap.size + 1) (.slice none 0 0) []) :=
    ⟨r2.step (Ext.one _ _), gb_alloc (gb_trans X1.out.2.1 g2) _, (X1.out.2.2.gb (by have := H0.out.2; omega) g2).alloc _, Kn.new w2 _ _, own_ext (own_mono oz2 hR1) (Ext.one _ _), World.ownsRow_nil _ _ _ _⟩
  clear oz2 r2 g2 X1 H2 hR1
  go_wp2_with fail
  generalize (w2.alloc (.cells #[.slice a1 n1 e1, .slice none 0 0, .int .i64 0, .int .i64 0] 53)) = W2 at *
  generalize w2.heap.size = q at *
  have hqp : Hid (q ≠ p ∧ w.heap.size ≠ p ∧ w.heap.size ≤ q ∧ w.heap.size ≠ q ∧ p < w.heap.size + 1 ∧ p < q + 1 ∧ ∀ x, (Value.slice a1 n1 e1).ownBlock = some x → x < q) := ⟨by have := H0.out.2; have := HQ.out.1; omega, by have := H0.out.2; omega, by have := HQ.out.1; omega, by have := HQ.out.1; omega, by have := H0.out.2; omega, by have := H0.out.2; have := HQ.out.1; omega, HQ.out.2⟩
  clear HQ
  have H3 : Hid (Calls Tryz.prog 73 #[.pointer (some ⟨p, 0, none⟩), .int .i64 1, .string ⟨#[105, 102]⟩] W2 fun e w' => e = .returned (.bool (sIs G s2 1 tIf)) ∧ RdS w' p a cap G (sTk G s2 1 tIf) ∧ GB p W2 w') := takes_any 1 tIf X2.out.1
  rw [show sTk G s2 1 tIf = if sIs G s2 1 tIf then nx s2 else s2 from rfl] at H3
  have HCM : Hid (sConds G s2 = if sIs G s2 1 tIf then sAndF (G.length + 1) G [] (nx s2) else ([], s2)) := rfl
  generalize sIs G s2 1 tIf = z at *
  cases z
  · go_wp2_with fail
    refine (show Calls Tryz.prog 73 _ _ _ from H3.out).mono ?_
    rintro e w9 ⟨rfl, r9, g9⟩
    obtain ⟨t, ht⟩ : ∃ t, t = s2 := ⟨_, rfl⟩
    obtain ⟨acc, hacc⟩ : ∃ acc : List CN, acc = [] := ⟨_, rfl⟩
    have HCO : Hid (sConds G s2 = (acc, t)) := by rw [hacc, ht]; exact HCM.out
    obtain ⟨v, hv⟩ : ∃ v, v = Value.slice none 0 0 := ⟨_, rfl⟩
    have X9 : Hid (RdS w9 p a cap G t ∧ GB p w w9 ∧ Kn w9 w.heap.size [.slice none 0 0, .slice none 0 0, .int .i64 0, .int .i64 0] 53 ∧ Kn w9 q [.slice a1 n1 e1, v, .int .i64 0, .int .i64 0] 53 ∧ OwnZ w9 (w.heap.size + 1) (.slice a1 n1 e1) zs ∧ OwnC w9 (q + 1) (v) acc) := by
      rw [hacc, ht, hv]
      exact ⟨r9, gb_trans X2.out.2.1 g9, X2.out.2.2.1.gb hqp.out.2.1 g9, X2.out.2.2.2.1.gb hqp.out.1 g9, own_gb X2.out.2.2.2.2.1 hqp.out.2.2.2.2.1 g9, own_gb X2.out.2.2.2.2.2 hqp.out.2.2.2.2.2.1 g9⟩
    clear r9 g9 X2 H3 HCM ht hacc hv
    obtain ⟨a2, e2, hv2⟩ := own_slice X9.out.2.2.2.2.2
    obtain ⟨n2, hn2⟩ : ∃ n2, n2 = acc.length := ⟨_, rfl⟩
    rw [← hn2] at hv2
    subst hv2
    clear hn2
    have HTW : Hid (∀ {W}, RdS W p a cap G t → Calls Tryz.prog 32 #[.pointer (some ⟨p, 0, none⟩), .int .i64 1, .string ⟨#[100, 111]⟩] W fun e w' => e = .returned (.tuple #[]) ∧ RdS w' p a cap G (sWt G t 1 tDo) ∧ GB p W w') := fun {W} hW => wants_any 1 tDo hW
    obtain ⟨t1, ht1⟩ : ∃ t1, t1 = sWt G t 1 tDo := ⟨_, rfl⟩
    rw [← ht1] at HTW
    have HT1 : Hid (t1 = sWt G t 1 tDo) := ht1
    clear ht1
    go_wp2_with fail
    refine (show Calls Tryz.prog 32 _ _ _ from HTW.out X9.out.1).mono ?_
    rintro e w10 ⟨rfl, r10, g10⟩
    have X10 : Hid (RdS w10 p a cap G t1 ∧ GB p w w10 ∧ Kn w10 w.heap.size [.slice none 0 0, .slice none 0 0, .int .i64 0, .int .i64 0] 53 ∧ Kn w10 q [.slice a1 n1 e1, .slice a2 n2 e2, .int .i64 0, .int .i64 0] 53 ∧ OwnZ w10 (w.heap.size + 1) (.slice a1 n1 e1) zs ∧ OwnC w10 (q + 1) (.slice a2 n2 e2) acc) := ⟨r10, gb_trans X9.out.2.1 g10, X9.out.2.2.1.gb hqp.out.2.1 g10, X9.out.2.2.2.1.gb hqp.out.1 g10, own_gb X9.out.2.2.2.2.1 hqp.out.2.2.2.2.1 g10, own_gb X9.out.2.2.2.2.2 hqp.out.2.2.2.2.2.1 g10⟩
    clear r10 g10 X9 HTW
    have HAC : Hid (Calls Tryz.prog 34 #[.pointer (some ⟨p, 0, none⟩)] w10 fun e w' => e = .returned (pairV (sAct G t1).1) ∧ RdS w' p a cap G (sAct G t1).2 ∧ GB p w10 w') := xAction_any X10.out.1
    generalize hac : sAct G t1 = oa at *
    obtain ⟨⟨ac, da⟩, t2⟩ := oa
    have HA2 : Hid (sAct G t1 = ((ac, da), t2)) := hac
    clear hac
    unfold pairV at HAC
    simp only at HAC
    go_wp2_with fail
    refine (show Calls Tryz.prog 34 _ _ _ from HAC.out).mono ?_
    rintro e w11 ⟨rfl, r11, g11⟩
    have kq : Kn w11 q [.slice a1 n1 e1, .slice a2 n2 e2, .int .i64 0, .int .i64 0] 53 := X10.out.2.2.2.1.gb hqp.out.1 g11
    have X12 : Hid (RdS ((w11.setCell ⟨q, 2, none⟩ (.int .i64 ac)).setCell ⟨q, 3, none⟩ (.int .i64 da)) p a cap G t2 ∧ GB p w ((w11.setCell ⟨q, 2, none⟩ (.int .i64 ac)).setCell ⟨q, 3, none⟩ (.int .i64 da)) ∧ Kn ((w11.setCell ⟨q, 2, none⟩ (.int .i64 ac)).setCell ⟨q, 3, none⟩ (.int .i64 da)) w.heap.size [.slice none 0 0, .slice none 0 0, .int .i64 0, .int .i64 0] 53 ∧ Kn ((w11.setCell ⟨q, 2, none⟩ (.int .i64 ac)).setCell ⟨q, 3, none⟩ (.int .i64 da)) q [.slice a1 n1 e1, .slice a2 n2 e2, .int .i64 ac, .int .i64 da] 53 ∧ OwnZ ((w11.setCell ⟨q, 2, none⟩ (.int .i64 ac)).setCell ⟨q, 3, none⟩ (.int .i64 da)) (w.heap.size + 1) (.slice a1 n1 e1) zs ∧ OwnC ((w11.setCell ⟨q, 2, none⟩ (.int .i64 ac)).setCell ⟨q, 3, none⟩ (.int .i64 da)) (q + 1) (.slice a2 n2 e2) acc) :=
      ⟨H0.out.1.fresh (H0.out.1.fresh r11 hqp.out.2.2.1) hqp.out.2.2.1, gb_fresh (gb_fresh (gb_trans X10.out.2.1 g11) hqp.out.2.2.1) hqp.out.2.2.1, ((X10.out.2.2.1.gb hqp.out.2.1 g11).other hqp.out.2.2.2.1 _ _).other hqp.out.2.2.2.1 _ _, (kq.set 2 _).set 3 _,
        own_set (own_set (own_gb X10.out.2.2.2.2.1 hqp.out.2.2.2.2.1 g11) (fun x hx => by have := hqp.out.2.2.2.2.2.2 x hx; omega)) (fun x hx => by have := hqp.out.2.2.2.2.2.2 x hx; omega),
        own_set (own_set (own_gb X10.out.2.2.2.2.2 hqp.out.2.2.2.2.2.1 g11) (fun x hx => by have := (own_lt9 X10.out.2.2.2.2.2 hx).1; omega)) (fun x hx => by have := (own_lt9 X10.out.2.2.2.2.2 hx).1; omega)⟩
    have f1 := kq.free
    obtain ⟨c0, c1, c2, c3⟩ := (⟨kq.cell 0 _ rfl, kq.cell 1 _ rfl, kq.cell 2 _ rfl, kq.cell 3 _ rfl⟩ : _ ∧ _ ∧ _ ∧ _)
    clear r11 g11 X10 HAC kq
    go_wp2_with fail
    generalize ((w11.setCell ⟨q, 2, none⟩ (.int .i64 ac)).setCell ⟨q, 3, none⟩ (.int .i64 da)) = w12 at *
    clear f1 c0 c1 c2 c3
    have HTW : Hid (Calls Tryz.prog 32 #[.pointer (some ⟨p, 0, none⟩), .int .i64 3, .string ⟨#[59]⟩] w12 fun e w' => e = .returned (.tuple #[]) ∧ RdS w' p a cap G (sWt G t2 3 tSemi) ∧ GB p w12 w') := wants_any 3 tSemi X12.out.1
    obtain ⟨t3, ht3⟩ : ∃ t3, t3 = sWt G t2 3 tSemi := ⟨_, rfl⟩
    rw [← ht3] at HTW
    have HV : Hid (o = (⟨zs, acc, ac, da⟩, t3)) := by
      unfold Hid
      rw [HO.out]
      unfold sRule
      simp only
      rw [HZ.out]
      simp only
      rw [HCO.out]
      simp only
      rw [← HT1.out, HA2.out, ← ht3]
    clear ht3 HT1 HA2
    refine (show Calls Tryz.prog 32 _ _ _ from HTW.out).mono ?_
    rintro e w14 ⟨rfl, r14, g14⟩
    have kq : Kn w14 q [.slice a1 n1 e1, .slice a2 n2 e2, .int .i64 ac, .int .i64 da] 53 := X12.out.2.2.2.1.gb hqp.out.1 g14
    have kr : Kn w14 w.heap.size [.slice none 0 0, .slice none 0 0, .int .i64 0, .int .i64 0] 53 := X12.out.2.2.1.gb hqp.out.2.1 g14
    have X14 : Hid (RdS ((((w14.setCell ⟨w.heap.size, 0, none⟩ (.slice a1 n1 e1)).setCell ⟨w.heap.size, 1, none⟩ (.slice a2 n2 e2)).setCell ⟨w.heap.size, 2, none⟩ (.int .i64 ac)).setCell ⟨w.heap.size, 3, none⟩ (.int .i64 da)) p a cap G t3 ∧ GB p w ((((w14.setCell ⟨w.heap.size, 0, none⟩ (.slice a1 n1 e1)).setCell ⟨w.heap.size, 1, none⟩ (.slice a2 n2 e2)).setCell ⟨w.heap.size, 2, none⟩ (.int .i64 ac)).setCell ⟨w.heap.size, 3, none⟩ (.int .i64 da)) ∧ Kn ((((w14.setCell ⟨w.heap.size, 0, none⟩ (.slice a1 n1 e1)).setCell ⟨w.heap.size, 1, none⟩ (.slice a2 n2 e2)).setCell ⟨w.heap.size, 2, none⟩ (.int .i64 ac)).setCell ⟨w.heap.size, 3, none⟩ (.int .i64 da)) w.heap.size [.slice a1 n1 e1, .slice a2 n2 e2, .int .i64 ac, .int .i64 da] 53 ∧ OwnZ ((((w14.setCell ⟨w.heap.size, 0, none⟩ (.slice a1 n1 e1)).setCell ⟨w.heap.size, 1, none⟩ (.slice a2 n2 e2)).setCell ⟨w.heap.size, 2, none⟩ (.int .i64 ac)).setCell ⟨w.heap.size, 3, none⟩ (.int .i64 da)) (w.heap.size + 1) (.slice a1 n1 e1) zs ∧ OwnC ((((w14.setCell ⟨w.heap.size, 0, none⟩ (.slice a1 n1 e1)).setCell ⟨w.heap.size, 1, none⟩ (.slice a2 n2 e2)).setCell ⟨w.heap.size, 2, none⟩ (.int .i64 ac)).setCell ⟨w.heap.size, 3, none⟩ (.int .i64 da)) (q + 1) (.slice a2 n2 e2) acc) :=
      ⟨(H0.out.1.fresh (H0.out.1.fresh (H0.out.1.fresh (H0.out.1.fresh r14 (Nat.le_refl _)) (Nat.le_refl _)) (Nat.le_refl _)) (Nat.le_refl _)), (gb_fresh (gb_fresh (gb_fresh (gb_fresh (gb_trans X12.out.2.1 g14) (Nat.le_refl _)) (Nat.le_refl _)) (Nat.le_refl _)) (Nat.le_refl _)), (((kr.set 0 _).set 1 _).set 2 _).set 3 _, (own_set (own_set (own_set (own_set (own_gb X12.out.2.2.2.2.1 hqp.out.2.2.2.2.1 g14) (fun x hx => by have := (own_lt9 X12.out.2.2.2.2.1 hx).1; omega)) (fun x hx => by have := (own_lt9 X12.out.2.2.2.2.1 hx).1; omega)) (fun x hx => by have := (own_lt9 X12.out.2.2.2.2.1 hx).1; omega)) (fun x hx => by have := (own_lt9 X12.out.2.2.2.2.1 hx).1; omega)), (own_set (own_set (own_set (own_set (own_gb X12.out.2.2.2.2.2 hqp.out.2.2.2.2.2.1 g14) (fun x hx => by have := (own_lt9 X12.out.2.2.2.2.2 hx).1; have := hqp.out.2.2.1; omega)) (fun x hx => by have := (own_lt9 X12.out.2.2.2.2.2 hx).1; have := hqp.out.2.2.1; omega)) (fun x hx => by have := (own_lt9 X12.out.2.2.2.2.2 hx).1; have := hqp.out.2.2.1; omega)) (fun x hx => by have := (own_lt9 X12.out.2.2.2.2.2 hx).1; have := hqp.out.2.2.1; omega))⟩
    have f1 := kq.free
    obtain ⟨c0, c1, c2, c3⟩ := (⟨kq.cell 0 _ rfl, kq.cell 1 _ rfl, kq.cell 2 _ rfl, kq.cell 3 _ rfl⟩ : _ ∧ _ ∧ _ ∧ _)
    have f2 := kr.free
    obtain ⟨d0, d1, d2, d3⟩ := (⟨kr.cell 0 _ rfl, kr.cell 1 _ rfl, kr.cell 2 _ rfl, kr.cell 3 _ rfl⟩ : _ ∧ _ ∧ _ ∧ _)
    have hne := hqp.out.2.2.2.1
    have hne2 : ¬ q = w.heap.size := fun e => hne e.symm
    clear r14 g14 X12 HTW kq kr
    go_wp2
    generalize ((((w14.setCell ⟨w.heap.size, 0, none⟩ (.slice a1 n1 e1)).setCell ⟨w.heap.size, 1, none⟩ (.slice a2 n2 e2)).setCell ⟨w.heap.size, 2, none⟩ (.int .i64 ac)).setCell ⟨w.heap.size, 3, none⟩ (.int .i64 da)) = w15 at *
    clear f1 c0 c1 c2 c3 f2 d0 d1 d2 d3
    obtain ⟨d0, d1, d2, d3⟩ := (⟨X14.out.2.2.1.cell 0 _ rfl, X14.out.2.2.1.cell 1 _ rfl, X14.out.2.2.1.cell 2 _ rfl, X14.out.2.2.1.cell 3 _ rfl⟩ : _ ∧ _ ∧ _ ∧ _)
    refine bodyPost_ret (v := .agg #[.slice a1 n1 e1, .slice a2 n2 e2, .int .i64 ac, .int .i64 da]) (by simp [results, Tryz.results35, go_sem, *]) rfl ?_
    rw [HV.out]
    exact ⟨[.slice a1 n1 e1, .slice a2 n2 e2, .int .i64 ac, .int .i64 da], rfl, ⟨_, _, q + 1, rfl, own_mono X14.out.2.2.2.1 (by omega), X14.out.2.2.2.2, by have := hqp.out.2.2.1; omega, fun x hx => by have := hqp.out.2.2.2.2.2.2 x hx; omega⟩, X14.out.1, X14.out.2.1⟩
  · have HCM2 : Hid (sConds G s2 = sAndF (G.length + 1) G [] (nx s2)) := HCM.out
    go_wp2_with fail
    refine (show Calls Tryz.prog 73 _ _ _ from H3.out).mono ?_
    rintro e w3 ⟨rfl, r3, g3⟩
    have X3 : Hid (RdS w3 p a cap G (nx s2) ∧ GB p w w3 ∧ Kn w3 w.heap.size [.slice none 0 0, .slice none 0 0, .int .i64 0, .int .i64 0] 53 ∧ Kn w3 q [.slice a1 n1 e1, .slice none 0 0, .int .i64 0, .int .i64 0] 53 ∧ OwnZ w3 (w.heap.size + 1) (.slice a1 n1 e1) zs ∧ OwnC w3 (q + 1) (.slice none 0 0) []) := ⟨r3, gb_trans X2.out.2.1 g3, X2.out.2.2.1.gb hqp.out.2.1 g3, X2.out.2.2.2.1.gb hqp.out.1 g3, own_gb X2.out.2.2.2.2.1 hqp.out.2.2.2.2.1 g3, own_gb X2.out.2.2.2.2.2 hqp.out.2.2.2.2.2.1 g3⟩
    clear r3 g3 X2 H3 HCM
    go_wp2_with fail
    go_loopw [] (fun wr => ∃ (acc : List CN) (t : Option Nat) (f : Nat) (v : Value), Hid ((sConds G s2 = sAndF f G acc t) ∧ (∀ i, t = some i → G.length + 1 ≤ i + f ∧ acc.length ≤ i) ∧ RdS wr p a cap G t ∧ GB p w wr ∧ Kn wr w.heap.size [.slice none 0 0, .slice none 0 0, .int .i64 0, .int .i64 0] 53 ∧ Kn wr q [.slice a1 n1 e1, v, .int .i64 0, .int .i64 0] 53 ∧ OwnZ wr (w.heap.size + 1) (.slice a1 n1 e1) zs ∧ OwnC wr (q + 1) (v) acc)) (fun W => sLeft W p)
    case atStart => exact ⟨[], nx s2, G.length + 1, .slice none 0 0, HCM2.out, fun i _ => ⟨by omega, by simp⟩, X3.out⟩
    case round =>
      obtain ⟨acc, t, f, v, HI⟩ := hrel
      clear X3 HCM2
      cases t with
      | none =>
        obtain ⟨i7, hK, _⟩ := HI.out.2.2.1.lost
        have c2 := hK.cell 2 _ rfl
        have HCO0 : Hid (sConds G s2 = (acc, none)) := by unfold Hid; rw [HI.out.1, sAndF_none]
        have X90 : Hid _ := HI.out.2.2
        clear hK HI
        go_wp2_with fail
        obtain ⟨w9, hw9⟩ : ∃ w9, w9 = wr := ⟨_, rfl⟩
        rw [← hw9] at X90 ⊢
        obtain ⟨t, ht⟩ : ∃ t : Option Nat, t = none := ⟨_, rfl⟩
        rw [← ht] at X90 HCO0
        have X9 : Hid _ := X90.out
        have HCO : Hid (sConds G s2 = (acc, t)) := HCO0.out
        clear X90 HCO0 hw9 ht c2
        obtain ⟨a2, e2, hv2⟩ := own_slice X9.out.2.2.2.2.2
        obtain ⟨n2, hn2⟩ : ∃ n2, n2 = acc.length := ⟨_, rfl⟩
        rw [← hn2] at hv2
        subst hv2
        clear hn2
        have HTW : Hid (∀ {W}, RdS W p a cap G t → Calls Tryz.prog 32 #[.pointer (some ⟨p, 0, none⟩), .int .i64 1, .string ⟨#[100, 111]⟩] W fun e w' => e = .returned (.tuple #[]) ∧ RdS w' p a cap G (sWt G t 1 tDo) ∧ GB p W w') := fun {W} hW => wants_any 1 tDo hW
        obtain ⟨t1, ht1⟩ : ∃ t1, t1 = sWt G t 1 tDo := ⟨_, rfl⟩
        rw [← ht1] at HTW
        have HT1 : Hid (t1 = sWt G t 1 tDo) := ht1
        clear ht1
        go_wp2_with fail
        refine (show Calls Tryz.prog 32 _ _ _ from HTW.out X9.out.1).mono ?_
        rintro e w10 ⟨rfl, r10, g10⟩
        have X10 : Hid (RdS w10 p a cap G t1 ∧ GB p w w10 ∧ Kn w10 w.heap.size [.slice none 0 0, .slice none 0 0, .int .i64 0, .int .i64 0] 53 ∧ Kn w10 q [.slice a1 n1 e1, .slice a2 n2 e2, .int .i64 0, .int .i64 0] 53 ∧ OwnZ w10 (w.heap.size + 1) (.slice a1 n1 e1) zs ∧ OwnC w10 (q + 1) (.slice a2 n2 e2) acc) := ⟨r10, gb_trans X9.out.2.1 g10, X9.out.2.2.1.gb hqp.out.2.1 g10, X9.out.2.2.2.1.gb hqp.out.1 g10, own_gb X9.out.2.2.2.2.1 hqp.out.2.2.2.2.1 g10, own_gb X9.out.2.2.2.2.2 hqp.out.2.2.2.2.2.1 g10⟩
        clear r10 g10 X9 HTW
        have HAC : Hid (Calls Tryz.prog 34 #[.pointer (some ⟨p, 0, none⟩)] w10 fun e w' => e = .returned (pairV (sAct G t1).1) ∧ RdS w' p a cap G (sAct G t1).2 ∧ GB p w10 w') := xAction_any X10.out.1
        generalize hac : sAct G t1 = oa at *
        obtain ⟨⟨ac, da⟩, t2⟩ := oa
        have HA2 : Hid (sAct G t1 = ((ac, da), t2)) := hac
        clear hac
        unfold pairV at HAC
        simp only at HAC
        go_wp2_with fail
        refine (show Calls Tryz.prog 34 _ _ _ from HAC.out).mono ?_
        rintro e w11 ⟨rfl, r11, g11⟩
        have kq : Kn w11 q [.slice a1 n1 e1, .slice a2 n2 e2, .int .i64 0, .int .i64 0] 53 := X10.out.2.2.2.1.gb hqp.out.1 g11
        have X12 : Hid (RdS ((w11.setCell ⟨q, 2, none⟩ (.int .i64 ac)).setCell ⟨q, 3, none⟩ (.int .i64 da)) p a cap G t2 ∧ GB p w ((w11.setCell ⟨q, 2, none⟩ (.int .i64 ac)).setCell ⟨q, 3, none⟩ (.int .i64 da)) ∧ Kn ((w11.setCell ⟨q, 2, none⟩ (.int .i64 ac)).setCell ⟨q, 3, none⟩ (.int .i64 da)) w.heap.size [.slice none 0 0, .slice none 0 0, .int .i64 0, .int .i64 0] 53 ∧ Kn ((w11.setCell ⟨q, 2, none⟩ (.int .i64 ac)).setCell ⟨q, 3, none⟩ (.int .i64 da)) q [.slice a1 n1 e1, .slice a2 n2 e2, .int .i64 ac, .int .i64 da] 53 ∧ OwnZ ((w11.setCell ⟨q, 2, none⟩ (.int .i64 ac)).setCell ⟨q, 3, none⟩ (.int .i64 da)) (w.heap.size + 1) (.slice a1 n1 e1) zs ∧ OwnC ((w11.setCell ⟨q, 2, none⟩ (.int .i64 ac)).setCell ⟨q, 3, none⟩ (.int .i64 da)) (q + 1) (.slice a2 n2 e2) acc) :=
          ⟨H0.out.1.fresh (H0.out.1.fresh r11 hqp.out.2.2.1) hqp.out.2.2.1, gb_fresh (gb_fresh (gb_trans X10.out.2.1 g11) hqp.out.2.2.1) hqp.out.2.2.1, ((X10.out.2.2.1.gb hqp.out.2.1 g11).other hqp.out.2.2.2.1 _ _).other hqp.out.2.2.2.1 _ _, (kq.set 2 _).set 3 _,
            own_set (own_set (own_gb X10.out.2.2.2.2.1 hqp.out.2.2.2.2.1 g11) (fun x hx => by have := hqp.out.2.2.2.2.2.2 x hx; omega)) (fun x hx => by have := hqp.out.2.2.2.2.2.2 x hx; omega),
            own_set (own_set (own_gb X10.out.2.2.2.2.2 hqp.out.2.2.2.2.2.1 g11) (fun x hx => by have := (own_lt9 X10.out.2.2.2.2.2 hx).1; omega)) (fun x hx => by have := (own_lt9 X10.out.2.2.2.2.2 hx).1; omega)⟩
        have f1 := kq.free
        obtain ⟨c0, c1, c2, c3⟩ := (⟨kq.cell 0 _ rfl, kq.cell 1 _ rfl, kq.cell 2 _ rfl, kq.cell 3 _ rfl⟩ : _ ∧ _ ∧ _ ∧ _)
        clear r11 g11 X10 HAC kq
        go_wp2_with fail
        generalize ((w11.setCell ⟨q, 2, none⟩ (.int .i64 ac)).setCell ⟨q, 3, none⟩ (.int .i64 da)) = w12 at *
        clear f1 c0 c1 c2 c3
        have HTW : Hid (Calls Tryz.prog 32 #[.pointer (some ⟨p, 0, none⟩), .int .i64 3, .string ⟨#[59]⟩] w12 fun e w' => e = .returned (.tuple #[]) ∧ RdS w' p a cap G (sWt G t2 3 tSemi) ∧ GB p w12 w') := wants_any 3 tSemi X12.out.1
        obtain ⟨t3, ht3⟩ : ∃ t3, t3 = sWt G t2 3 tSemi := ⟨_, rfl⟩
        rw [← ht3] at HTW
        have HV : Hid (o = (⟨zs, acc, ac, da⟩, t3)) := by
          unfold Hid
          rw [HO.out]
          unfold sRule
          simp only
          rw [HZ.out]
          simp only
          rw [HCO.out]
          simp only
          rw [← HT1.out, HA2.out, ← ht3]
        clear ht3 HT1 HA2
        refine (show Calls Tryz.prog 32 _ _ _ from HTW.out).mono ?_
        rintro e w14 ⟨rfl, r14, g14⟩
        have kq : Kn w14 q [.slice a1 n1 e1, .slice a2 n2 e2, .int .i64 ac, .int .i64 da] 53 := X12.out.2.2.2.1.gb hqp.out.1 g14
        have kr : Kn w14 w.heap.size [.slice none 0 0, .slice none 0 0, .int .i64 0, .int .i64 0] 53 := X12.out.2.2.1.gb hqp.out.2.1 g14
        have X14 : Hid (RdS ((((w14.setCell ⟨w.heap.size, 0, none⟩ (.slice a1 n1 e1)).setCell ⟨w.heap.size, 1, none⟩ (.slice a2 n2 e2)).setCell ⟨w.heap.size, 2, none⟩ (.int .i64 ac)).setCell ⟨w.heap.size, 3, none⟩ (.int .i64 da)) p a cap G t3 ∧ GB p w ((((w14.setCell ⟨w.heap.size, 0, none⟩ (.slice a1 n1 e1)).setCell ⟨w.heap.size, 1, none⟩ (.slice a2 n2 e2)).setCell ⟨w.heap.size, 2, none⟩ (.int .i64 ac)).setCell ⟨w.heap.size, 3, none⟩ (.int .i64 da)) ∧ Kn ((((w14.setCell ⟨w.heap.size, 0, none⟩ (.slice a1 n1 e1)).setCell ⟨w.heap.size, 1, none⟩ (.slice a2 n2 e2)).setCell ⟨w.heap.size, 2, none⟩ (.int .i64 ac)).setCell ⟨w.heap.size, 3, none⟩ (.int .i64 da)) w.heap.size [.slice a1 n1 e1, .slice a2 n2 e2, .int .i64 ac, .int .i64 da] 53 ∧ OwnZ ((((w14.setCell ⟨w.heap.size, 0, none⟩ (.slice a1 n1 e1)).setCell ⟨w.heap.size, 1, none⟩ (.slice a2 n2 e2)).setCell ⟨w.heap.size, 2, none⟩ (.int .i64 ac)).setCell ⟨w.heap.size, 3, none⟩ (.int .i64 da)) (w.heap.size + 1) (.slice a1 n1 e1) zs ∧ OwnC ((((w14.setCell ⟨w.heap.size, 0, none⟩ (.slice a1 n1 e1)).setCell ⟨w.heap.size, 1, none⟩ (.slice a2 n2 e2)).setCell ⟨w.heap.size, 2, none⟩ (.int .i64 ac)).setCell ⟨w.heap.size, 3, none⟩ (.int .i64 da)) (q + 1) (.slice a2 n2 e2) acc) :=
          ⟨(H0.out.1.fresh (H0.out.1.fresh (H0.out.1.fresh (H0.out.1.fresh r14 (Nat.le_refl _)) (Nat.le_refl _)) (Nat.le_refl _)) (Nat.le_refl _)), (gb_fresh (gb_fresh (gb_fresh (gb_fresh (gb_trans X12.out.2.1 g14) (Nat.le_refl _)) (Nat.le_refl _)) (Nat.le_refl _)) (Nat.le_refl _)), (((kr.set 0 _).set 1 _).set 2 _).set 3 _, (own_set (own_set (own_set (own_set (own_gb X12.out.2.2.2.2.1 hqp.out.2.2.2.2.1 g14) (fun x hx => by have := (own_lt9 X12.out.2.2.2.2.1 hx).1; omega)) (fun x hx => by have := (own_lt9 X12.out.2.2.2.2.1 hx).1; omega)) (fun x hx => by have := (own_lt9 X12.out.2.2.2.2.1 hx).1; omega)) (fun x hx => by have := (own_lt9 X12.out.2.2.2.2.1 hx).1; omega)), (own_set (own_set (own_set (own_set (own_gb X12.out.2.2.2.2.2 hqp.out.2.2.2.2.2.1 g14) (fun x hx => by have := (own_lt9 X12.out.2.2.2.2.2 hx).1; have := hqp.out.2.2.1; omega)) (fun x hx => by have := (own_lt9 X12.out.2.2.2.2.2 hx).1; have := hqp.out.2.2.1; omega)) (fun x hx => by have := (own_lt9 X12.out.2.2.2.2.2 hx).1; have := hqp.out.2.2.1; omega)) (fun x hx => by have := (own_lt9 X12.out.2.2.2.2.2 hx).1; have := hqp.out.2.2.1; omega))⟩
        have f1 := kq.free
        obtain ⟨c0, c1, c2, c3⟩ := (⟨kq.cell 0 _ rfl, kq.cell 1 _ rfl, kq.cell 2 _ rfl, kq.cell 3 _ rfl⟩ : _ ∧ _ ∧ _ ∧ _)
        have f2 := kr.free
        obtain ⟨d0, d1, d2, d3⟩ := (⟨kr.cell 0 _ rfl, kr.cell 1 _ rfl, kr.cell 2 _ rfl, kr.cell 3 _ rfl⟩ : _ ∧ _ ∧ _ ∧ _)
        have hne := hqp.out.2.2.2.1
        have hne2 : ¬ q = w.heap.size := fun e => hne e.symm
        clear r14 g14 X12 HTW kq kr
        go_wp2
        generalize ((((w14.setCell ⟨w.heap.size, 0, none⟩ (.slice a1 n1 e1)).setCell ⟨w.heap.size, 1, none⟩ (.slice a2 n2 e2)).setCell ⟨w.heap.size, 2, none⟩ (.int .i64 ac)).setCell ⟨w.heap.size, 3, none⟩ (.int .i64 da)) = w15 at *
        clear f1 c0 c1 c2 c3 f2 d0 d1 d2 d3
        obtain ⟨d0, d1, d2, d3⟩ := (⟨X14.out.2.2.1.cell 0 _ rfl, X14.out.2.2.1.cell 1 _ rfl, X14.out.2.2.1.cell 2 _ rfl, X14.out.2.2.1.cell 3 _ rfl⟩ : _ ∧ _ ∧ _ ∧ _)
        refine bodyPost_ret (v := .agg #[.slice a1 n1 e1, .slice a2 n2 e2, .int .i64 ac, .int .i64 da]) (by simp [results, Tryz.results35, go_sem, *]) rfl ?_
        rw [HV.out]
        exact ⟨[.slice a1 n1 e1, .slice a2 n2 e2, .int .i64 ac, .int .i64 da], rfl, ⟨_, _, q + 1, rfl, own_mono X14.out.2.2.2.1 (by omega), X14.out.2.2.2.2, by have := hqp.out.2.2.1; omega, fun x hx => by have := hqp.out.2.2.2.2.2.2 x hx; omega⟩, X14.out.1, X14.out.2.1⟩
      | some i =>
        have hK := HI.out.2.2.1.at.1
        have c2 := hK.cell 2 _ rfl
        have HF : Hid (1 ≤ f ∧ sAndF f G acc (some i) = if sIs G (sCond G (some i)).2 1 tAnd then sAndF (f - 1) G (acc ++ [(sCond G (some i)).1]) (nx (sCond G (some i)).2) else (acc ++ [(sCond G (some i)).1], (sCond G (some i)).2)) := by
          have h1 := HI.out.2.1 i rfl
          have h2 := HI.out.2.2.1.at.2
          refine ⟨by omega, ?_⟩
          obtain ⟨g, rfl⟩ : ∃ g, f = g + 1 := ⟨f - 1, by omega⟩
          rfl
        have HJ : Hid (∀ j, (sCond G (some i)).2 = some j → i ≤ j) := fun j hj => sCond_mono G i j hj
        have HC : Hid (∀ W, RdS W p a cap G (some i) → Calls Tryz.prog 78 #[.pointer (some ⟨p, 0, none⟩)] W fun e w' => e = .returned (sCond G (some i)).1.v ∧ RdS w' p a cap G (sCond G (some i)).2 ∧ GB p W w') := fun W hW => xCond_any hW
        clear hK
        obtain ⟨qc, hqc⟩ : ∃ qc, qc = sCond G (some i) := ⟨_, rfl⟩
        rw [← hqc] at HF HJ HC
        obtain ⟨⟨ag, mh, ml, cm, vh, vl⟩, t4⟩ := qc
        clear hqc
        simp only [CN.v] at HC
        simp only at HF HJ
        have X7 : Hid (RdS wr p a cap G (some i) ∧ GB p w wr ∧ acc.length ≤ 1200 ∧ p < w.heap.size ∧ (∀ x, v.ownBlock = some x → q + 1 ≤ x ∧ x < wr.heap.size) ∧ q + 1 ≤ wr.heap.size ∧ p < wr.heap.size) := ⟨HI.out.2.2.1, HI.out.2.2.2.1, by have := (HI.out.2.1 i rfl).2; have := HI.out.2.2.1.at.2; omega, H0.out.2, fun x hx => own_lt9 HI.out.2.2.2.2.2.2.2 hx, HI.out.2.2.2.2.2.1.lt, HI.out.2.2.1.lt⟩
        go_wp2_with fail
        refine' wp_region_loosea_tail 7 (.inl _ :: .inl _ :: .inl _ :: .inr (fun vv W => vv = .agg #[.int .i64 ag, .int .i64 mh, .int .i64 ml, .int .i64 cm, .int .i64 vh, .int .i64 vl]) :: .inr (fun vv W => ∃ h : Nat, vv = .slice (some ⟨h, 0, none⟩) 1 1 ∧ wr.heap.size ≤ h ∧ Kn W h [.int .i64 ag, .int .i64 mh, .int .i64 ml, .int .i64 cm, .int .i64 vh, .int .i64 vl] 78) :: .inr (fun vv W => ∃ (g cap' : Nat), vv = .slice (some ⟨g, 0, none⟩) (acc.length + 1) cap' ∧ W.ownsRow (q + 1) 78 6 (.slice (some ⟨g, 0, none⟩) (acc.length + 1) cap') (acc.length + 1) (flatC acc ++ [.int .i64 ag, .int .i64 mh, .int .i64 ml, .int .i64 cm, .int .i64 vh, .int .i64 vl])) :: .inl _ :: []) (CA (fun b1 b2 W => (RdS W p a cap G (plcS b1 t4 (some i)) ∧ GB p w W ∧ Kn W w.heap.size [.slice none 0 0, .slice none 0 0, .int .i64 0, .int .i64 0] 53 ∧ Kn W q [.slice a1 n1 e1, v, .int .i64 0, .int .i64 0] 53 ∧ OwnZ W (w.heap.size + 1) (.slice a1 n1 e1) zs ∧ wr.heap.size ≤ W.heap.size) ∧ (b2 = false → W.ownsRow (q + 1) 78 6 v acc.length (flatC acc))) 3 5) (fun ch W => False) (fun x => True) (fun i W W' => (i = 5 → W.grownBy W' v.ownBlock) ∧ (i ≠ 5 → GB p W W')) (by kernel_rfl) (by kernel_rfl) (⟨⟨X7.out.1.step ⟨rfl, rfl, rfl, Nat.le_refl _, fun _ _ => rfl⟩, gb_drew X7.out.2.1, HI.out.2.2.2.2.1, HI.out.2.2.2.2.2.1, HI.out.2.2.2.2.2.2.1, Nat.le_refl _⟩, fun _ => HI.out.2.2.2.2.2.2.2⟩) ?hIA ?hGA ?hBA (fun i ls w hi h => CA_ne (by intro e; subst e; cases hi) (by intro e; subst e; cases hi) h) ?hAA ?hlA ?hMA
        case' hMA => skip
        simp only [List.take_succ_cons, List.take_zero, List.drop_succ_cons, List.drop_zero]
        apply wpLooseA_val rfl rfl (by decide) (by decide)
        case hs =>
          intro b1 b2 w1 hC hd Q1 hQ1 hP1
          dsimp only [bare]
          have q1 := hC.1.2.2.2.1.cell 1 _ rfl
          clear hd hP1
          have HCC : Hid _ := hC
          clear hC
          go_wp2
          exact ⟨HCC.out, ⟨fun h => by omega, fun _ => gb_refl _ _⟩⟩
        case ha => rfl
        apply wpLooseA_val rfl rfl (by decide) (by decide)
        case hs =>
          intro b1 b2 w1 hC hd Q1 hQ1 hP1
          dsimp only [bare]
          have q1 := hC.1.2.2.2.1.cell 1 _ rfl
          clear hd hP1
          have HCC : Hid _ := hC
          clear hC
          go_wp2
          exact ⟨HCC.out, ⟨fun h => by omega, fun _ => gb_refl _ _⟩⟩
        case ha => rfl
        apply wpLooseA_val rfl rfl (by decide) (by decide)
        case hs =>
          intro b1 b2 w1 hC hd Q1 hQ1 hP1
          dsimp only [bare]
          have q1 := hC.1.2.2.2.1.cell 1 _ rfl
          clear hd hP1
          have HCC : Hid _ := hC
          clear hC
          go_wp2
          exact ⟨HCC.out, ⟨fun h => by omega, fun _ => gb_refl _ _⟩⟩
        case ha => rfl
        refine wpLooseA_s1 rfl rfl (by decide) (by decide) ?_ (fun vA_3 => ?_)
        · intro b2 w1 hC hd Q1 hQ1 hP1
          dsimp only [bare]
          clear hd
          have HCC : Hid _ := hC
          have HQ : Hid _ := hQ1
          clear hC hQ1 hP1
          go_wp2_with fail
          refine (show Calls Tryz.prog 78 _ _ _ from HC.out _ HCC.out.1.1).mono ?_
          rintro e w8 ⟨rfl, r8, g8⟩
          have G8 : Hid (GB p w1 w8 ∧ RdS w8 p a cap G t4) := ⟨g8, r8⟩
          clear g8 r8
          go_wp2_with fail
          obtain ⟨⟨h1, h2, h3, h4, h5, h6⟩, h7⟩ := HCC.out
          exact HQ.out _ _ ⟨⟨⟨G8.out.2, gb_trans h2 G8.out.1, h3.gb hqp.out.2.1 G8.out.1, h4.gb hqp.out.1 G8.out.1, own_gb h5 hqp.out.2.2.2.2.1 G8.out.1, Nat.le_trans h6 G8.out.1.size⟩, fun hb => own_gb (h7 hb) hqp.out.2.2.2.2.2.1 G8.out.1⟩, ⟨fun h => by omega, fun _ => G8.out.1⟩, rfl⟩
        refine wpLooseA_rel rfl rfl (by decide) (by decide) ?_ (fun vA_4 => ?_)
        · intro b1 b2 w1 hC hd Q1 hQ1 hP1
          dsimp only [bare]
          have h3 : vA_3 = .agg #[.int .i64 ag, .int .i64 mh, .int .i64 ml, .int .i64 cm, .int .i64 vh, .int .i64 vl] := hd ⟨3, .data⟩ (by simp) rfl _ rfl (by simp [Act.put])
          clear hd hP1
          subst h3
          have HCC : Hid _ := hC
          have HQ : Hid _ := hQ1
          clear hC hQ1
          go_wp2_with fail
          obtain ⟨⟨h1, h2, h3, h4, h5, h6⟩, h7⟩ := HCC.out
          exact HQ.out _ _ ⟨⟨⟨h1.step (Ext.one _ _), gb_alloc h2 _, h3.alloc _, h4.alloc _, own_ext h5 (Ext.one _ _), by simp; omega⟩, fun hb => own_ext (h7 hb) (Ext.one _ _)⟩, ⟨fun h => by omega, fun _ => gb_ext (Ext.one _ _)⟩, w1.heap.size, rfl, h6, Kn.new _ _ _⟩
        refine wpLooseA_s2 rfl rfl (by decide) (by decide) ?_ (fun vA_5 => ?_)
        · intro b1 w1 hC hd Q1 hQ1 hP1
          dsimp only [bare]
          have h4 : ∃ h : Nat, vA_4 = .slice (some ⟨h, 0, none⟩) 1 1 ∧ wr.heap.size ≤ h ∧ Kn w1 h [.int .i64 ag, .int .i64 mh, .int .i64 ml, .int .i64 cm, .int .i64 vh, .int .i64 vl] 78 := hd ⟨4, .data⟩ (by simp) rfl _ rfl (by simp [Act.put])
          clear hd hP1
          obtain ⟨h, rfl, e3, e4⟩ := h4
          have HCC : Hid _ := hC
          have HQ : Hid _ := hQ1
          have HBK : Hid (Kn w1 h [.int .i64 ag, .int .i64 mh, .int .i64 ml, .int .i64 cm, .int .i64 vh, .int .i64 vl] 78 ∧ q + 1 ≤ w1.heap.size) := ⟨e4, Nat.le_trans X7.out.2.2.2.2.2.1 hC.1.2.2.2.2.2⟩
          have hlen : acc.length ≤ 1200 := X7.out.2.2.1
          clear hC hQ1 e3 e4
          go_wp2_with (at_builtin; refine wpList_append_lies _ rfl _ _ 51 rfl (q + 1) 78 j0 (.agg #[.int .i64 0, .int .i64 0, .int .i64 0, .int .i64 0, .int .i64 0, .int .i64 0]) 6 48 Tryz.underlying51 ji jz0 jz1 jz2 rfl (by decide) _ _ _ rfl (HCC.out.2 rfl) ⟨h, 0, none⟩ 1 1 [.int .i64 ag, .int .i64 mh, .int .i64 ml, .int .i64 cm, .int .i64 vh, .int .i64 vl] rfl rfl ?c1 ?c2 (by omega) ?c3 ?c4 ?c5 w1.heap.size rfl ?_)
          case c1 => exact fun j u hu => HBK.out.1.cell j u hu
          case c2 => simp [Value.oneCell']
          case c3 => unfold maxLen; omega
          case c4 => omega
          case c5 => exact HBK.out.2
          intro g cap' w5 hown5 hgrow5 hat5 hlt5
          obtain ⟨⟨h1, h2, h3, h4, h5, h6⟩, h7⟩ := HCC.out
          have hv1 := X7.out.2.2.2.2.1
          have hrow : ∀ x, v.ownBlock = some x → w.heap.size ≤ x := fun x hx => by have := (hv1 x hx).1; have := hqp.out.2.2.1; omega
          have POST : Hid ((RdS w5 p a cap G (plcS b1 t4 (some i)) ∧ GB p w w5 ∧ Kn w5 w.heap.size [.slice none 0 0, .slice none 0 0, .int .i64 0, .int .i64 0] 53 ∧ Kn w5 q [.slice a1 n1 e1, v, .int .i64 0, .int .i64 0] 53 ∧ OwnZ w5 (w.heap.size + 1) (.slice a1 n1 e1) zs ∧ wr.heap.size ≤ w5.heap.size) ∧ w1.grownBy w5 v.ownBlock ∧ w5.ownsRow (q + 1) 78 6 (.slice (some ⟨g, 0, none⟩) (acc.length + 1) cap') (acc.length + 1) (flatC acc ++ [.int .i64 ag, .int .i64 mh, .int .i64 ml, .int .i64 cm, .int .i64 vh, .int .i64 vl])) := ⟨⟨H0.out.1.row h1 hgrow5 hrow, gb_row h2 hgrow5 hrow, h3.row hgrow5 (fun e => by have := (hv1 _ e).1; have := hqp.out.2.2.1; omega), h4.row hgrow5 (fun e => by have := (hv1 _ e).1; omega), own_row h5 hgrow5 (fun x hx e => by have := hqp.out.2.2.2.2.2.2 x hx; have := (hv1 _ e).1; omega), Nat.le_trans h6 hgrow5.size⟩, hgrow5, hown5⟩
          clear h1 h2 h3 h4 h5 h6 h7 hown5 hgrow5 hat5 hlt5 hv1 hrow
          go_wp2_with fail
          exact HQ.out _ _ ⟨⟨POST.out.1, fun hb => by cases hb⟩, ⟨fun _ => POST.out.2.1, fun h => by omega⟩, g, cap', rfl, POST.out.2.2⟩
        apply wpLooseA_val rfl rfl (by decide) (by decide)
        case hs =>
          intro b1 b2 w1 hC hd Q1 hQ1 hP1
          dsimp only [bare]
          have q1 := hC.1.2.2.2.1.cell 1 _ rfl
          clear hd hP1
          have HCC : Hid _ := hC
          clear hC
          go_wp2
          exact ⟨HCC.out, ⟨fun h => by omega, fun _ => gb_refl _ _⟩⟩
        case ha => rfl
        refine wpLooseA_nil ?_
        intro hJA lsA wA hlsA hCA hFA
        simp only [CA, show lsA.getD 3 false = true from hlsA _ (by decide), show lsA.getD 5 false = true from hlsA _ (by decide)] at hCA
        · obtain ⟨⟨h1, h2, h3, h4, h5, h6⟩, _⟩ := hCA
          obtain ⟨g, cap', rfl, hown⟩ := (hFA 5 _ rfl (by decide) (by simp) : ∃ (g cap' : Nat), vA_5 = .slice (some ⟨g, 0, none⟩) (acc.length + 1) cap' ∧ wA.ownsRow (q + 1) 78 6 (.slice (some ⟨g, 0, none⟩) (acc.length + 1) cap') (acc.length + 1) (flatC acc ++ [.int .i64 ag, .int .i64 mh, .int .i64 ml, .int .i64 cm, .int .i64 vh, .int .i64 vl]))
          have hg := (own_lt9 (x := g) hown rfl).1
          rw [show plcS true t4 (some i) = t4 from rfl] at h1
          have X8 : Hid (RdS (wA.setCell ⟨q, 1, none⟩ (.slice (some ⟨g, 0, none⟩) (acc.length + 1) cap')) p a cap G t4 ∧ GB p w (wA.setCell ⟨q, 1, none⟩ (.slice (some ⟨g, 0, none⟩) (acc.length + 1) cap')) ∧ Kn (wA.setCell ⟨q, 1, none⟩ (.slice (some ⟨g, 0, none⟩) (acc.length + 1) cap')) w.heap.size [.slice none 0 0, .slice none 0 0, .int .i64 0, .int .i64 0] 53 ∧ Kn (wA.setCell ⟨q, 1, none⟩ (.slice (some ⟨g, 0, none⟩) (acc.length + 1) cap')) q [.slice a1 n1 e1, .slice (some ⟨g, 0, none⟩) (acc.length + 1) cap', .int .i64 0, .int .i64 0] 53 ∧ OwnZ (wA.setCell ⟨q, 1, none⟩ (.slice (some ⟨g, 0, none⟩) (acc.length + 1) cap')) (w.heap.size + 1) (.slice a1 n1 e1) zs ∧ OwnC (wA.setCell ⟨q, 1, none⟩ (.slice (some ⟨g, 0, none⟩) (acc.length + 1) cap')) (q + 1) (.slice (some ⟨g, 0, none⟩) (acc.length + 1) cap') (acc ++ [(⟨ag, mh, ml, cm, vh, vl⟩ : CN)])) := by
            refine ⟨H0.out.1.fresh h1 hqp.out.2.2.1, gb_fresh h2 hqp.out.2.2.1, h3.other hqp.out.2.2.2.1 _ _, h4.set 1 _, own_set h5 (fun x hx => by have := hqp.out.2.2.2.2.2.2 x hx; omega), ?_⟩
            have := own_set (q := q) (k := 1) (u := .slice (some ⟨g, 0, none⟩) (acc.length + 1) cap') hown (fun x hx => by simp [Value.ownBlock] at hx; omega)
            have e := flatC_push acc (⟨ag, mh, ml, cm, vh, vl⟩ : CN)
            simp only [CN.l] at e
            rw [e] at this
            unfold OwnC
            rw [List.length_append]
            exact this
          have q1 := h4.cell 1 _ rfl
          have f3 := h4.free
          clear h1 h2 h3 h4 h5 h6 hown hFA
          go_wp2_with fail
          generalize wA.setCell ⟨q, 1, none⟩ (.slice (some ⟨g, 0, none⟩) (acc.length + 1) cap') = w8 at *
          clear q1 f3
          have HT : Hid (Calls Tryz.prog 73 #[.pointer (some ⟨p, 0, none⟩), .int .i64 1, .string ⟨#[97, 110, 100]⟩] w8 fun e w' => e = .returned (.bool (sIs G t4 1 tAnd)) ∧ RdS w' p a cap G (sTk G t4 1 tAnd) ∧ GB p w8 w') := takes_any 1 tAnd X8.out.1
          rw [show sTk G t4 1 tAnd = if sIs G t4 1 tAnd then nx t4 else t4 from rfl] at HT
          obtain ⟨nn, hnn⟩ : ∃ nn, nn = acc.length + 1 := ⟨_, rfl⟩
          rw [← hnn] at X8
          clear hnn
          generalize hz : sIs G t4 1 tAnd = z at *
          cases z
          · go_wp2_with fail
            refine (show Calls Tryz.prog 73 _ _ _ from HT.out).mono ?_
            rintro e w9 ⟨rfl, r9, g9⟩
            obtain ⟨t, ht⟩ : ∃ t, t = t4 := ⟨_, rfl⟩
            have HCO0 : Hid (sConds G s2 = (acc ++ [(⟨ag, mh, ml, cm, vh, vl⟩ : CN)], t)) := by
              unfold Hid
              rw [HI.out.1, HF.out.2, ht]
              rfl
            obtain ⟨v', hv'⟩ : ∃ v', v' = Value.slice (some ⟨g, 0, none⟩) nn cap' := ⟨_, rfl⟩
            have X90 : Hid (RdS w9 p a cap G t ∧ GB p w w9 ∧ Kn w9 w.heap.size [.slice none 0 0, .slice none 0 0, .int .i64 0, .int .i64 0] 53 ∧ Kn w9 q [.slice a1 n1 e1, v', .int .i64 0, .int .i64 0] 53 ∧ OwnZ w9 (w.heap.size + 1) (.slice a1 n1 e1) zs ∧ OwnC w9 (q + 1) (v') (acc ++ [(⟨ag, mh, ml, cm, vh, vl⟩ : CN)])) := by
              rw [ht, hv']
              exact ⟨r9, gb_trans X8.out.2.1 g9, X8.out.2.2.1.gb hqp.out.2.1 g9, X8.out.2.2.2.1.gb hqp.out.1 g9, own_gb X8.out.2.2.2.2.1 hqp.out.2.2.2.2.1 g9, own_gb X8.out.2.2.2.2.2 hqp.out.2.2.2.2.2.1 g9⟩
            clear r9 g9 X8 HT HI X7 HF HJ HC ht hz hv'
            generalize acc ++ [(⟨ag, mh, ml, cm, vh, vl⟩ : CN)] = acc' at *
            have X9 : Hid _ := X90.out
            have HCO : Hid _ := HCO0.out
            clear X90 HCO0
            obtain ⟨a2, e2, hv2⟩ := own_slice X9.out.2.2.2.2.2
            obtain ⟨n2, hn2⟩ : ∃ n2, n2 = acc'.length := ⟨_, rfl⟩
            rw [← hn2] at hv2
            subst hv2
            clear hn2
            have HTW : Hid (∀ {W}, RdS W p a cap G t → Calls Tryz.prog 32 #[.pointer (some ⟨p, 0, none⟩), .int .i64 1, .string ⟨#[100, 111]⟩] W fun e w' => e = .returned (.tuple #[]) ∧ RdS w' p a cap G (sWt G t 1 tDo) ∧ GB p W w') := fun {W} hW => wants_any 1 tDo hW
            obtain ⟨t1, ht1⟩ : ∃ t1, t1 = sWt G t 1 tDo := ⟨_, rfl⟩
            rw [← ht1] at HTW
            have HT1 : Hid (t1 = sWt G t 1 tDo) := ht1
            clear ht1
            go_wp2_with fail
            refine (show Calls Tryz.prog 32 _ _ _ from HTW.out X9.out.1).mono ?_
            rintro e w10 ⟨rfl, r10, g10⟩
            have X10 : Hid (RdS w10 p a cap G t1 ∧ GB p w w10 ∧ Kn w10 w.heap.size [.slice none 0 0, .slice none 0 0, .int .i64 0, .int .i64 0] 53 ∧ Kn w10 q [.slice a1 n1 e1, .slice a2 n2 e2, .int .i64 0, .int .i64 0] 53 ∧ OwnZ w10 (w.heap.size + 1) (.slice a1 n1 e1) zs ∧ OwnC w10 (q + 1) (.slice a2 n2 e2) acc') := ⟨r10, gb_trans X9.out.2.1 g10, X9.out.2.2.1.gb hqp.out.2.1 g10, X9.out.2.2.2.1.gb hqp.out.1 g10, own_gb X9.out.2.2.2.2.1 hqp.out.2.2.2.2.1 g10, own_gb X9.out.2.2.2.2.2 hqp.out.2.2.2.2.2.1 g10⟩
            clear r10 g10 X9 HTW
            have HAC : Hid (Calls Tryz.prog 34 #[.pointer (some ⟨p, 0, none⟩)] w10 fun e w' => e = .returned (pairV (sAct G t1).1) ∧ RdS w' p a cap G (sAct G t1).2 ∧ GB p w10 w') := xAction_any X10.out.1
            generalize hac : sAct G t1 = oa at *
            obtain ⟨⟨ac, da⟩, t2⟩ := oa
            have HA2 : Hid (sAct G t1 = ((ac, da), t2)) := hac
            clear hac
            unfold pairV at HAC
            simp only at HAC
            go_wp2_with fail
            refine (show Calls Tryz.prog 34 _ _ _ from HAC.out).mono ?_
            rintro e w11 ⟨rfl, r11, g11⟩
            have kq : Kn w11 q [.slice a1 n1 e1, .slice a2 n2 e2, .int .i64 0, .int .i64 0] 53 := X10.out.2.2.2.1.gb hqp.out.1 g11
            have X12 : Hid (RdS ((w11.setCell ⟨q, 2, none⟩ (.int .i64 ac)).setCell ⟨q, 3, none⟩ (.int .i64 da)) p a cap G t2 ∧ GB p w ((w11.setCell ⟨q, 2, none⟩ (.int .i64 ac)).setCell ⟨q, 3, none⟩ (.int .i64 da)) ∧ Kn ((w11.setCell ⟨q, 2, none⟩ (.int .i64 ac)).setCell ⟨q, 3, none⟩ (.int .i64 da)) w.heap.size [.slice none 0 0, .slice none 0 0, .int .i64 0, .int .i64 0] 53 ∧ Kn ((w11.setCell ⟨q, 2, none⟩ (.int .i64 ac)).setCell ⟨q, 3, none⟩ (.int .i64 da)) q [.slice a1 n1 e1, .slice a2 n2 e2, .int .i64 ac, .int .i64 da] 53 ∧ OwnZ ((w11.setCell ⟨q, 2, none⟩ (.int .i64 ac)).setCell ⟨q, 3, none⟩ (.int .i64 da)) (w.heap.size + 1) (.slice a1 n1 e1) zs ∧ OwnC ((w11.setCell ⟨q, 2, none⟩ (.int .i64 ac)).setCell ⟨q, 3, none⟩ (.int .i64 da)) (q + 1) (.slice a2 n2 e2) acc') :=
              ⟨H0.out.1.fresh (H0.out.1.fresh r11 hqp.out.2.2.1) hqp.out.2.2.1, gb_fresh (gb_fresh (gb_trans X10.out.2.1 g11) hqp.out.2.2.1) hqp.out.2.2.1, ((X10.out.2.2.1.gb hqp.out.2.1 g11).other hqp.out.2.2.2.1 _ _).other hqp.out.2.2.2.1 _ _, (kq.set 2 _).set 3 _,
                own_set (own_set (own_gb X10.out.2.2.2.2.1 hqp.out.2.2.2.2.1 g11) (fun x hx => by have := hqp.out.2.2.2.2.2.2 x hx; omega)) (fun x hx => by have := hqp.out.2.2.2.2.2.2 x hx; omega),
                own_set (own_set (own_gb X10.out.2.2.2.2.2 hqp.out.2.2.2.2.2.1 g11) (fun x hx => by have := (own_lt9 X10.out.2.2.2.2.2 hx).1; omega)) (fun x hx => by have := (own_lt9 X10.out.2.2.2.2.2 hx).1; omega)⟩
            have f1 := kq.free
            obtain ⟨c0, c1, c2, c3⟩ := (⟨kq.cell 0 _ rfl, kq.cell 1 _ rfl, kq.cell 2 _ rfl, kq.cell 3 _ rfl⟩ : _ ∧ _ ∧ _ ∧ _)
            clear r11 g11 X10 HAC kq
            go_wp2_with fail
            generalize ((w11.setCell ⟨q, 2, none⟩ (.int .i64 ac)).setCell ⟨q, 3, none⟩ (.int .i64 da)) = w12 at *
            clear f1 c0 c1 c2 c3
            have HTW : Hid (Calls Tryz.prog 32 #[.pointer (some ⟨p, 0, none⟩), .int .i64 3, .string ⟨#[59]⟩] w12 fun e w' => e = .returned (.tuple #[]) ∧ RdS w' p a cap G (sWt G t2 3 tSemi) ∧ GB p w12 w') := wants_any 3 tSemi X12.out.1
            obtain ⟨t3, ht3⟩ : ∃ t3, t3 = sWt G t2 3 tSemi := ⟨_, rfl⟩
            rw [← ht3] at HTW
            have HV : Hid (o = (⟨zs, acc', ac, da⟩, t3)) := by
              unfold Hid
              rw [HO.out]
              unfold sRule
              simp only
              rw [HZ.out]
              simp only
              rw [HCO.out]
              simp only
              rw [← HT1.out, HA2.out, ← ht3]
            clear ht3 HT1 HA2
            refine (show Calls Tryz.prog 32 _ _ _ from HTW.out).mono ?_
            rintro e w14 ⟨rfl, r14, g14⟩
            have kq : Kn w14 q [.slice a1 n1 e1, .slice a2 n2 e2, .int .i64 ac, .int .i64 da] 53 := X12.out.2.2.2.1.gb hqp.out.1 g14
            have kr : Kn w14 w.heap.size [.slice none 0 0, .slice none 0 0, .int .i64 0, .int .i64 0] 53 := X12.out.2.2.1.gb hqp.out.2.1 g14
            have X14 : Hid (RdS ((((w14.setCell ⟨w.heap.size, 0, none⟩ (.slice a1 n1 e1)).setCell ⟨w.heap.size, 1, none⟩ (.slice a2 n2 e2)).setCell ⟨w.heap.size, 2, none⟩ (.int .i64 ac)).setCell ⟨w.heap.size, 3, none⟩ (.int .i64 da)) p a cap G t3 ∧ GB p w ((((w14.setCell ⟨w.heap.size, 0, none⟩ (.slice a1 n1 e1)).setCell ⟨w.heap.size, 1, none⟩ (.slice a2 n2 e2)).setCell ⟨w.heap.size, 2, none⟩ (.int .i64 ac)).setCell ⟨w.heap.size, 3, none⟩ (.int .i64 da)) ∧ Kn ((((w14.setCell ⟨w.heap.size, 0, none⟩ (.slice a1 n1 e1)).setCell ⟨w.heap.size, 1, none⟩ (.slice a2 n2 e2)).setCell ⟨w.heap.size, 2, none⟩ (.int .i64 ac)).setCell ⟨w.heap.size, 3, none⟩ (.int .i64 da)) w.heap.size [.slice a1 n1 e1, .slice a2 n2 e2, .int .i64 ac, .int .i64 da] 53 ∧ OwnZ ((((w14.setCell ⟨w.heap.size, 0, none⟩ (.slice a1 n1 e1)).setCell ⟨w.heap.size, 1, none⟩ (.slice a2 n2 e2)).setCell ⟨w.heap.size, 2, none⟩ (.int .i64 ac)).setCell ⟨w.heap.size, 3, none⟩ (.int .i64 da)) (w.heap.size + 1) (.slice a1 n1 e1) zs ∧ OwnC ((((w14.setCell ⟨w.heap.size, 0, none⟩ (.slice a1 n1 e1)).setCell ⟨w.heap.size, 1, none⟩ (.slice a2 n2 e2)).setCell ⟨w.heap.size, 2, none⟩ (.int .i64 ac)).setCell ⟨w.heap.size, 3, none⟩ (.int .i64 da)) (q + 1) (.slice a2 n2 e2) acc') :=
              ⟨(H0.out.1.fresh (H0.out.1.fresh (H0.out.1.fresh (H0.out.1.fresh r14 (Nat.le_refl _)) (Nat.le_refl _)) (Nat.le_refl _)) (Nat.le_refl _)), (gb_fresh (gb_fresh (gb_fresh (gb_fresh (gb_trans X12.out.2.1 g14) (Nat.le_refl _)) (Nat.le_refl _)) (Nat.le_refl _)) (Nat.le_refl _)), (((kr.set 0 _).set 1 _).set 2 _).set 3 _, (own_set (own_set (own_set (own_set (own_gb X12.out.2.2.2.2.1 hqp.out.2.2.2.2.1 g14) (fun x hx => by have := (own_lt9 X12.out.2.2.2.2.1 hx).1; omega)) (fun x hx => by have := (own_lt9 X12.out.2.2.2.2.1 hx).1; omega)) (fun x hx => by have := (own_lt9 X12.out.2.2.2.2.1 hx).1; omega)) (fun x hx => by have := (own_lt9 X12.out.2.2.2.2.1 hx).1; omega)), (own_set (own_set (own_set (own_set (own_gb X12.out.2.2.2.2.2 hqp.out.2.2.2.2.2.1 g14) (fun x hx => by have := (own_lt9 X12.out.2.2.2.2.2 hx).1; have := hqp.out.2.2.1; omega)) (fun x hx => by have := (own_lt9 X12.out.2.2.2.2.2 hx).1; have := hqp.out.2.2.1; omega)) (fun x hx => by have := (own_lt9 X12.out.2.2.2.2.2 hx).1; have := hqp.out.2.2.1; omega)) (fun x hx => by have := (own_lt9 X12.out.2.2.2.2.2 hx).1; have := hqp.out.2.2.1; omega))⟩
            have f1 := kq.free
            obtain ⟨c0, c1, c2, c3⟩ := (⟨kq.cell 0 _ rfl, kq.cell 1 _ rfl, kq.cell 2 _ rfl, kq.cell 3 _ rfl⟩ : _ ∧ _ ∧ _ ∧ _)
            have f2 := kr.free
            obtain ⟨d0, d1, d2, d3⟩ := (⟨kr.cell 0 _ rfl, kr.cell 1 _ rfl, kr.cell 2 _ rfl, kr.cell 3 _ rfl⟩ : _ ∧ _ ∧ _ ∧ _)
            have hne := hqp.out.2.2.2.1
            have hne2 : ¬ q = w.heap.size := fun e => hne e.symm
            clear r14 g14 X12 HTW kq kr
            go_wp2
            generalize ((((w14.setCell ⟨w.heap.size, 0, none⟩ (.slice a1 n1 e1)).setCell ⟨w.heap.size, 1, none⟩ (.slice a2 n2 e2)).setCell ⟨w.heap.size, 2, none⟩ (.int .i64 ac)).setCell ⟨w.heap.size, 3, none⟩ (.int .i64 da)) = w15 at *
            clear f1 c0 c1 c2 c3 f2 d0 d1 d2 d3
            obtain ⟨d0, d1, d2, d3⟩ := (⟨X14.out.2.2.1.cell 0 _ rfl, X14.out.2.2.1.cell 1 _ rfl, X14.out.2.2.1.cell 2 _ rfl, X14.out.2.2.1.cell 3 _ rfl⟩ : _ ∧ _ ∧ _ ∧ _)
            refine bodyPost_ret (v := .agg #[.slice a1 n1 e1, .slice a2 n2 e2, .int .i64 ac, .int .i64 da]) (by simp [results, Tryz.results35, go_sem, *]) rfl ?_
            rw [HV.out]
            exact ⟨[.slice a1 n1 e1, .slice a2 n2 e2, .int .i64 ac, .int .i64 da], rfl, ⟨_, _, q + 1, rfl, own_mono X14.out.2.2.2.1 (by omega), X14.out.2.2.2.2, by have := hqp.out.2.2.1; omega, fun x hx => by have := hqp.out.2.2.2.2.2.2 x hx; omega⟩, X14.out.1, X14.out.2.1⟩
          · obtain ⟨j, rfl, hj⟩ := sIs_lt hz
            have hij := HJ.out j rfl
            have HO2 : Hid (sConds G s2 = sAndF (f - 1) G (acc ++ [(⟨ag, mh, ml, cm, vh, vl⟩ : CN)]) (some (j + 1)) ∧ G.length + 1 ≤ j + 1 + (f - 1) ∧ (acc ++ [(⟨ag, mh, ml, cm, vh, vl⟩ : CN)]).length ≤ j + 1 ∧ sLeft wr p = 1301 - i ∧ i ≤ j ∧ j < 1300) := by
              have h1 := HI.out.2.1 i rfl
              have h2 := HF.out.1
              have h3 := HI.out.2.2.1.left
              have h4 := X8.out.1.at.2
              refine ⟨?_, by omega, by simp; omega, h3, hij, by omega⟩
              rw [HI.out.1, HF.out.2]
              rfl
            clear HI hz X7 HF HJ HC
            go_wp2_with fail
            refine (show Calls Tryz.prog 73 _ _ _ from HT.out).mono ?_
            rintro e w9 ⟨rfl, r9, g9⟩
            have X9 : Hid (RdS w9 p a cap G (some (j + 1)) ∧ GB p w w9 ∧ Kn w9 w.heap.size [.slice none 0 0, .slice none 0 0, .int .i64 0, .int .i64 0] 53 ∧ Kn w9 q [.slice a1 n1 e1, (.slice (some ⟨g, 0, none⟩) nn cap'), .int .i64 0, .int .i64 0] 53 ∧ OwnZ w9 (w.heap.size + 1) (.slice a1 n1 e1) zs ∧ OwnC w9 (q + 1) ((.slice (some ⟨g, 0, none⟩) nn cap')) (acc ++ [(⟨ag, mh, ml, cm, vh, vl⟩ : CN)])) := ⟨r9, gb_trans X8.out.2.1 g9, X8.out.2.2.1.gb hqp.out.2.1 g9, X8.out.2.2.2.1.gb hqp.out.1 g9, own_gb X8.out.2.2.2.2.1 hqp.out.2.2.2.2.1 g9, own_gb X8.out.2.2.2.2.2 hqp.out.2.2.2.2.2.1 g9⟩
            clear r9 g9 X8 HT
            go_wp2
            go_roundw
            case rel => exact ⟨_, some (j + 1), f - 1, _, HO2.out.1, (fun k hk => by injection hk with hk; subst hk; exact ⟨HO2.out.2.1, HO2.out.2.2.1⟩), X9.out⟩
            case measure =>
              have h1 := X9.out.1.left
              have h2 := HO2.out.2.2.2
              rw [h1, h2.1]
              simp only [stLeft]
              omega
        case hIA => trivial
        case hGA => intros; trivial
        case hBA => intro b ch w10 _ hD; exact hD.elim
        case hAA => kernel_rfl
        case hlA => exact ⟨trivial, trivial, trivial, fun i hi vv W W' h hT => h, fun i hi vv W W' ⟨h, e2, e4, e5⟩ hT => ⟨h, e2, e4, by by_cases h5 : i = 5; exact e5.row (hT.1 h5) (fun e => by have := (X7.out.2.2.2.2.1 _ e).2; omega); exact e5.row (hT.2 h5) (fun e => by have := X7.out.2.2.2.2.2.2; injection e with e; omega)⟩, fun i hi vv W W' ⟨g, cap', e2, e3⟩ hT => ⟨g, cap', e2, own_gb e3 hqp.out.2.2.2.2.2.1 (hT.2 hi)⟩, trivial, trivial⟩

def GotP (o : Option PN) (B : Nat) (e : Ending) (w' : World) : Prop :=
  match o with
  | some pol => ∃ v ps, e = .returned (.tuple #[.agg #[.int .i64 pol.arch, .int .i64 pol.act, .int .i64 pol.data, v], .bool true]) ∧ pol.rules = ps.map (·.1) ∧ RulesX B w' v ps
  | none => e = .returned (.tuple #[.agg #[.int .i64 0, .int .i64 0, .int .i64 0, .slice none 0 0], .bool false])

theorem gotP_some {o : Option PN} {B : Nat} {e : Ending} {w' : World} {pol : PN} {v : Value} {ps : List (RN × List Value)} (h : o = some pol) (he : e = .returned (.tuple #[.agg #[.int .i64 pol.arch, .int .i64 pol.act, .int .i64 pol.data, v], .bool true])) (hr : pol.rules = ps.map (·.1)) (hx : RulesX B w' v ps) : GotP o B e w' := by
  subst h; exact ⟨v, ps, he, hr, hx⟩

theorem gotP_none {o : Option PN} {B : Nat} {e : Ending} {w' : World} (h : o = none) (he : e = .returned (.tuple #[.agg #[.int .i64 0, .int .i64 0, .int .i64 0, .slice none 0 0], .bool false])) : GotP o B e w' := by
  subst h; exact he

theorem mkf (fn : Fn) (first cap : Array Value) (w : World) : (Instr.makeFunc fn first cap).run Tryz.prog w = .ok (.func fn first cap) w := rfl

set_option maxRecDepth 100000 in
set_option maxHeartbeats 1600000 in
theorem rpolicy_any {w : World} {p : Nat} {a : Option Addr} {cap : Nat} {G : List Sg} (h : RdI w p a cap G 0) (hG : Good G) (hp0 : p ≠ 0) (hC : Cms w) :
    Calls Tryz.prog 27 #[.pointer (some ⟨p, 0, none⟩)] w fun e w' => GotP (rPolicy G) w.heap.size e w' ∧ GB p w w' := by
  have hmf := mkf
  obtain ⟨j0, ji, jz0, jz1, jz2⟩ := info_parts Tryz.infoRl
  have hp := h.lt
  have X0 : Hid (RdI ((w.alloc (.cells #[.int .i64 0, .int .i64 0, .int .i64 0, .slice none 0 0] 26)).alloc (.cells #[.bool false] 4)) p a cap G 0 ∧ GB p w ((w.alloc (.cells #[.int .i64 0, .int .i64 0, .int .i64 0, .slice none 0 0] 26)).alloc (.cells #[.bool false] 4)) ∧ Kn ((w.alloc (.cells #[.int .i64 0, .int .i64 0, .int .i64 0, .slice none 0 0] 26)).alloc (.cells #[.bool false] 4)) w.heap.size [.int .i64 0, .int .i64 0, .int .i64 0, .slice none 0 0] 26 ∧ Kn ((w.alloc (.cells #[.int .i64 0, .int .i64 0, .int .i64 0, .slice none 0 0] 26)).alloc (.cells #[.bool false] 4)) (w.heap.size + 1) [.bool false] 4) :=
    ⟨(h.step (Ext.one _ _)).step (Ext.one _ _), gb_alloc (gb_ext (Ext.one _ _)) _, (Kn.new w _ _).alloc _, Kn.new' _ _ _ _ (by simp)⟩
  have H0 : Hid (RdI w p a cap G 0 ∧ p < w.heap.size ∧ (∀ W, GB p w W → Cms W) ∧ Good G ∧ p ≠ 0) := ⟨h, hp, fun W hG => hC.gb hp0 hG, hG, hp0⟩
  clear h hp hC hp0 hG
  go_enter_defers Tryz.func27, Tryz.ntmps27
  go_wp2_with fail
  generalize (w.alloc (.cells #[.int .i64 0, .int .i64 0, .int .i64 0, .slice none 0 0] 26)).alloc (.cells #[.bool false] 4) = W0 at *
  cases e0 : rPass G 0 tArch with
  | none =>
    refine (show Calls Tryz.prog 62 #[.pointer (some ⟨p, 0, none⟩), .string ⟨#[97, 114, 99, 104]⟩] _ _ from mp_none (by decide) e0 X0.out.1).mono ?_
    rintro e w1 ⟨rfl, g1⟩
    have F1 : Hid (GB p w w1 ∧ Kn w1 w.heap.size [.int .i64 0, .int .i64 0, .int .i64 0, .slice none 0 0] 26 ∧ Kn w1 (w.heap.size + 1) [.bool false] 4) := ⟨gb_trans X0.out.2.1 g1, X0.out.2.2.1.gb (by have := H0.out.2.1; omega) g1, X0.out.2.2.2.gb (by have := H0.out.2.1; omega) g1⟩
    have HN : Hid (rPolicy G = none) := by unfold Hid rPolicy rHead; rw [e0]
    clear g1 X0
    go_wp2
    refine leaves_cons (f := 61) (args := #[.pointer (some ⟨w.heap.size, 0, none⟩), .pointer (some ⟨w.heap.size + 1, 0, none⟩)]) (by simp) (by simp [go_sem]) ?_
    refine (catch_wrong w.heap.size (w.heap.size + 1) [.int .i64 0, .int .i64 0, .int .i64 0, .slice none 0 0] false [] w1 rfl F1.out.2.1 F1.out.2.2 (by omega)).mono ?_
    rintro e u w9 ⟨rfl, rfl, k1, k2, hgb⟩
    have G9 : Hid (GB p w w9) := hgb p w F1.out.1 (Nat.le_refl _) (by omega)
    obtain ⟨c0, c1, c2, c3, d0⟩ := (⟨k1.cell 0 _ rfl, k1.cell 1 _ rfl, k1.cell 2 _ rfl, k1.cell 3 _ rfl, k2.cell 0 _ rfl⟩ : _ ∧ _ ∧ _ ∧ _ ∧ _)
    have POST : Hid (GotP (rPolicy G) w.heap.size (.returned (.tuple #[.agg #[.int .i64 0, .int .i64 0, .int .i64 0, .slice none 0 0], .bool false])) w9 ∧ GB p w w9) := ⟨gotP_none HN.out rfl, G9.out⟩
    clear k1 k2 hgb F1
    simp [Leaves, settle, results, Tryz.results27, go_sem, *]
    exact POST.out
  | some i1 =>
    have E0 : Hid (rPass G 0 tArch = some i1) := e0
    refine (show Calls Tryz.prog 62 #[.pointer (some ⟨p, 0, none⟩), .string ⟨#[97, 114, 99, 104]⟩] _ _ from mp_some (by decide) e0 X0.out.1).mono ?_
    rintro e w1 ⟨⟨rfl, r1⟩, g1⟩
    have X1 : Hid (RdI w1 p a cap G i1 ∧ GB p w w1 ∧ Kn w1 w.heap.size [.int .i64 0, .int .i64 0, .int .i64 0, .slice none 0 0] 26 ∧ Kn w1 (w.heap.size + 1) [.bool false] 4) := ⟨r1, gb_trans X0.out.2.1 g1, X0.out.2.2.1.gb (by have := H0.out.2.1; omega) g1, X0.out.2.2.2.gb (by have := H0.out.2.1; omega) g1⟩
    clear r1 g1 X0 e0
    go_wp2_with fail
    cases e1 : rNum G i1 with
    | none =>
      refine (show Calls Tryz.prog 63 _ _ _ from fails_of (val := intV) e1 (rnumber_got X1.out.1)).mono ?_
      rintro e w2 ⟨rfl, g2⟩
      have F2 : Hid (GB p w w2 ∧ Kn w2 w.heap.size [.int .i64 0, .int .i64 0, .int .i64 0, .slice none 0 0] 26 ∧ Kn w2 (w.heap.size + 1) [.bool false] 4) := ⟨gb_trans X1.out.2.1 g2, X1.out.2.2.1.gb (by have := H0.out.2.1; omega) g2, X1.out.2.2.2.gb (by have := H0.out.2.1; omega) g2⟩
      have HN : Hid (rPolicy G = none) := by unfold Hid rPolicy rHead; rw [E0.out]; simp only; rw [e1]
      clear g2 X1
      go_wp2
      refine leaves_cons (f := 61) (args := #[.pointer (some ⟨w.heap.size, 0, none⟩), .pointer (some ⟨w.heap.size + 1, 0, none⟩)]) (by simp) (by simp [go_sem]) ?_
      refine (catch_wrong w.heap.size (w.heap.size + 1) [.int .i64 0, .int .i64 0, .int .i64 0, .slice none 0 0] false [] w2 rfl F2.out.2.1 F2.out.2.2 (by omega)).mono ?_
      rintro e u w9 ⟨rfl, rfl, k1, k2, hgb⟩
      have G9 : Hid (GB p w w9) := hgb p w F2.out.1 (Nat.le_refl _) (by omega)
      obtain ⟨c0, c1, c2, c3, d0⟩ := (⟨k1.cell 0 _ rfl, k1.cell 1 _ rfl, k1.cell 2 _ rfl, k1.cell 3 _ rfl, k2.cell 0 _ rfl⟩ : _ ∧ _ ∧ _ ∧ _ ∧ _)
      have POST : Hid (GotP (rPolicy G) w.heap.size (.returned (.tuple #[.agg #[.int .i64 0, .int .i64 0, .int .i64 0, .slice none 0 0], .bool false])) w9 ∧ GB p w w9) := ⟨gotP_none HN.out rfl, G9.out⟩
      clear k1 k2 hgb F2
      simp [Leaves, settle, results, Tryz.results27, go_sem, *]
      exact POST.out
    | some x =>
      obtain ⟨ar, i2⟩ := x
      have E1 : Hid (rNum G i1 = some (ar, i2)) := e1
      refine (show Calls Tryz.prog 63 _ _ _ from gives_of (val := intV) e1 (rnumber_got X1.out.1)).mono ?_
      rintro e w2 ⟨⟨rfl, r2⟩, g2⟩
      have kr := X1.out.2.2.1.gb (show w.heap.size ≠ p by have := H0.out.2.1; omega) g2
      have X2 : Hid (RdI (w2.setCell ⟨w.heap.size, 0, none⟩ (.int .i64 ar)) p a cap G i2 ∧ GB p w (w2.setCell ⟨w.heap.size, 0, none⟩ (.int .i64 ar)) ∧ Kn (w2.setCell ⟨w.heap.size, 0, none⟩ (.int .i64 ar)) w.heap.size [.int .i64 ar, .int .i64 0, .int .i64 0, .slice none 0 0] 26 ∧ Kn (w2.setCell ⟨w.heap.size, 0, none⟩ (.int .i64 ar)) (w.heap.size + 1) [.bool false] 4) :=
        ⟨H0.out.1.fresh r2 (Nat.le_refl _), gb_fresh (gb_trans X1.out.2.1 g2) (Nat.le_refl _), kr.set 0 _, (X1.out.2.2.2.gb (by have := H0.out.2.1; omega) g2).other (by omega) _ _⟩
      have f1 := kr.free
      obtain ⟨c0, c1, c2, c3⟩ := (⟨kr.cell 0 _ rfl, kr.cell 1 _ rfl, kr.cell 2 _ rfl, kr.cell 3 _ rfl⟩ : _ ∧ _ ∧ _ ∧ _)
      clear r2 g2 X1 e1 kr
      unfold intV
      go_wp2_with fail
      generalize w2.setCell ⟨w.heap.size, 0, none⟩ (.int .i64 ar) = W2 at *
      clear f1 c0 c1 c2 c3
      cases e2 : rPass G i2 tSemi with
      | none =>
        refine (show Calls Tryz.prog 62 #[.pointer (some ⟨p, 0, none⟩), .string ⟨#[59]⟩] _ _ from mp_none (by decide) e2 X2.out.1).mono ?_
        rintro e w3 ⟨rfl, g3⟩
        have F3 : Hid (GB p w w3 ∧ Kn w3 w.heap.size [.int .i64 ar, .int .i64 0, .int .i64 0, .slice none 0 0] 26 ∧ Kn w3 (w.heap.size + 1) [.bool false] 4) := ⟨gb_trans X2.out.2.1 g3, X2.out.2.2.1.gb (by have := H0.out.2.1; omega) g3, X2.out.2.2.2.gb (by have := H0.out.2.1; omega) g3⟩
        have HN : Hid (rPolicy G = none) := by unfold Hid rPolicy rHead; rw [E0.out]; simp only; rw [E1.out]; simp only; rw [e2]
        clear g3 X2
        go_wp2
        refine leaves_cons (f := 61) (args := #[.pointer (some ⟨w.heap.size, 0, none⟩), .pointer (some ⟨w.heap.size + 1, 0, none⟩)]) (by simp) (by simp [go_sem]) ?_
        refine (catch_wrong w.heap.size (w.heap.size + 1) [.int .i64 ar, .int .i64 0, .int .i64 0, .slice none 0 0] false [] w3 rfl F3.out.2.1 F3.out.2.2 (by omega)).mono ?_
        rintro e u w9 ⟨rfl, rfl, k1, k2, hgb⟩
        have G9 : Hid (GB p w w9) := hgb p w F3.out.1 (Nat.le_refl _) (by omega)
        obtain ⟨c0, c1, c2, c3, d0⟩ := (⟨k1.cell 0 _ rfl, k1.cell 1 _ rfl, k1.cell 2 _ rfl, k1.cell 3 _ rfl, k2.cell 0 _ rfl⟩ : _ ∧ _ ∧ _ ∧ _ ∧ _)
        have POST : Hid (GotP (rPolicy G) w.heap.size (.returned (.tuple #[.agg #[.int .i64 0, .int .i64 0, .int .i64 0, .slice none 0 0], .bool false])) w9 ∧ GB p w w9) := ⟨gotP_none HN.out rfl, G9.out⟩
        clear k1 k2 hgb F3
        simp [Leaves, settle, results, Tryz.results27, go_sem, *]
        exact POST.out
      | some i3 =>
        have E2 : Hid (rPass G i2 tSemi = some i3) := e2
        refine (show Calls Tryz.prog 62 #[.pointer (some ⟨p, 0, none⟩), .string ⟨#[59]⟩] _ _ from mp_some (by decide) e2 X2.out.1).mono ?_
        rintro e w3 ⟨⟨rfl, r3⟩, g3⟩
        have X3 : Hid (RdI w3 p a cap G i3 ∧ GB p w w3 ∧ Kn w3 w.heap.size [.int .i64 ar, .int .i64 0, .int .i64 0, .slice none 0 0] 26 ∧ Kn w3 (w.heap.size + 1) [.bool false] 4) := ⟨r3, gb_trans X2.out.2.1 g3, X2.out.2.2.1.gb (by have := H0.out.2.1; omega) g3, X2.out.2.2.2.gb (by have := H0.out.2.1; omega) g3⟩
        clear r3 g3 X2 e2
        go_wp2_with fail
        cases e3 : rPass G i3 tDefault with
        | none =>
          refine (show Calls Tryz.prog 62 #[.pointer (some ⟨p, 0, none⟩), .string ⟨#[100, 101, 102, 97, 117, 108, 116]⟩] _ _ from mp_none (by decide) e3 X3.out.1).mono ?_
          rintro e w4 ⟨rfl, g4⟩
          have F4 : Hid (GB p w w4 ∧ Kn w4 w.heap.size [.int .i64 ar, .int .i64 0, .int .i64 0, .slice none 0 0] 26 ∧ Kn w4 (w.heap.size + 1) [.bool false] 4) := ⟨gb_trans X3.out.2.1 g4, X3.out.2.2.1.gb (by have := H0.out.2.1; omega) g4, X3.out.2.2.2.gb (by have := H0.out.2.1; omega) g4⟩
          have HN : Hid (rPolicy G = none) := by unfold Hid rPolicy rHead; rw [E0.out]; simp only; rw [E1.out]; simp only; rw [E2.out]; simp only; rw [e3]
          clear g4 X3
          go_wp2
          refine leaves_cons (f := 61) (args := #[.pointer (some ⟨w.heap.size, 0, none⟩), .pointer (some ⟨w.heap.size + 1, 0, none⟩)]) (by simp) (by simp [go_sem]) ?_
          refine (catch_wrong w.heap.size (w.heap.size + 1) [.int .i64 ar, .int .i64 0, .int .i64 0, .slice none 0 0] false [] w4 rfl F4.out.2.1 F4.out.2.2 (by omega)).mono ?_
          rintro e u w9 ⟨rfl, rfl, k1, k2, hgb⟩
          have G9 : Hid (GB p w w9) := hgb p w F4.out.1 (Nat.le_refl _) (by omega)
          obtain ⟨c0, c1, c2, c3, d0⟩ := (⟨k1.cell 0 _ rfl, k1.cell 1 _ rfl, k1.cell 2 _ rfl, k1.cell 3 _ rfl, k2.cell 0 _ rfl⟩ : _ ∧ _ ∧ _ ∧ _ ∧ _)
          have POST : Hid (GotP (rPolicy G) w.heap.size (.returned (.tuple #[.agg #[.int .i64 0, .int .i64 0, .int .i64 0, .slice none 0 0], .bool false])) w9 ∧ GB p w w9) := ⟨gotP_none HN.out rfl, G9.out⟩
          clear k1 k2 hgb F4
          simp [Leaves, settle, results, Tryz.results27, go_sem, *]
          exact POST.out
        | some i4 =>
          have E3 : Hid (rPass G i3 tDefault = some i4) := e3
          refine (show Calls Tryz.prog 62 #[.pointer (some ⟨p, 0, none⟩), .string ⟨#[100, 101, 102, 97, 117, 108, 116]⟩] _ _ from mp_some (by decide) e3 X3.out.1).mono ?_
          rintro e w4 ⟨⟨rfl, r4⟩, g4⟩
          have X4 : Hid (RdI w4 p a cap G i4 ∧ GB p w w4 ∧ Kn w4 w.heap.size [.int .i64 ar, .int .i64 0, .int .i64 0, .slice none 0 0] 26 ∧ Kn w4 (w.heap.size + 1) [.bool false] 4) := ⟨r4, gb_trans X3.out.2.1 g4, X3.out.2.2.1.gb (by have := H0.out.2.1; omega) g4, X3.out.2.2.2.gb (by have := H0.out.2.1; omega) g4⟩
          clear r4 g4 X3 e3
          go_wp2_with fail
          cases e4 : rOut G i4 with
          | none =>
            refine (show Calls Tryz.prog 64 _ _ _ from fails_of (val := pairV) e4 (outcome_any X4.out.1)).mono ?_
            rintro e w5 ⟨rfl, g5⟩
            have F5 : Hid (GB p w w5 ∧ Kn w5 w.heap.size [.int .i64 ar, .int .i64 0, .int .i64 0, .slice none 0 0] 26 ∧ Kn w5 (w.heap.size + 1) [.bool false] 4) := ⟨gb_trans X4.out.2.1 g5, X4.out.2.2.1.gb (by have := H0.out.2.1; omega) g5, X4.out.2.2.2.gb (by have := H0.out.2.1; omega) g5⟩
            have HN : Hid (rPolicy G = none) := by unfold Hid rPolicy rHead; rw [E0.out]; simp only; rw [E1.out]; simp only; rw [E2.out]; simp only; rw [E3.out]; simp only; rw [e4]
            clear g5 X4
            go_wp2
            refine leaves_cons (f := 61) (args := #[.pointer (some ⟨w.heap.size, 0, none⟩), .pointer (some ⟨w.heap.size + 1, 0, none⟩)]) (by simp) (by simp [go_sem]) ?_
            refine (catch_wrong w.heap.size (w.heap.size + 1) [.int .i64 ar, .int .i64 0, .int .i64 0, .slice none 0 0] false [] w5 rfl F5.out.2.1 F5.out.2.2 (by omega)).mono ?_
            rintro e u w9 ⟨rfl, rfl, k1, k2, hgb⟩
            have G9 : Hid (GB p w w9) := hgb p w F5.out.1 (Nat.le_refl _) (by omega)
            obtain ⟨c0, c1, c2, c3, d0⟩ := (⟨k1.cell 0 _ rfl, k1.cell 1 _ rfl, k1.cell 2 _ rfl, k1.cell 3 _ rfl, k2.cell 0 _ rfl⟩ : _ ∧ _ ∧ _ ∧ _ ∧ _)
            have POST : Hid (GotP (rPolicy G) w.heap.size (.returned (.tuple #[.agg #[.int .i64 0, .int .i64 0, .int .i64 0, .slice none 0 0], .bool false])) w9 ∧ GB p w w9) := ⟨gotP_none HN.out rfl, G9.out⟩
            clear k1 k2 hgb F5
            simp [Leaves, settle, results, Tryz.results27, go_sem, *]
            exact POST.out
          | some x =>
            obtain ⟨⟨ac, da⟩, i5⟩ := x
            have E4 : Hid (rOut G i4 = some ((ac, da), i5)) := e4
            refine (show Calls Tryz.prog 64 _ _ _ from gives_of (val := pairV) e4 (outcome_any X4.out.1)).mono ?_
            rintro e w5 ⟨⟨rfl, r5⟩, g5⟩
            have kr := X4.out.2.2.1.gb (show w.heap.size ≠ p by have := H0.out.2.1; omega) g5
            have X5 : Hid (RdI ((w5.setCell ⟨w.heap.size, 1, none⟩ (.int .i64 ac)).setCell ⟨w.heap.size, 2, none⟩ (.int .i64 da)) p a cap G i5 ∧ GB p w ((w5.setCell ⟨w.heap.size, 1, none⟩ (.int .i64 ac)).setCell ⟨w.heap.size, 2, none⟩ (.int .i64 da)) ∧ Kn ((w5.setCell ⟨w.heap.size, 1, none⟩ (.int .i64 ac)).setCell ⟨w.heap.size, 2, none⟩ (.int .i64 da)) w.heap.size [.int .i64 ar, .int .i64 ac, .int .i64 da, .slice none 0 0] 26 ∧ Kn ((w5.setCell ⟨w.heap.size, 1, none⟩ (.int .i64 ac)).setCell ⟨w.heap.size, 2, none⟩ (.int .i64 da)) (w.heap.size + 1) [.bool false] 4) :=
              ⟨H0.out.1.fresh (H0.out.1.fresh r5 (Nat.le_refl _)) (Nat.le_refl _), gb_fresh (gb_fresh (gb_trans X4.out.2.1 g5) (Nat.le_refl _)) (Nat.le_refl _), (kr.set 1 _).set 2 _, ((X4.out.2.2.2.gb (by have := H0.out.2.1; omega) g5).other (by omega) _ _).other (by omega) _ _⟩
            have f1 := kr.free
            obtain ⟨c0, c1, c2, c3⟩ := (⟨kr.cell 0 _ rfl, kr.cell 1 _ rfl, kr.cell 2 _ rfl, kr.cell 3 _ rfl⟩ : _ ∧ _ ∧ _ ∧ _)
            clear r5 g5 X4 e4 kr
            unfold pairV
            go_wp2_with fail
            generalize (w5.setCell ⟨w.heap.size, 1, none⟩ (.int .i64 ac)).setCell ⟨w.heap.size, 2, none⟩ (.int .i64 da) = W5 at *
            clear f1 c0 c1 c2 c3
            cases e5 : rPass G i5 tSemi with
            | none =>
              refine (show Calls Tryz.prog 62 #[.pointer (some ⟨p, 0, none⟩), .string ⟨#[59]⟩] _ _ from mp_none (by decide) e5 X5.out.1).mono ?_
              rintro e w6 ⟨rfl, g6⟩
              have F6 : Hid (GB p w w6 ∧ Kn w6 w.heap.size [.int .i64 ar, .int .i64 ac, .int .i64 da, .slice none 0 0] 26 ∧ Kn w6 (w.heap.size + 1) [.bool false] 4) := ⟨gb_trans X5.out.2.1 g6, X5.out.2.2.1.gb (by have := H0.out.2.1; omega) g6, X5.out.2.2.2.gb (by have := H0.out.2.1; omega) g6⟩
              have HN : Hid (rPolicy G = none) := by unfold Hid rPolicy rHead; rw [E0.out]; simp only; rw [E1.out]; simp only; rw [E2.out]; simp only; rw [E3.out]; simp only; rw [E4.out]; simp only; rw [e5]
              clear g6 X5
              go_wp2
              refine leaves_cons (f := 61) (args := #[.pointer (some ⟨w.heap.size, 0, none⟩), .pointer (some ⟨w.heap.size + 1, 0, none⟩)]) (by simp) (by simp [go_sem]) ?_
              refine (catch_wrong w.heap.size (w.heap.size + 1) [.int .i64 ar, .int .i64 ac, .int .i64 da, .slice none 0 0] false [] w6 rfl F6.out.2.1 F6.out.2.2 (by omega)).mono ?_
              rintro e u w9 ⟨rfl, rfl, k1, k2, hgb⟩
              have G9 : Hid (GB p w w9) := hgb p w F6.out.1 (Nat.le_refl _) (by omega)
              obtain ⟨c0, c1, c2, c3, d0⟩ := (⟨k1.cell 0 _ rfl, k1.cell 1 _ rfl, k1.cell 2 _ rfl, k1.cell 3 _ rfl, k2.cell 0 _ rfl⟩ : _ ∧ _ ∧ _ ∧ _ ∧ _)
              have POST : Hid (GotP (rPolicy G) w.heap.size (.returned (.tuple #[.agg #[.int .i64 0, .int .i64 0, .int .i64 0, .slice none 0 0], .bool false])) w9 ∧ GB p w w9) := ⟨gotP_none HN.out rfl, G9.out⟩
              clear k1 k2 hgb F6
              simp [Leaves, settle, results, Tryz.results27, go_sem, *]
              exact POST.out
            | some i6 =>
              have EH : Hid (rHead G = some ((ar, ac, da), i6)) := by unfold Hid rHead; rw [E0.out]; simp only; rw [E1.out]; simp only; rw [E2.out]; simp only; rw [E3.out]; simp only; rw [E4.out]; simp only; rw [e5]
              refine (show Calls Tryz.prog 62 #[.pointer (some ⟨p, 0, none⟩), .string ⟨#[59]⟩] _ _ from mp_some (by decide) e5 X5.out.1).mono ?_
              rintro e w6 ⟨⟨rfl, r6⟩, g6⟩
              have X6 : Hid (RdI w6 p a cap G i6 ∧ GB p w w6 ∧ Kn w6 w.heap.size [.int .i64 ar, .int .i64 ac, .int .i64 da, .slice none 0 0] 26 ∧ Kn w6 (w.heap.size + 1) [.bool false] 4) := ⟨r6, gb_trans X5.out.2.1 g6, X5.out.2.2.1.gb (by have := H0.out.2.1; omega) g6, X5.out.2.2.2.gb (by have := H0.out.2.1; omega) g6⟩
              clear r6 g6 X5 e5 E0 E1 E2 E3 E4
              go_wp2_with fail
              have HB0 : Hid ((w.heap.size + 2 ≤ w6.heap.size) ∧ i6 ≤ G.length) := by
                have := X6.out.2.2.2.lt
                exact ⟨by omega, X6.out.1.2.1⟩
              go_loopw [] (fun wr => ∃ (ps : List (RN × List Value)) (j f : Nat) (v : Value), Hid ((rPolicy G = (rRulesF f G j).map fun rs => (⟨ar, ac, da, ps.map (·.1) ++ rs⟩ : PN)) ∧ G.length ≤ j + f ∧ ps.length ≤ j ∧ RdI wr p a cap G j ∧ GB p w wr ∧ Kn wr w.heap.size [.int .i64 ar, .int .i64 ac, .int .i64 da, v] 26 ∧ Kn wr (w.heap.size + 1) [.bool false] 4 ∧ RulesX (w.heap.size + 2) wr v ps)) (fun W => G.length - rdAt W p)
              case atStart =>
                refine ⟨[], i6, G.length, .slice none 0 0, ?_, by omega, by simp, X6.out.1, X6.out.2.1, X6.out.2.2.1, X6.out.2.2.2, World.ownsRow_nil _ _ _ _, RowsX.nil (by have := X6.out.2.2.2.lt; omega)⟩
                unfold rPolicy
                rw [EH.out]
                rfl
              case round =>
                obtain ⟨ps, j, f, v, HI⟩ := hrel
                clear X6
                have HA : Hid (Calls Tryz.prog 65 #[.pointer (some ⟨p, 0, none⟩)] wr fun e w' => e = .returned (.bool (decide (j = G.length))) ∧ Ext wr w') := atEnd_any HI.out.2.2.2.1
                by_cases hj : j = G.length
                · rw [decide_eq_true hj] at HA
                  go_wp2_with fail
                  refine HA.out.mono ?_
                  rintro e w7 ⟨rfl, x7⟩
                  have k7 := HI.out.2.2.2.2.2.1.ext x7
                  have s7 := HI.out.2.2.2.2.2.2.1.ext x7
                  have f1 := k7.free
                  have f2 := s7.free
                  obtain ⟨c0, c1, c2, c3, d0⟩ := (⟨k7.cell 0 _ rfl, k7.cell 1 _ rfl, k7.cell 2 _ rfl, k7.cell 3 _ rfl, s7.cell 0 _ rfl⟩ : _ ∧ _ ∧ _ ∧ _ ∧ _)
                  obtain ⟨sa, sc, rfl⟩ := own_slice HI.out.2.2.2.2.2.2.2.1
                  have o7 := HI.out.2.2.2.2.2.2.2.ext x7
                  have g7 := gb_trans HI.out.2.2.2.2.1 (gb_ext x7)
                  have hR : w.heap.size ≤ w.heap.size := Nat.le_refl _
                  have hF : ∀ {B : Nat} {W : World} {o : Value} {q c : Nat} {u : Value}, RulesX B W o ps → q < B → RulesX B (W.setCell ⟨q, c, none⟩ u) o ps := fun {B W o q c u} h hq => ⟨own_set h.1 (fun x hx => by have := (own_lt9 h.1 hx).1; omega), (h.2.kept (gb_set q c W u) (fun x hx _ => by injection hx with hx; omega)).up (by rw [World.size_setCell]; exact Nat.le_refl _)⟩
                  have X8 : Hid (GB p w (((((w7.setCell ⟨w.heap.size, 0, none⟩ (.int .i64 ar)).setCell ⟨w.heap.size, 1, none⟩ (.int .i64 ac)).setCell ⟨w.heap.size, 2, none⟩ (.int .i64 da)).setCell ⟨w.heap.size, 3, none⟩ (.slice sa ps.length sc)).setCell ⟨w.heap.size + 1, 0, none⟩ (.bool true)) ∧ Kn (((((w7.setCell ⟨w.heap.size, 0, none⟩ (.int .i64 ar)).setCell ⟨w.heap.size, 1, none⟩ (.int .i64 ac)).setCell ⟨w.heap.size, 2, none⟩ (.int .i64 da)).setCell ⟨w.heap.size, 3, none⟩ (.slice sa ps.length sc)).setCell ⟨w.heap.size + 1, 0, none⟩ (.bool true)) w.heap.size [.int .i64 ar, .int .i64 ac, .int .i64 da, .slice sa ps.length sc] 26 ∧ Kn (((((w7.setCell ⟨w.heap.size, 0, none⟩ (.int .i64 ar)).setCell ⟨w.heap.size, 1, none⟩ (.int .i64 ac)).setCell ⟨w.heap.size, 2, none⟩ (.int .i64 da)).setCell ⟨w.heap.size, 3, none⟩ (.slice sa ps.length sc)).setCell ⟨w.heap.size + 1, 0, none⟩ (.bool true)) (w.heap.size + 1) [.bool true] 4 ∧ RulesX (w.heap.size + 2) (((((w7.setCell ⟨w.heap.size, 0, none⟩ (.int .i64 ar)).setCell ⟨w.heap.size, 1, none⟩ (.int .i64 ac)).setCell ⟨w.heap.size, 2, none⟩ (.int .i64 da)).setCell ⟨w.heap.size, 3, none⟩ (.slice sa ps.length sc)).setCell ⟨w.heap.size + 1, 0, none⟩ (.bool true)) (.slice sa ps.length sc) ps) :=
                    ⟨gb_fresh (gb_fresh (gb_fresh (gb_fresh (gb_fresh g7 hR) hR) hR) hR) (by omega), ((((k7.set 0 _).set 1 _).set 2 _).set 3 _).other (by omega) _ _, ((((s7.other (by omega) _ _).other (by omega) _ _).other (by omega) _ _).other (by omega) _ _).set 0 _,
                      hF (hF (hF (hF (hF o7 (by omega)) (by omega)) (by omega)) (by omega)) (by omega)⟩
                  have HN : Hid (rPolicy G = some ⟨ar, ac, da, ps.map (·.1)⟩) := by
                    unfold Hid
                    rw [HI.out.1]
                    cases f with
                    | zero => simp [rRulesF]
                    | succ f => rw [rRulesF, if_pos hj]; simp
                  go_wp2
                  generalize (((((w7.setCell ⟨w.heap.size, 0, none⟩ (.int .i64 ar)).setCell ⟨w.heap.size, 1, none⟩ (.int .i64 ac)).setCell ⟨w.heap.size, 2, none⟩ (.int .i64 da)).setCell ⟨w.heap.size, 3, none⟩ (.slice sa ps.length sc)).setCell ⟨w.heap.size + 1, 0, none⟩ (.bool true)) = W8 at *
                  show Leaves _ _ _ _ _ _ _
                  refine leaves_cons (f := 61) (args := #[.pointer (some ⟨w.heap.size, 0, none⟩), .pointer (some ⟨w.heap.size + 1, 0, none⟩)]) (by simp) (by simp [go_sem]) ?_
                  clear c0 c1 c2 c3 d0 f1 f2 k7 s7 o7 g7 hF x7
                  refine (catch_idle w.heap.size (w.heap.size + 1) W8).mono ?_
                  rintro e u w9 ⟨rfl, rfl, x9⟩
                  have k9 := X8.out.2.1.ext x9
                  have s9 := X8.out.2.2.1.ext x9
                  obtain ⟨c0, c1, c2, c3, d0⟩ := (⟨k9.cell 0 _ rfl, k9.cell 1 _ rfl, k9.cell 2 _ rfl, k9.cell 3 _ rfl, s9.cell 0 _ rfl⟩ : _ ∧ _ ∧ _ ∧ _ ∧ _)
                  have POST : Hid (GotP (rPolicy G) w.heap.size (.returned (.tuple #[.agg #[.int .i64 ar, .int .i64 ac, .int .i64 da, .slice sa ps.length sc], .bool true])) w9 ∧ GB p w w9) := ⟨gotP_some HN.out rfl rfl (RulesX.low (X8.out.2.2.2.ext x9)), gb_trans X8.out.1 (gb_ext x9)⟩
                  clear k9 s9 x9 X8
                  simp [Leaves, settle, results, Tryz.results27, go_sem, *]
                  exact POST.out
                · rw [decide_eq_false hj] at HA
                  have hlt : j < G.length := by have := HI.out.2.2.2.1.2.1; omega
                  go_wp2_with fail
                  refine HA.out.mono ?_
                  rintro e w7 ⟨rfl, x7⟩
                  have X7 : Hid (RdI w7 p a cap G j ∧ GB p w w7 ∧ Kn w7 w.heap.size [.int .i64 ar, .int .i64 ac, .int .i64 da, v] 26 ∧ Kn w7 (w.heap.size + 1) [.bool false] 4 ∧ RulesX (w.heap.size + 2) w7 v ps ∧ ps.length ≤ 1200 ∧ p < w.heap.size ∧ w.heap.size + 2 ≤ w7.heap.size ∧ (∀ x, v.ownBlock = some x → w.heap.size + 2 ≤ x ∧ x < w7.heap.size) ∧ p < w7.heap.size) := by
                    have g7 := gb_trans HI.out.2.2.2.2.1 (gb_ext x7)
                    have k7 := HI.out.2.2.2.2.2.2.1.ext x7
                    have o7 := HI.out.2.2.2.2.2.2.2.ext x7
                    have hlt := k7.lt
                    have hp := H0.out.2.1
                    exact ⟨HI.out.2.2.2.1.step x7, g7, HI.out.2.2.2.2.2.1.ext x7, k7, o7, by have := HI.out.2.2.1; have := HI.out.2.2.2.1.2.1; have := HI.out.2.2.2.1.2.2.1; omega, hp, by omega, fun x hx => own_lt9 o7.1 hx, by omega⟩
                  have HC : Hid (∀ W, RdI W p a cap G j → GB p w W → Calls Tryz.prog 66 #[.pointer (some ⟨p, 0, none⟩)] W fun e w' => GotU (RuleX W.heap.size) (rRule G j) p a cap G e w' ∧ GB p W w') := fun W hR hG => rrule_any hR H0.out.2.2.2.1 H0.out.2.2.2.2 (H0.out.2.2.1 _ hG)
                  obtain ⟨jn, hjn⟩ : ∃ jn, jn = (match rRule G j with | some (_, k) => k | none => j) := ⟨_, rfl⟩
                  have HJN : Hid (jn = (match rRule G j with | some (_, k) => k | none => j)) := hjn
                  clear hjn x7 HA
                  go_wp2_with fail
                  refine' wp_region_loosea_tail 7 (.inl _ :: .inl _ :: .inl _ :: .inr (fun vv W => ∃ (r : RN) (k : Nat) (a1 : Option Addr) (n1 c1 : Nat) (a2 : Option Addr) (n2 c2 : Nat), rRule G j = some (r, k) ∧ vv = .agg #[.slice a1 n1 c1, .slice a2 n2 c2, .int .i64 r.act, .int .i64 r.data] ∧ RuleX w7.heap.size W r [.slice a1 n1 c1, .slice a2 n2 c2, .int .i64 r.act, .int .i64 r.data]) :: .inr (fun vv W => ∃ (h : Nat) (r : RN) (k : Nat) (a1 : Option Addr) (n1 c1 : Nat) (a2 : Option Addr) (n2 c2 : Nat), rRule G j = some (r, k) ∧ vv = .slice (some ⟨h, 0, none⟩) 1 1 ∧ w7.heap.size ≤ h ∧ Kn W h [.slice a1 n1 c1, .slice a2 n2 c2, .int .i64 r.act, .int .i64 r.data] 53 ∧ RuleX w7.heap.size W r [.slice a1 n1 c1, .slice a2 n2 c2, .int .i64 r.act, .int .i64 r.data]) :: .inr (fun vv W => ∃ (g cap' Y : Nat) (r : RN) (k : Nat) (l : List Value), rRule G j = some (r, k) ∧ vv = .slice (some ⟨g, 0, none⟩) (ps.length + 1) cap' ∧ W.ownsRow (w.heap.size + 2) 53 4 (.slice (some ⟨g, 0, none⟩) (ps.length + 1) cap') (ps.length + 1) (ps.flatMap (·.2) ++ l) ∧ RowsX (w.heap.size + 2) Y W (some g) (ps ++ [(r, l)]) ∧ Y ≤ W.heap.size) :: .inl _ :: []) (CA (fun b1 b2 W => (RdI W p a cap G (plc b1 jn j) ∧ GB p w W ∧ Kn W w.heap.size [.int .i64 ar, .int .i64 ac, .int .i64 da, v] 26 ∧ Kn W (w.heap.size + 1) [.bool false] 4 ∧ RowsX (w.heap.size + 2) w7.heap.size W v.ownBlock ps ∧ w7.heap.size ≤ W.heap.size) ∧ (b2 = false → W.ownsRow (w.heap.size + 2) 53 4 v ps.length (ps.flatMap (·.2)))) 3 5) (fun ch W => ch = [{ v := .iface 103 (.agg #[]), recovered := false }] ∧ rRule G j = none ∧ GB p w W ∧ Kn W w.heap.size [.int .i64 ar, .int .i64 ac, .int .i64 da, v] 26 ∧ Kn W (w.heap.size + 1) [.bool false] 4) (fun x => ∃ y26 y27 y28 y29 y30 y31 y32, x = ⟨#[.pointer (some ⟨p, 0, none⟩), undef, .pointer (some ⟨w.heap.size, 0, none⟩), .pointer (some ⟨w.heap.size + 1, 0, none⟩), .func (.func 61) #[] #[.pointer (some ⟨w.heap.size, 0, none⟩), .pointer (some ⟨w.heap.size + 1, 0, none⟩)], .pointer (some ⟨p, 0, none⟩), .tuple #[], .pointer (some ⟨p, 0, none⟩), .int .i64 ar, .pointer (some ⟨w.heap.size, 0, none⟩), .pointer (some ⟨p, 0, none⟩), .tuple #[], .pointer (some ⟨p, 0, none⟩), .tuple #[], .tuple #[.int .i64 ac, .int .i64 da], .pointer (some ⟨p, 0, none⟩), .tuple #[.int .i64 ac, .int .i64 da], .int .i64 ac, .int .i64 da, .pointer (some ⟨w.heap.size, 1, none⟩), .pointer (some ⟨w.heap.size, 2, none⟩), .pointer (some ⟨p, 0, none⟩), .tuple #[], .pointer (some ⟨p, 0, none⟩), .bool false, .bool true, y26, y27, y28, y29, y30, y31, y32, undef], [{ target := .fn (.func 61) #[.pointer (some ⟨w.heap.size, 0, none⟩), .pointer (some ⟨w.heap.size + 1, 0, none⟩)], args := #[] }]⟩) (fun i W W' => (i = 5 → W.grownBy W' v.ownBlock) ∧ (i ≠ 5 → GB p W W')) (by kernel_rfl) (by kernel_rfl) (⟨⟨X7.out.1, gb_drew X7.out.2.1, X7.out.2.2.1, X7.out.2.2.2.1, X7.out.2.2.2.2.1.2, Nat.le_refl _⟩, fun _ => X7.out.2.2.2.2.1.1⟩) ?hIA ?hGA ?hBA (fun i ls w hi h => CA_ne (by intro e; subst e; cases hi) (by intro e; subst e; cases hi) h) ?hAA ?hlA ?hMA
                  case' hMA => skip
                  simp only [List.take_succ_cons, List.take_zero, List.drop_succ_cons, List.drop_zero]
                  apply wpLooseA_val rfl rfl (by decide) (by decide)
                  case hs =>
                    intro b1 b2 w1 hC hd Q1 hQ1 hP1
                    dsimp only [bare]
                    have q1 := hC.1.2.2.1.cell 3 _ rfl
                    clear hd hP1
                    have HCC : Hid _ := hC
                    clear hC
                    go_wp2
                    exact ⟨HCC.out, ⟨fun h => by omega, fun _ => gb_refl _ _⟩⟩
                  case ha => rfl
                  apply wpLooseA_val rfl rfl (by decide) (by decide)
                  case hs =>
                    intro b1 b2 w1 hC hd Q1 hQ1 hP1
                    dsimp only [bare]
                    have q1 := hC.1.2.2.1.cell 3 _ rfl
                    clear hd hP1
                    have HCC : Hid _ := hC
                    clear hC
                    go_wp2
                    exact ⟨HCC.out, ⟨fun h => by omega, fun _ => gb_refl _ _⟩⟩
                  case ha => rfl
                  apply wpLooseA_val rfl rfl (by decide) (by decide)
                  case hs =>
                    intro b1 b2 w1 hC hd Q1 hQ1 hP1
                    dsimp only [bare]
                    have q1 := hC.1.2.2.1.cell 3 _ rfl
                    clear hd hP1
                    have HCC : Hid _ := hC
                    clear hC
                    go_wp2
                    exact ⟨HCC.out, ⟨fun h => by omega, fun _ => gb_refl _ _⟩⟩
                  case ha => rfl
                  refine wpLooseA_s1 rfl rfl (by decide) (by decide) ?_ (fun vA_3 => ?_)
                  · intro b2 w1 hC hd Q1 hQ1 hP1
                    dsimp only [bare]
                    clear hd
                    have HCC : Hid _ := hC
                    have HQ : Hid _ := hQ1
                    have HPP : Hid _ := hP1
                    clear hC hQ1 hP1
                    go_wp2_with fail
                    refine (HC.out _ HCC.out.1.1 HCC.out.1.2.1).mono ?_
                    rintro e w8 ⟨hg, g8⟩
                    have G8 : Hid (GB p w1 w8) := g8
                    clear g8
                    have HPR : Hid (p < w.heap.size ∧ p < w7.heap.size) := ⟨X7.out.2.2.2.2.2.2.1, X7.out.2.2.2.2.2.2.2.2.2⟩
                    rcases e6 : rRule G j with _ | ⟨r, k⟩
                    · rw [e6] at hg
                      have hbad : e = Bad := hg
                      have EN : Hid (rRule G j = none) := e6
                      subst hbad
                      clear hg e6
                      go_wp2_with fail
                      obtain ⟨⟨h1, h2, h3, h4, h5, h6⟩, h7⟩ := HCC.out
                      exact HPP.out _ _ ⟨rfl, EN.out, gb_trans h2 G8.out, h3.gb (by have := HPR.out.1; omega) G8.out, h4.gb (by have := HPR.out.1; omega) G8.out⟩
                    · rw [e6] at hg
                      obtain ⟨l, rfl, hl, hr⟩ := hg
                      obtain ⟨a1, n1, c1, a2, n2, c2, rfl⟩ := hl.shape
                      have EN : Hid (rRule G j = some (r, k)) := e6
                      have HL : Hid (RuleX w1.heap.size w8 r [.slice a1 n1 c1, .slice a2 n2 c2, .int .i64 r.act, .int .i64 r.data] ∧ RdI w8 p a cap G k ∧ jn = k) := ⟨hl, hr, by rw [HJN.out, e6]⟩
                      clear hl hr e6
                      go_wp2_with fail
                      obtain ⟨⟨h1, h2, h3, h4, h5, h6⟩, h7⟩ := HCC.out
                      exact HQ.out _ _ ⟨⟨⟨(by show RdI w8 p a cap G jn; rw [HL.out.2.2]; exact HL.out.2.1 : RdI w8 p a cap G (plc true jn j)), gb_trans h2 G8.out, h3.gb (by have := HPR.out.1; omega) G8.out, h4.gb (by have := HPR.out.1; omega) G8.out, h5.kept G8.out (fun x hx _ => by injection hx with hx; have := HPR.out.1; omega), Nat.le_trans h6 G8.out.size⟩, fun hb => own_gb (h7 hb) (by have := HPR.out.1; omega) G8.out⟩, ⟨fun h => by omega, fun _ => G8.out⟩, r, k, a1, n1, c1, a2, n2, c2, EN.out, rfl, HL.out.1.mono h6⟩
                  refine wpLooseA_rel rfl rfl (by decide) (by decide) ?_ (fun vA_4 => ?_)
                  · intro b1 b2 w1 hC hd Q1 hQ1 hP1
                    dsimp only [bare]
                    have h3 : ∃ (r : RN) (k : Nat) (a1 : Option Addr) (n1 c1 : Nat) (a2 : Option Addr) (n2 c2 : Nat), rRule G j = some (r, k) ∧ vA_3 = .agg #[.slice a1 n1 c1, .slice a2 n2 c2, .int .i64 r.act, .int .i64 r.data] ∧ RuleX w7.heap.size w1 r [.slice a1 n1 c1, .slice a2 n2 c2, .int .i64 r.act, .int .i64 r.data] := hd ⟨3, .data⟩ (by simp) rfl _ rfl (by simp [Act.put])
                    clear hd hP1
                    obtain ⟨r, k, a1, n1, c1, a2, n2, c2, e1, rfl, e3⟩ := h3
                    have HCC : Hid _ := hC
                    have HQ : Hid _ := hQ1
                    have EN : Hid (rRule G j = some (r, k)) := e1
                    have RX : Hid (RuleX w7.heap.size w1 r [.slice a1 n1 c1, .slice a2 n2 c2, .int .i64 r.act, .int .i64 r.data]) := e3
                    clear hC hQ1 e1 e3
                    go_wp2_with fail
                    obtain ⟨⟨h1, h2, h3, h4, h5, h6⟩, h7⟩ := HCC.out
                    exact HQ.out _ _ ⟨⟨⟨h1.step (Ext.one _ _), gb_alloc h2 _, h3.alloc _, h4.alloc _, h5.kept (gb_ext (p := p) (Ext.one _ _)) (fun x hx _ => by injection hx with hx; have := X7.out.2.2.2.2.2.2.1; omega), by simp; omega⟩, fun hb => own_ext (h7 hb) (Ext.one _ _)⟩, ⟨fun h => by omega, fun _ => gb_ext (Ext.one _ _)⟩, w1.heap.size, r, k, a1, n1, c1, a2, n2, c2, EN.out, rfl, h6, Kn.new _ _ _, RX.out.kept (gb_ext (p := p) (Ext.one _ _)) (fun x hx e => by have := (RX.out.blocks x hx).1; have := X7.out.2.2.2.2.2.2.2.2.2; injection e with e; omega)⟩
                  refine wpLooseA_s2 rfl rfl (by decide) (by decide) ?_ (fun vA_5 => ?_)
                  · intro b1 w1 hC hd Q1 hQ1 hP1
                    dsimp only [bare]
                    have h4 : ∃ (h : Nat) (r : RN) (k : Nat) (a1 : Option Addr) (n1 c1 : Nat) (a2 : Option Addr) (n2 c2 : Nat), rRule G j = some (r, k) ∧ vA_4 = .slice (some ⟨h, 0, none⟩) 1 1 ∧ w7.heap.size ≤ h ∧ Kn w1 h [.slice a1 n1 c1, .slice a2 n2 c2, .int .i64 r.act, .int .i64 r.data] 53 ∧ RuleX w7.heap.size w1 r [.slice a1 n1 c1, .slice a2 n2 c2, .int .i64 r.act, .int .i64 r.data] := hd ⟨4, .data⟩ (by simp) rfl _ rfl (by simp [Act.put])
                    clear hd hP1
                    obtain ⟨h, r, k, a1, n1, c1, a2, n2, c2, e1, rfl, e3, e4, e5⟩ := h4
                    have HCC : Hid _ := hC
                    have HQ : Hid _ := hQ1
                    have EN : Hid (rRule G j = some (r, k)) := e1
                    have RX : Hid (RuleX w7.heap.size w1 r [.slice a1 n1 c1, .slice a2 n2 c2, .int .i64 r.act, .int .i64 r.data]) := e5
                    have HBK : Hid (Kn w1 h [.slice a1 n1 c1, .slice a2 n2 c2, .int .i64 r.act, .int .i64 r.data] 53 ∧ w.heap.size + 2 ≤ w1.heap.size) := ⟨e4, Nat.le_trans X7.out.2.2.2.2.2.2.2.1 hC.1.2.2.2.2.2⟩
                    have hlen : ps.length ≤ 1200 := X7.out.2.2.2.2.2.1
                    clear hC hQ1 e1 e3 e4 e5
                    go_wp2_with (at_builtin; refine wpList_append_lies _ rfl _ _ 24 rfl (w.heap.size + 2) 53 j0 (.agg #[.slice none 0 0, .slice none 0 0, .int .i64 0, .int .i64 0]) 4 64 Tryz.underlying24 ji jz0 jz1 jz2 rfl (by decide) _ _ _ rfl (HCC.out.2 rfl) ⟨h, 0, none⟩ 1 1 [.slice a1 n1 c1, .slice a2 n2 c2, .int .i64 r.act, .int .i64 r.data] rfl rfl ?c1 ?c2 (by omega) ?c3 ?c4 ?c5 w1.heap.size rfl ?_)
                    case c1 => exact fun j u hu => HBK.out.1.cell j u hu
                    case c2 => simp [Value.oneCell']
                    case c3 => unfold maxLen; omega
                    case c4 => omega
                    case c5 => exact HBK.out.2
                    intro g cap' w5 hown5 hgrow5 hat5 hlt5
                    obtain ⟨⟨h1, h2, h3, h4, h5, h6⟩, h7⟩ := HCC.out
                    have hv1 := X7.out.2.2.2.2.2.2.2.2.1
                    have hrow : ∀ x, v.ownBlock = some x → w.heap.size ≤ x := fun x hx => by have := (hv1 x hx).1; omega
                    have POST : Hid ((RdI w5 p a cap G (plc b1 jn j) ∧ GB p w w5 ∧ Kn w5 w.heap.size [.int .i64 ar, .int .i64 ac, .int .i64 da, v] 26 ∧ Kn w5 (w.heap.size + 1) [.bool false] 4 ∧ RowsX (w.heap.size + 2) w7.heap.size w5 v.ownBlock ps ∧ w7.heap.size ≤ w5.heap.size) ∧ w1.grownBy w5 v.ownBlock ∧ w5.ownsRow (w.heap.size + 2) 53 4 (.slice (some ⟨g, 0, none⟩) (ps.length + 1) cap') (ps.length + 1) (ps.flatMap (·.2) ++ [.slice a1 n1 c1, .slice a2 n2 c2, .int .i64 r.act, .int .i64 r.data]) ∧ RowsX (w.heap.size + 2) w1.heap.size w5 (some g) (ps ++ [(r, [.slice a1 n1 c1, .slice a2 n2 c2, .int .i64 r.act, .int .i64 r.data])]) ∧ w1.heap.size ≤ w5.heap.size) := ⟨⟨H0.out.1.row h1 hgrow5 hrow, gb_row h2 hgrow5 hrow, h3.row hgrow5 (fun e => by have := (hv1 _ e).1; omega), h4.row hgrow5 (fun e => by have := (hv1 _ e).1; omega), h5.kept hgrow5 (fun x hx hne => absurd hx hne), Nat.le_trans h6 hgrow5.size⟩, hgrow5, hown5, (h5.kept hgrow5 (fun x hx hne => absurd hx hne)).push (RX.out.kept hgrow5 (fun x hx e => by have := (RX.out.blocks x hx).1; have := (hv1 x e).2; omega)) (fun x hx => (RX.out.blocks x hx).2) h6 (fun x hx => (hv1 x hx).2) (fun x hx => by injection hx with hx; subst hx; rcases hat5 with h | h; exact .inl h; exact .inr (by omega)), hgrow5.size⟩
                    clear h1 h2 h3 h4 h5 h6 h7 hown5 hgrow5 hat5 hlt5 hv1 hrow
                    go_wp2_with fail
                    exact HQ.out _ _ ⟨⟨POST.out.1, fun hb => by cases hb⟩, ⟨fun _ => POST.out.2.1, fun h => by omega⟩, g, cap', w1.heap.size, r, k, _, EN.out, rfl, POST.out.2.2⟩
                  apply wpLooseA_val rfl rfl (by decide) (by decide)
                  case hs =>
                    intro b1 b2 w1 hC hd Q1 hQ1 hP1
                    dsimp only [bare]
                    have q1 := hC.1.2.2.1.cell 3 _ rfl
                    clear hd hP1
                    have HCC : Hid _ := hC
                    clear hC
                    go_wp2
                    exact ⟨HCC.out, ⟨fun h => by omega, fun _ => gb_refl _ _⟩⟩
                  case ha => rfl
                  refine wpLooseA_nil ?_
                  intro hJA lsA wA hlsA hCA hFA
                  simp only [CA, show lsA.getD 3 false = true from hlsA _ (by decide), show lsA.getD 5 false = true from hlsA _ (by decide)] at hCA
                  · obtain ⟨⟨h1, h2, h3, h4, h5, h6⟩, _⟩ := hCA
                    obtain ⟨g, cap', Y, r, k, l, e6, rfl, hown, hrows, hY⟩ := (hFA 5 _ rfl (by decide) (by simp) : ∃ (g cap' Y : Nat) (r : RN) (k : Nat) (l : List Value), rRule G j = some (r, k) ∧ vA_5 = .slice (some ⟨g, 0, none⟩) (ps.length + 1) cap' ∧ wA.ownsRow (w.heap.size + 2) 53 4 (.slice (some ⟨g, 0, none⟩) (ps.length + 1) cap') (ps.length + 1) (ps.flatMap (·.2) ++ l) ∧ RowsX (w.heap.size + 2) Y wA (some g) (ps ++ [(r, l)]) ∧ Y ≤ wA.heap.size)
                    have hg := (own_lt9 (x := g) hown rfl).1
                    have hjk := rRule_lt H0.out.2.2.2.1 e6
                    have HK : Hid ((rPolicy G = (rRulesF (f - 1) G k).map fun rs => (⟨ar, ac, da, (ps ++ [(r, l)]).map (·.1) ++ rs⟩ : PN)) ∧ G.length ≤ k + (f - 1) ∧ (ps ++ [(r, l)]).length ≤ k ∧ RdI (wA.setCell ⟨w.heap.size, 3, none⟩ (.slice (some ⟨g, 0, none⟩) (ps.length + 1) cap')) p a cap G k ∧ GB p w (wA.setCell ⟨w.heap.size, 3, none⟩ (.slice (some ⟨g, 0, none⟩) (ps.length + 1) cap')) ∧ Kn (wA.setCell ⟨w.heap.size, 3, none⟩ (.slice (some ⟨g, 0, none⟩) (ps.length + 1) cap')) w.heap.size [.int .i64 ar, .int .i64 ac, .int .i64 da, .slice (some ⟨g, 0, none⟩) (ps.length + 1) cap'] 26 ∧ Kn (wA.setCell ⟨w.heap.size, 3, none⟩ (.slice (some ⟨g, 0, none⟩) (ps.length + 1) cap')) (w.heap.size + 1) [.bool false] 4 ∧ RulesX (w.heap.size + 2) (wA.setCell ⟨w.heap.size, 3, none⟩ (.slice (some ⟨g, 0, none⟩) (ps.length + 1) cap')) (.slice (some ⟨g, 0, none⟩) (ps.length + 1) cap') (ps ++ [(r, l)])) := by
                      have hf := HI.out.2.1
                      refine ⟨?_, by omega, by have := HI.out.2.2.1; simp; omega, H0.out.1.fresh (by rw [show plc true jn j = k from HJN.out.trans (by rw [e6])] at h1; exact h1) (Nat.le_refl _), gb_fresh h2 (Nat.le_refl _), h3.set 3 _, h4.other (by omega) _ _, ?_, ?_⟩
                      · rw [HI.out.1, show f = (f - 1) + 1 by omega, rRulesF, if_neg hj, e6]
                        simp only [Nat.add_sub_cancel]
                        cases rRulesF (f - 1) G k <;> simp
                      · have := own_set (q := w.heap.size) (k := 3) (u := .slice (some ⟨g, 0, none⟩) (ps.length + 1) cap') hown (fun x hx => by simp [Value.ownBlock] at hx; omega)
                        simpa using this
                      · exact (hrows.kept (gb_set w.heap.size 3 wA _) (fun x hx _ => by injection hx with hx; omega)).up (by rw [World.size_setCell]; exact hY)
                    have HM : Hid (rdAt wr p = j ∧ j < k ∧ k ≤ G.length) := ⟨HI.out.2.2.2.1.place, hjk.1, hjk.2.1⟩
                    have q1 := h3.cell 3 _ rfl
                    have f3 := h3.free
                    clear h1 h2 h3 h4 h5 h6 hown hrows hFA hY HI e6 hjk X7
                    go_wp2
                    go_roundw
                    case rel => exact ⟨_, k, f - 1, _, HK.out⟩
                    case measure =>
                      have a1 := HK.out.2.2.2.1.place
                      have a2 := HM.out
                      rw [a1, a2.1]
                      omega
                  case hIA => exact ⟨_, _, _, _, _, _, _, rfl⟩
                  case hGA =>
                    rintro i oi u b hoi ⟨y26, y27, y28, y29, y30, y31, y32, rfl⟩
                    rcases i with _ | _ | _ | _ | _ | _ | _ | _ | i
                    · obtain rfl := Option.some.inj hoi; exact ⟨u, y27, y28, y29, y30, y31, y32, rfl⟩
                    · obtain rfl := Option.some.inj hoi; exact ⟨y26, u, y28, y29, y30, y31, y32, rfl⟩
                    · obtain rfl := Option.some.inj hoi; exact ⟨y26, y27, u, y29, y30, y31, y32, rfl⟩
                    · obtain rfl := Option.some.inj hoi; exact ⟨y26, y27, y28, u, y30, y31, y32, rfl⟩
                    · obtain rfl := Option.some.inj hoi; exact ⟨y26, y27, y28, y29, u, y31, y32, rfl⟩
                    · obtain rfl := Option.some.inj hoi; exact ⟨y26, y27, y28, y29, y30, u, y32, rfl⟩
                    · obtain rfl := Option.some.inj hoi; exact ⟨y26, y27, y28, y29, y30, y31, u, rfl⟩
                    · obtain rfl := Option.some.inj hoi; exact ⟨y26, y27, y28, y29, y30, y31, y32, rfl⟩
                    · cases hoi
                  case hBA =>
                    rintro b ch w10 ⟨y26, y27, y28, y29, y30, y31, y32, rfl⟩ ⟨rfl, e6, g10, k1, k2⟩
                    have F10 : Hid (GB p w w10 ∧ Kn w10 w.heap.size [.int .i64 ar, .int .i64 ac, .int .i64 da, v] 26 ∧ Kn w10 (w.heap.size + 1) [.bool false] 4) := ⟨g10, k1, k2⟩
                    have HN : Hid (rPolicy G = none) := by
                      have hf := HI.out.2.1
                      unfold Hid
                      rw [HI.out.1, show f = (f - 1) + 1 by omega, rRulesF, if_neg hj, e6]
                      rfl
                    clear g10 k1 k2 e6 HI X7
                    go_wp2
                    refine leaves_cons (f := 61) (args := #[.pointer (some ⟨w.heap.size, 0, none⟩), .pointer (some ⟨w.heap.size + 1, 0, none⟩)]) (by simp) (by simp [go_sem]) ?_
                    refine (catch_wrong w.heap.size (w.heap.size + 1) [.int .i64 ar, .int .i64 ac, .int .i64 da, v] false [] w10 rfl F10.out.2.1 F10.out.2.2 (by omega)).mono ?_
                    rintro e u w9 ⟨rfl, rfl, k1, k2, hgb⟩
                    have G9 : Hid (GB p w w9) := hgb p w F10.out.1 (Nat.le_refl _) (by omega)
                    obtain ⟨c0, c1, c2, c3, d0⟩ := (⟨k1.cell 0 _ rfl, k1.cell 1 _ rfl, k1.cell 2 _ rfl, k1.cell 3 _ rfl, k2.cell 0 _ rfl⟩ : _ ∧ _ ∧ _ ∧ _ ∧ _)
                    have POST : Hid (GotP (rPolicy G) w.heap.size (.returned (.tuple #[.agg #[.int .i64 0, .int .i64 0, .int .i64 0, .slice none 0 0], .bool false])) w9 ∧ GB p w w9) := ⟨gotP_none HN.out rfl, G9.out⟩
                    clear k1 k2 hgb F10
                    simp [Leaves, settle, results, Tryz.results27, go_sem, *]
                    exact POST.out
                  case hAA => kernel_rfl
                  case hlA => exact ⟨trivial, trivial, trivial, fun i hi vv W W' ⟨r, k, a1, n1, c1, a2, n2, c2, e1, e2, e3⟩ hT => ⟨r, k, a1, n1, c1, a2, n2, c2, e1, e2, by by_cases h5 : i = 5; exact e3.kept (hT.1 h5) (fun x hx e => by have := (e3.blocks x hx).1; have := (X7.out.2.2.2.2.2.2.2.2.1 x e).2; omega); exact e3.kept (hT.2 h5) (fun x hx e => by have := (e3.blocks x hx).1; have := X7.out.2.2.2.2.2.2.2.2.2; injection e with e; omega)⟩, fun i hi vv W W' ⟨h, r, k, a1, n1, c1, a2, n2, c2, e1, e2, e4, e5, e3⟩ hT => ⟨h, r, k, a1, n1, c1, a2, n2, c2, e1, e2, e4, by by_cases h5 : i = 5; exact e5.row (hT.1 h5) (fun e => by have := (X7.out.2.2.2.2.2.2.2.2.1 _ e).2; omega); exact e5.row (hT.2 h5) (fun e => by have := X7.out.2.2.2.2.2.2.2.2.2; injection e with e; omega), by by_cases h5 : i = 5; exact e3.kept (hT.1 h5) (fun x hx e => by have := (e3.blocks x hx).1; have := (X7.out.2.2.2.2.2.2.2.2.1 x e).2; omega); exact e3.kept (hT.2 h5) (fun x hx e => by have := (e3.blocks x hx).1; have := X7.out.2.2.2.2.2.2.2.2.2; injection e with e; omega)⟩, fun i hi vv W W' ⟨g, cap', Y, r, k, l, e1, e2, e3, e4, e5⟩ hT => ⟨g, cap', Y, r, k, l, e1, e2, own_gb e3 (by have := X7.out.2.2.2.2.2.2.1; omega) (hT.2 hi), e4.kept (hT.2 hi) (fun x hx _ => by injection hx with hx; have := X7.out.2.2.2.2.2.2.1; omega), Nat.le_trans e5 (hT.2 hi).size⟩, trivial, trivial⟩

theorem flat4_at : ∀ (ps : List (RN × List Value)) (j i : Nat) (q : RN × List Value) (v : Value), (∀ q ∈ ps, q.2.length = 4) → ps[j]? = some q → q.2[i]? = some v → (ps.flatMap (·.2))[j * 4 + i]? = some v
  | [], j, i, q, v, _, h, _ => by simp at h
  | x :: ps, 0, i, q, v, hl, h, hv => by
    simp at h; subst h
    have hi := (List.getElem?_eq_some_iff.1 hv).1
    rw [List.flatMap_cons, List.getElem?_append_left (by simpa using hi)]
    simpa using hv
  | x :: ps, j + 1, i, q, v, hl, h, hv => by
    have h4 : x.2.length = 4 := hl x (by simp)
    have := flat4_at ps j i q v (fun q hq => hl q (by simp [hq])) (by simpa using h) hv
    rw [List.flatMap_cons, List.getElem?_append_right (by omega)]
    rw [show (j + 1) * 4 + i - x.2.length = j * 4 + i by omega]
    exact this

theorem RuleX.rule {B : Nat} {w : World} {r : RN} {l : List Value} (h : RuleX B w r l) : RuleL w r l ∧ l.length = 4 := by
  obtain ⟨v1, v2, B2, rfl, h1, h2, h3, h4⟩ := h
  obtain ⟨a1, c1, rfl, k1, _⟩ := own_nums h1 rfl
  obtain ⟨a2, c2, rfl, k2, _⟩ := own_conds h2 rfl
  exact ⟨⟨a1, _, c1, a2, _, c2, rfl, rfl, rfl, k1, k2⟩, rfl⟩

theorem RowsX.rule {B Z : Nat} {w : World} {o : Option Nat} {ps : List (RN × List Value)} (h : RowsX B Z w o ps) {j : Nat} {q : RN × List Value} (hq : ps[j]? = some q) : RuleL w q.1 q.2 ∧ q.2.length = 4 := by
  obtain ⟨m, h1, h2, h3, h4⟩ := h
  exact (h4 j q hq).1.rule

theorem RowsX.four {B Z : Nat} {w : World} {o : Option Nat} {ps : List (RN × List Value)} (h : RowsX B Z w o ps) : ∀ q ∈ ps, q.2.length = 4 := fun q hq => by
  obtain ⟨j, hj⟩ := List.getElem?_of_mem hq
  exact (h.rule hj).2

theorem map_at {ps : List (RN × List Value)} {j : Nat} {q : RN × List Value} (h : ps[j]? = some q) : (ps.map (·.1)).getD j r0 = q.1 := by
  rw [List.getD_eq_getElem?_getD, List.getElem?_map, h]; rfl

theorem RulesX.rules {B : Nat} {w : World} {v : Value} {ps : List (RN × List Value)} (h : RulesX B w v ps) : ∃ a cap, v = .slice a ps.length cap ∧ Rules w a (ps.map (·.1)) := by
  obtain ⟨ho, hr⟩ := h
  rcases ho.2 with ⟨rfl, h0⟩ | ⟨g, cap, cur, rfl, hg, hh, hnc, hcp, hcs, htake⟩
  · exact ⟨none, 0, by rw [h0], fun hp => by simp at hp; omega⟩
  · have hlt := (Array.getElem?_eq_some_iff.1 hh).1
    refine ⟨some ⟨g, 0, none⟩, cap, rfl, fun hp => ⟨g, 0, rfl, hlt, fun j hj => ?_⟩⟩
    have hj2 : j < ps.length := by simpa using hj
    have hq : ps[j]? = some ps[j] := List.getElem?_eq_getElem hj2
    refine ⟨(ps[j]).2, fun i u hu => ?_, by rw [map_at hq]; exact (hr.rule hq).1⟩
    have h4 := (hr.rule hq).2
    have hi : i < 4 := by have := (List.getElem?_eq_some_iff.1 hu).1; omega
    have e1 := flat4_at ps j i _ u hr.four hq hu
    rw [← htake, List.getElem?_take, if_pos (by omega)] at e1
    rw [Nat.zero_add, cell_of_row w g _ cur 53 _ hh]
    simpa using e1

theorem RulesX.down {B C : Nat} {w : World} {v : Value} {ps : List (RN × List Value)} (h : RulesX B w v ps) (hC : C ≤ B) : RulesX C w v ps := by
  obtain ⟨d, rfl⟩ : ∃ d, B = C + d := ⟨B - C, by omega⟩
  exact h.low

theorem RulesX.rep {B : Nat} {w : World} {v : Value} {ps : List (RN × List Value)} (h : RulesX B w v ps) (ar ac da : Int) : RepPol ⟨ar, ac, da, ps.map (·.1)⟩ (.agg #[.int .i64 ar, .int .i64 ac, .int .i64 da, v]) w := by
  obtain ⟨a, cap, rfl, hr⟩ := h.rules
  exact ⟨a, cap, by simp, hr⟩

/- How long. -/

theorem rRulesF_small {G : List Sg} (hG : Good G) : ∀ (f i : Nat) {l : List RN}, i ≤ G.length → rRulesF f G i = some l → l.length + i ≤ G.length ∧ ∀ r ∈ l, r.nums.length ≤ G.length ∧ r.conds.length ≤ G.length
  | 0, i, l, hi, e => by simp [rRulesF] at e; subst e; simp; omega
  | f + 1, i, l, hi, e => by
    rw [rRulesF] at e
    split at e
    · simp at e; subst e; simp; omega
    · cases er : rRule G i with
      | none => rw [er] at e; simp at e
      | some x =>
        obtain ⟨r, j⟩ := x
        rw [er] at e
        have hr := rRule_lt hG er
        simp only at e
        cases ec : rRulesF f G j with
        | none => rw [ec] at e; simp at e
        | some y =>
          rw [ec] at e
          obtain ⟨h1, h2⟩ := rRulesF_small hG f j (by omega) ec
          simp at e
          subst e
          refine ⟨by simp; omega, fun q hq => ?_⟩
          rcases List.mem_cons.1 hq with rfl | hq
          · omega
          · exact h2 q hq

theorem smallR_of {rs : List RN} (hl : rs.length ≤ 1048576) (h : ∀ r ∈ rs, Small r) : SmallR rs := ⟨hl, fun k hk => by
  rw [List.getD_eq_getElem?_getD, List.getElem?_eq_getElem hk]
  exact h _ (List.getElem_mem hk)⟩

theorem rPolicy_small {G : List Sg} (hG : Good G) (hl : G.length ≤ 1200) {p : PN} (h : rPolicy G = some p) : SmallR p.rules ∧ p.rules.length ≤ 1200 := by
  unfold rPolicy at h
  cases eh : rHead G with
  | none => rw [eh] at h; simp at h
  | some x =>
    obtain ⟨x, i⟩ := x
    rw [eh] at h
    have h0 := rHead_lt eh
    simp only at h
    cases er : rRulesF G.length G i with
    | none => rw [er] at h; simp at h
    | some l =>
      rw [er] at h
      obtain ⟨h1, h2⟩ := rRulesF_small hG _ i h0.1 er
      simp at h
      subst h
      exact ⟨smallR_of (by simp only; omega) fun r hr => by have := h2 r hr; exact ⟨by omega, by omega⟩, by simp only; omega⟩

theorem sNumsF_len {G : List Sg} : ∀ (f : Nat) (acc : List Int) (t : Option Nat), acc.length ≤ G.length + 1 → (∀ i, t = some i → acc.length ≤ i ∧ i ≤ G.length) → (sNumsF f G acc t).1.length ≤ G.length + 1
  | 0, acc, t, h, _ => h
  | f + 1, acc, none, h, _ => h
  | f + 1, acc, some i, h, ht => by
    obtain ⟨h1, h2⟩ := ht i rfl
    have hp := putZ_len acc (sCall G (some i)).1
    rw [sNumsF]
    cases hz : sIs G (sGot G acc (some i)) 3 tComma
    · simp only [Bool.false_eq_true, if_false]; omega
    · simp only [if_true]
      obtain ⟨j, hj, hjl⟩ := sIs_lt hz
      have hij : i < j := by
        unfold sGot at hj
        split at hj
        · cases hj
        · exact sCall_next hj
      refine sNumsF_len f _ _ (by omega) (fun k hk => ?_)
      rw [hj] at hk
      simp [nx] at hk
      omega

theorem sAndF_len {G : List Sg} : ∀ (f : Nat) (acc : List CN) (t : Option Nat), acc.length ≤ G.length + 1 → (∀ i, t = some i → acc.length ≤ i ∧ i ≤ G.length) → (sAndF f G acc t).1.length ≤ G.length + 1
  | 0, acc, t, h, _ => h
  | f + 1, acc, none, h, _ => h
  | f + 1, acc, some i, h, ht => by
    obtain ⟨h1, h2⟩ := ht i rfl
    rw [sAndF]
    cases hz : sIs G (sCond G (some i)).2 1 tAnd
    · simp only [Bool.false_eq_true, if_false]; simp; omega
    · simp only [if_true]
      obtain ⟨j, hj, hjl⟩ := sIs_lt hz
      have hij := sCond_mono G i j hj
      refine sAndF_len f _ _ (by simp; omega) (fun k hk => ?_)
      rw [hj] at hk
      simp [nx] at hk
      simp; omega

theorem sWt_le {G : List Sg} {s : Option Nat} {k : Int} {t : List UInt8} {i : Nat} (h : sWt G s k t = some i) : i ≤ G.length := by
  unfold sWt at h
  cases hz : sIs G s k t
  · rw [hz] at h; simp at h
  · rw [hz] at h
    obtain ⟨j, rfl, hj⟩ := sIs_lt hz
    simp [nx] at h; omega

theorem sRule_small {G : List Sg} (hl : G.length ≤ 1200) (s : Option Nat) : Small (sRule G s).1 := by
  unfold sRule
  simp only
  constructor
  · simp only
    unfold sNums
    cases hz : sIs G (sWt G s 1 tOn) 1 tAny
    · simp only [Bool.false_eq_true, if_false]
      have := sNumsF_len (G := G) (G.length + 1) [] (sWt G s 1 tOn) (by simp) (fun i hi => ⟨by simp, sWt_le hi⟩)
      omega
    · simp
  · simp only
    generalize (sNums G (sWt G s 1 tOn)).2 = t
    unfold sConds
    cases hz : sIs G t 1 tIf
    · simp
    · simp only [if_true]
      obtain ⟨j, rfl, hj⟩ := sIs_lt hz
      have := sAndF_len (G := G) (G.length + 1) [] (nx (some j)) (by simp) (fun i hi => ⟨by simp, by simp [nx] at hi; omega⟩)
      omega

/-- What a text tells: a policy that is right, or nothing. -/
def readT (s : ByteArray) : Option PN := match signsR s.data.toList with
  | none => none
  | some G => readG G

theorem own3_lt {w : World} {B : Nat} {v : Value} {ps : List Sg} (h : Own3 w B v ps) {a : Option Addr} {c n : Nat} (hv : v = .slice a n c) : ∀ b o s, a = some ⟨b, o, s⟩ → B ≤ b ∧ b < w.heap.size := fun b o s e => by
  have h' : w.ownsRow B 98 3 v ps.length (flatG ps) := h
  exact own_lt9 (x := b) h' (by rw [hv, e]; rfl)

set_option maxRecDepth 100000 in
set_option maxHeartbeats 1600000 in
theorem iRead_any (s : ByteArray) (w : World) (hC : Cms w) (hs : s.size ≤ 1048576) :
    Calls Tryz.prog 8 #[.string s] w fun e w' => GotP (readT s) w.heap.size e w' ∧ Ext w w' := by
  have K0 : Hid (Kn (w.alloc (.cells #[.int .i64 0, .int .i64 0, .int .i64 0, .slice none 0 0] 26)) w.heap.size [.int .i64 0, .int .i64 0, .int .i64 0, .slice none 0 0] 26 ∧ Ext w (w.alloc (.cells #[.int .i64 0, .int .i64 0, .int .i64 0, .slice none 0 0] 26))) := ⟨Kn.new w _ _, Ext.one _ _⟩
  have HC0 : Hid (Cms w) := hC
  have HS : Hid (Calls Tryz.prog 26 #[.string s] (w.alloc (.cells #[.int .i64 0, .int .i64 0, .int .i64 0, .slice none 0 0] 26)) fun e w' => ∃ v, e = .returned (.tuple #[v, .bool (signsR s.data.toList).isSome]) ∧ Own3 w' (w.alloc (.cells #[.int .i64 0, .int .i64 0, .int .i64 0, .slice none 0 0] 26)).heap.size v ((signsR s.data.toList).getD []) ∧ Ext (w.alloc (.cells #[.int .i64 0, .int .i64 0, .int .i64 0, .slice none 0 0] 26)) w') := iSigns_any s _
  have HG : Hid (readT s = match signsR s.data.toList with
    | none => none
    | some G => readG G) := rfl
  have HL : Hid (((signsR s.data.toList).getD []).length ≤ 1200) := signsR_length _
  clear hC
  cases e0 : signsR s.data.toList with
  | none =>
    rw [e0] at HS HG
    have HN : Hid (readT s = none) := HG.out
    clear HG HL e0
    simp only [Option.isSome_none, Option.getD_none] at HS
    go_enter Tryz.func8, Tryz.ntmps8
    go_wp2_with fail
    generalize w.alloc (.cells #[.int .i64 0, .int .i64 0, .int .i64 0, .slice none 0 0] 26) = W0 at *
    refine (show Calls Tryz.prog 26 _ _ _ from HS.out).mono ?_
    rintro e w1 ⟨v, rfl, o1, x1⟩
    obtain ⟨a1, e1, rfl⟩ := own_slice (show w1.ownsRow _ 98 3 v _ _ from o1)
    have kr := K0.out.1.ext x1
    have XE : Hid (Ext w w1) := K0.out.2.trans x1
    have f1 := kr.free
    obtain ⟨c0, c1, c2, c3⟩ := (⟨kr.cell 0 _ rfl, kr.cell 1 _ rfl, kr.cell 2 _ rfl, kr.cell 3 _ rfl⟩ : _ ∧ _ ∧ _ ∧ _)
    have XF : Hid (Ext w ((((w1.setCell ⟨w.heap.size, 0, none⟩ (.int .i64 0)).setCell ⟨w.heap.size, 1, none⟩ (.int .i64 0)).setCell ⟨w.heap.size, 2, none⟩ (.int .i64 0)).setCell ⟨w.heap.size, 3, none⟩ (.slice none 0 0)) ∧ Kn ((((w1.setCell ⟨w.heap.size, 0, none⟩ (.int .i64 0)).setCell ⟨w.heap.size, 1, none⟩ (.int .i64 0)).setCell ⟨w.heap.size, 2, none⟩ (.int .i64 0)).setCell ⟨w.heap.size, 3, none⟩ (.slice none 0 0)) w.heap.size [.int .i64 0, .int .i64 0, .int .i64 0, .slice none 0 0] 26) := ⟨(((XE.out.set (Nat.le_refl _) _ _).set (Nat.le_refl _) _ _).set (Nat.le_refl _) _ _).set (Nat.le_refl _) _ _, (((kr.set 0 _).set 1 _).set 2 _).set 3 _⟩
    clear kr HS o1 x1 K0
    go_wp2
    generalize ((((w1.setCell ⟨w.heap.size, 0, none⟩ (.int .i64 0)).setCell ⟨w.heap.size, 1, none⟩ (.int .i64 0)).setCell ⟨w.heap.size, 2, none⟩ (.int .i64 0)).setCell ⟨w.heap.size, 3, none⟩ (.slice none 0 0)) = WF at *
    clear f1 c0 c1 c2 c3
    obtain ⟨c0, c1, c2, c3⟩ := (⟨XF.out.2.cell 0 _ rfl, XF.out.2.cell 1 _ rfl, XF.out.2.cell 2 _ rfl, XF.out.2.cell 3 _ rfl⟩ : _ ∧ _ ∧ _ ∧ _)
    refine bodyPost_ret (v := .tuple #[.agg #[.int .i64 0, .int .i64 0, .int .i64 0, .slice none 0 0], .bool false]) (by simp [results, Tryz.results8, go_sem, *]) rfl ?_
    exact ⟨gotP_none HN.out rfl, XF.out.1⟩
  | some G =>
    have hG : Good G := signsR_good e0
    rw [e0] at HS HG HL
    have HG2 : Hid (readT s = readG G) := HG.out
    have HGL : Hid (G.length ≤ 1200 ∧ Good G) := ⟨HL.out, hG⟩
    clear HG HL e0 hG
    simp only [Option.isSome_some, Option.getD_some] at HS
    go_enter Tryz.func8, Tryz.ntmps8
    go_wp2_with fail
    generalize w.alloc (.cells #[.int .i64 0, .int .i64 0, .int .i64 0, .slice none 0 0] 26) = W0 at *
    refine (show Calls Tryz.prog 26 _ _ _ from HS.out).mono ?_
    rintro e w1 ⟨v, rfl, o1, x1⟩
    obtain ⟨a1, e1, hv, hsg, hgg⟩ := Own3.signs o1
    have hb1 := own3_lt o1 hv
    obtain ⟨gl, hgl⟩ : ∃ gl, gl = G.length := ⟨_, rfl⟩
    rw [← hgl] at hv
    subst hv
    have hR : w.heap.size < w1.heap.size := (K0.out.1.ext x1).lt
    have X2 : Hid (RdI (w1.alloc (.cells #[.slice a1 gl e1, .int .i64 0] 59)) w1.heap.size a1 e1 G 0 ∧ Ext w (w1.alloc (.cells #[.slice a1 gl e1, .int .i64 0] 59)) ∧ Kn (w1.alloc (.cells #[.slice a1 gl e1, .int .i64 0] 59)) w.heap.size [.int .i64 0, .int .i64 0, .int .i64 0, .slice none 0 0] 26) :=
      ⟨⟨by rw [hgl]; exact Kn.new w1 _ _, by omega, HGL.out.1, hsg.ext (Ext.one _ _), fun b o s e => by have := (hb1 b o s e).2; omega⟩, (K0.out.2.trans x1).trans (Ext.one _ _), (K0.out.1.ext x1).alloc _⟩
    have HP : Hid (w.heap.size < w1.heap.size ∧ w1.heap.size ≠ 0) := ⟨hR, by omega⟩
    clear o1 x1 hsg hgg hb1 hR K0 HS hgl
    go_wp2_with fail
    generalize w1.alloc (.cells #[.slice a1 gl e1, .int .i64 0] 59) = W2 at *
    generalize w1.heap.size = p at *
    have HR : Hid (Calls Tryz.prog 27 #[.pointer (some ⟨p, 0, none⟩)] W2 fun e w' => GotP (rPolicy G) W2.heap.size e w' ∧ GB p W2 w') := rpolicy_any X2.out.1 HGL.out.2 HP.out.2 (HC0.out.ext X2.out.2.1)
    have HGR : Hid (readG G = match rPolicy G with
      | none => none
      | some p => if policyB p then some p else none) := rfl
    cases e2 : rPolicy G with
    | none =>
      rw [e2] at HGR HR
      have HN : Hid (readT s = none) := by unfold Hid; rw [HG2.out, HGR.out]
      clear HG2 HGR e2
      refine (show Calls Tryz.prog 27 _ _ _ from HR.out).mono ?_
      rintro e w3 ⟨he, g3⟩
      have he2 : e = .returned (.tuple #[.agg #[.int .i64 0, .int .i64 0, .int .i64 0, .slice none 0 0], .bool false]) := he
      subst he2
      have kr := (X2.out.2.2.gb (by have := HP.out.1; omega) g3).alloc (.cells #[.int .i64 0, .int .i64 0, .int .i64 0, .slice none 0 0] 26)
      have XE : Hid (Ext w (w3.alloc (.cells #[.int .i64 0, .int .i64 0, .int .i64 0, .slice none 0 0] 26))) := (ext_row X2.out.2.1 g3 (fun x hx => by injection hx with hx; have := HP.out.1; omega)).trans (Ext.one _ _)
      clear he g3
      have f1 := kr.free
      obtain ⟨c0, c1, c2, c3⟩ := (⟨kr.cell 0 _ rfl, kr.cell 1 _ rfl, kr.cell 2 _ rfl, kr.cell 3 _ rfl⟩ : _ ∧ _ ∧ _ ∧ _)
      have XF : Hid (Ext w (((((w3.alloc (.cells #[.int .i64 0, .int .i64 0, .int .i64 0, .slice none 0 0] 26)).setCell ⟨w.heap.size, 0, none⟩ (.int .i64 0)).setCell ⟨w.heap.size, 1, none⟩ (.int .i64 0)).setCell ⟨w.heap.size, 2, none⟩ (.int .i64 0)).setCell ⟨w.heap.size, 3, none⟩ (.slice none 0 0)) ∧ Kn (((((w3.alloc (.cells #[.int .i64 0, .int .i64 0, .int .i64 0, .slice none 0 0] 26)).setCell ⟨w.heap.size, 0, none⟩ (.int .i64 0)).setCell ⟨w.heap.size, 1, none⟩ (.int .i64 0)).setCell ⟨w.heap.size, 2, none⟩ (.int .i64 0)).setCell ⟨w.heap.size, 3, none⟩ (.slice none 0 0)) w.heap.size [.int .i64 0, .int .i64 0, .int .i64 0, .slice none 0 0] 26) := ⟨(((XE.out.set (Nat.le_refl _) _ _).set (Nat.le_refl _) _ _).set (Nat.le_refl _) _ _).set (Nat.le_refl _) _ _, (((kr.set 0 _).set 1 _).set 2 _).set 3 _⟩
      clear kr HR X2
      go_wp2
      generalize (((((w3.alloc (.cells #[.int .i64 0, .int .i64 0, .int .i64 0, .slice none 0 0] 26)).setCell ⟨w.heap.size, 0, none⟩ (.int .i64 0)).setCell ⟨w.heap.size, 1, none⟩ (.int .i64 0)).setCell ⟨w.heap.size, 2, none⟩ (.int .i64 0)).setCell ⟨w.heap.size, 3, none⟩ (.slice none 0 0)) = WF at *
      clear f1 c0 c1 c2 c3
      obtain ⟨c0, c1, c2, c3⟩ := (⟨XF.out.2.cell 0 _ rfl, XF.out.2.cell 1 _ rfl, XF.out.2.cell 2 _ rfl, XF.out.2.cell 3 _ rfl⟩ : _ ∧ _ ∧ _ ∧ _)
      refine bodyPost_ret (v := .tuple #[.agg #[.int .i64 0, .int .i64 0, .int .i64 0, .slice none 0 0], .bool false]) (by simp [results, Tryz.results8, go_sem, *]) rfl ?_
      exact ⟨gotP_none HN.out rfl, XF.out.1⟩
    | some pol =>
      obtain ⟨hsm, hsl⟩ := rPolicy_small HGL.out.2 HGL.out.1 e2
      have HSM : Hid (SmallR pol.rules) := hsm
      rw [e2] at HGR HR
      have HN : Hid (readT s = if policyB pol then some pol else none) := by unfold Hid; rw [HG2.out, HGR.out]
      clear HG2 HGR e2 hsm hsl
      refine (show Calls Tryz.prog 27 _ _ _ from HR.out).mono ?_
      rintro e w3 ⟨he, g3⟩
      obtain ⟨v, ps, rfl, hps, hx⟩ : ∃ (v : Value) (ps : List (RN × List Value)), e = .returned (.tuple #[.agg #[.int .i64 pol.arch, .int .i64 pol.act, .int .i64 pol.data, v], .bool true]) ∧ pol.rules = ps.map (·.1) ∧ RulesX W2.heap.size w3 v ps := he
      obtain ⟨sa, sc, hv⟩ := own_slice hx.1
      obtain ⟨sn, hsn⟩ : ∃ sn, sn = ps.length := ⟨_, rfl⟩
      rw [← hsn] at hv
      subst hv
      obtain ⟨ar, ac, da, rs⟩ := pol
      simp only at hps
      subst hps
      clear hsn
      have X4 : Hid (Ext w (w3.alloc (.cells #[.int .i64 ar, .int .i64 ac, .int .i64 da, .slice sa sn sc] 26)) ∧ Kn (w3.alloc (.cells #[.int .i64 ar, .int .i64 ac, .int .i64 da, .slice sa sn sc] 26)) w.heap.size [.int .i64 0, .int .i64 0, .int .i64 0, .slice none 0 0] 26 ∧ RulesX (w.heap.size + 1) (w3.alloc (.cells #[.int .i64 ar, .int .i64 ac, .int .i64 da, .slice sa sn sc] 26)) (.slice sa sn sc) ps ∧ Kn (w3.alloc (.cells #[.int .i64 ar, .int .i64 ac, .int .i64 da, .slice sa sn sc] 26)) w3.heap.size [.int .i64 ar, .int .i64 ac, .int .i64 da, .slice sa sn sc] 26 ∧ w.heap.size ≠ w3.heap.size) :=
        ⟨(ext_row X2.out.2.1 g3 (fun x hx => by injection hx with hx; have := HP.out.1; omega)).trans (Ext.one _ _), (X2.out.2.2.gb (by have := HP.out.1; omega) g3).alloc _, (hx.down (by have := X2.out.2.2.lt; omega)).ext (Ext.one _ _), Kn.new w3 _ _, by have := X2.out.2.2.lt; have := g3.size; omega⟩
      clear g3 hx HR X2
      go_wp2_with fail
      generalize w3.alloc (.cells #[.int .i64 ar, .int .i64 ac, .int .i64 da, .slice sa sn sc] 26) = W4 at *
      generalize w3.heap.size = q at *
      have HOK : Hid (Calls Tryz.prog 22 #[.agg #[.int .i64 ar, .int .i64 ac, .int .i64 da, .slice sa sn sc]] W4 fun e w' => e = .returned (.bool (policyB ⟨ar, ac, da, ps.map (·.1)⟩)) ∧ Ext W4 w') := iPolicyOk_rep HSM.out (X4.out.2.2.1.rep ar ac da)
      have kq := X4.out.2.2.2.1
      obtain ⟨d0, d1, d2, d3⟩ := (⟨kq.cell 0 _ rfl, kq.cell 1 _ rfl, kq.cell 2 _ rfl, kq.cell 3 _ rfl⟩ : _ ∧ _ ∧ _ ∧ _)
      clear kq
      cases ez : policyB ⟨ar, ac, da, ps.map (·.1)⟩
      · rw [ez] at HOK HN
        have HN2 : Hid (readT s = none) := HN.out
        clear HN ez
        go_wp2_with fail
        refine (show Calls Tryz.prog 22 _ _ _ from HOK.out).mono ?_
        rintro e w5 ⟨rfl, x5⟩
        have kr := X4.out.2.1.ext x5
        have XE : Hid (Ext w w5) := X4.out.1.trans x5
        clear d0 d1 d2 d3
        have f1 := kr.free
        obtain ⟨c0, c1, c2, c3⟩ := (⟨kr.cell 0 _ rfl, kr.cell 1 _ rfl, kr.cell 2 _ rfl, kr.cell 3 _ rfl⟩ : _ ∧ _ ∧ _ ∧ _)
        have XF : Hid (Ext w ((((w5.setCell ⟨w.heap.size, 0, none⟩ (.int .i64 0)).setCell ⟨w.heap.size, 1, none⟩ (.int .i64 0)).setCell ⟨w.heap.size, 2, none⟩ (.int .i64 0)).setCell ⟨w.heap.size, 3, none⟩ (.slice none 0 0)) ∧ Kn ((((w5.setCell ⟨w.heap.size, 0, none⟩ (.int .i64 0)).setCell ⟨w.heap.size, 1, none⟩ (.int .i64 0)).setCell ⟨w.heap.size, 2, none⟩ (.int .i64 0)).setCell ⟨w.heap.size, 3, none⟩ (.slice none 0 0)) w.heap.size [.int .i64 0, .int .i64 0, .int .i64 0, .slice none 0 0] 26) := ⟨(((XE.out.set (Nat.le_refl _) _ _).set (Nat.le_refl _) _ _).set (Nat.le_refl _) _ _).set (Nat.le_refl _) _ _, (((kr.set 0 _).set 1 _).set 2 _).set 3 _⟩
        clear kr HOK x5 X4 HSM
        go_wp2
        generalize ((((w5.setCell ⟨w.heap.size, 0, none⟩ (.int .i64 0)).setCell ⟨w.heap.size, 1, none⟩ (.int .i64 0)).setCell ⟨w.heap.size, 2, none⟩ (.int .i64 0)).setCell ⟨w.heap.size, 3, none⟩ (.slice none 0 0)) = WF at *
        clear f1 c0 c1 c2 c3
        obtain ⟨c0, c1, c2, c3⟩ := (⟨XF.out.2.cell 0 _ rfl, XF.out.2.cell 1 _ rfl, XF.out.2.cell 2 _ rfl, XF.out.2.cell 3 _ rfl⟩ : _ ∧ _ ∧ _ ∧ _)
        refine bodyPost_ret (v := .tuple #[.agg #[.int .i64 0, .int .i64 0, .int .i64 0, .slice none 0 0], .bool false]) (by simp [results, Tryz.results8, go_sem, *]) rfl ?_
        exact ⟨gotP_none HN2.out rfl, XF.out.1⟩
      · rw [ez] at HOK HN
        have HN2 : Hid (readT s = some ⟨ar, ac, da, ps.map (·.1)⟩) := HN.out
        clear HN ez
        go_wp2_with fail
        refine (show Calls Tryz.prog 22 _ _ _ from HOK.out).mono ?_
        rintro e w5 ⟨rfl, x5⟩
        have kr := X4.out.2.1.ext x5
        have kq := X4.out.2.2.2.1.ext x5
        have XE : Hid (Ext w w5) := X4.out.1.trans x5
        have hne := X4.out.2.2.2.2
        have hne2 : ¬ q = w.heap.size := fun e => hne e.symm
        clear d0 d1 d2 d3
        obtain ⟨d0, d1, d2, d3⟩ := (⟨kq.cell 0 _ rfl, kq.cell 1 _ rfl, kq.cell 2 _ rfl, kq.cell 3 _ rfl⟩ : _ ∧ _ ∧ _ ∧ _)
        have f2 := kq.free
        have XR : Hid (RulesX (w.heap.size + 1) ((((w5.setCell ⟨w.heap.size, 0, none⟩ (.int .i64 ar)).setCell ⟨w.heap.size, 1, none⟩ (.int .i64 ac)).setCell ⟨w.heap.size, 2, none⟩ (.int .i64 da)).setCell ⟨w.heap.size, 3, none⟩ (.slice sa sn sc)) (.slice sa sn sc) ps) := (((((X4.out.2.2.1.ext x5).gb (Nat.lt_succ_self _) (gb_set _ _ _ _)).gb (Nat.lt_succ_self _) (gb_set _ _ _ _)).gb (Nat.lt_succ_self _) (gb_set _ _ _ _)).gb (Nat.lt_succ_self _) (gb_set _ _ _ _))
        have f1 := kr.free
        obtain ⟨c0, c1, c2, c3⟩ := (⟨kr.cell 0 _ rfl, kr.cell 1 _ rfl, kr.cell 2 _ rfl, kr.cell 3 _ rfl⟩ : _ ∧ _ ∧ _ ∧ _)
        have XF : Hid (Ext w ((((w5.setCell ⟨w.heap.size, 0, none⟩ (.int .i64 ar)).setCell ⟨w.heap.size, 1, none⟩ (.int .i64 ac)).setCell ⟨w.heap.size, 2, none⟩ (.int .i64 da)).setCell ⟨w.heap.size, 3, none⟩ (.slice sa sn sc)) ∧ Kn ((((w5.setCell ⟨w.heap.size, 0, none⟩ (.int .i64 ar)).setCell ⟨w.heap.size, 1, none⟩ (.int .i64 ac)).setCell ⟨w.heap.size, 2, none⟩ (.int .i64 da)).setCell ⟨w.heap.size, 3, none⟩ (.slice sa sn sc)) w.heap.size [.int .i64 ar, .int .i64 ac, .int .i64 da, .slice sa sn sc] 26) := ⟨(((XE.out.set (Nat.le_refl _) _ _).set (Nat.le_refl _) _ _).set (Nat.le_refl _) _ _).set (Nat.le_refl _) _ _, (((kr.set 0 _).set 1 _).set 2 _).set 3 _⟩
        clear kr HOK x5 X4 HSM kq
        go_wp2
        generalize ((((w5.setCell ⟨w.heap.size, 0, none⟩ (.int .i64 ar)).setCell ⟨w.heap.size, 1, none⟩ (.int .i64 ac)).setCell ⟨w.heap.size, 2, none⟩ (.int .i64 da)).setCell ⟨w.heap.size, 3, none⟩ (.slice sa sn sc)) = WF at *
        clear f1 c0 c1 c2 c3
        obtain ⟨c0, c1, c2, c3⟩ := (⟨XF.out.2.cell 0 _ rfl, XF.out.2.cell 1 _ rfl, XF.out.2.cell 2 _ rfl, XF.out.2.cell 3 _ rfl⟩ : _ ∧ _ ∧ _ ∧ _)
        refine bodyPost_ret (v := .tuple #[.agg #[.int .i64 ar, .int .i64 ac, .int .i64 da, .slice sa sn sc], .bool true]) (by simp [results, Tryz.results8, go_sem, *]) rfl ?_
        exact ⟨gotP_some HN2.out rfl rfl (XR.out.down (Nat.le_succ _)), XF.out.1⟩

theorem sAct_mono {G : List Sg} {s : Option Nat} {j : Nat} (h : (sAct G s).2 = some j) : ∃ i, s = some i ∧ i ≤ j := by
  have name_mono : ∀ {k : Nat}, (sName G s).2 = some k → ∃ i, s = some i ∧ i ≤ k := by
    intro k hk
    cases s with
    | none => simp [sName] at hk
    | some i =>
      refine ⟨i, rfl, ?_⟩
      unfold sName at hk
      simp only at hk
      split at hk
      · simp at hk; omega
      · simp at hk
  unfold sAct at h
  split at h
  · simp at h
  · split at h
    · obtain ⟨i1, h1, l1⟩ := sNum_mono h
      obtain ⟨i2, h2, l2⟩ := name_mono h1
      exact ⟨i2, h2, by omega⟩
    · exact name_mono h

theorem sAndF_mono {G : List Sg} : ∀ (f : Nat) (acc : List CN) (t : Option Nat) {j : Nat}, (sAndF f G acc t).2 = some j → ∃ i, t = some i ∧ i ≤ j
  | 0, acc, t, j, h => ⟨j, h, Nat.le_refl _⟩
  | f + 1, acc, none, j, h => by simp [sAndF] at h
  | f + 1, acc, some i, j, h => by
    refine ⟨i, rfl, ?_⟩
    rw [sAndF] at h
    split at h
    · obtain ⟨i1, h1, l1⟩ := sAndF_mono f _ _ h
      obtain ⟨i2, h2, l2⟩ := nx_mono h1
      have := sCond_mono G i i2 h2
      omega
    · exact sCond_mono G i j h

theorem sNumsF_mono {G : List Sg} : ∀ (f : Nat) (acc : List Int) (t : Option Nat) {j : Nat}, (sNumsF f G acc t).2 = some j → ∃ i, t = some i ∧ i ≤ j
  | 0, acc, t, j, h => ⟨j, h, Nat.le_refl _⟩
  | f + 1, acc, none, j, h => by simp [sNumsF] at h
  | f + 1, acc, some i, j, h => by
    refine ⟨i, rfl, ?_⟩
    have got : ∀ {k : Nat}, sGot G acc (some i) = some k → i ≤ k := fun {k} hk => by
      unfold sGot at hk
      split at hk
      · cases hk
      · exact Nat.le_of_lt (sCall_next hk)
    rw [sNumsF] at h
    split at h
    · obtain ⟨i1, h1, l1⟩ := sNumsF_mono f _ _ h
      obtain ⟨i2, h2, l2⟩ := nx_mono h1
      have := got h2
      omega
    · exact got h

theorem sRule_next {G : List Sg} {i j : Nat} (h : (sRule G (some i)).2 = some j) : i < j := by
  unfold sRule at h
  simp only at h
  obtain ⟨i1, h1, l1⟩ := sWt_mono h
  obtain ⟨i2, h2, l2⟩ := sAct_mono h1
  obtain ⟨i3, h3, l3⟩ := sWt_mono h2
  have hc : ∃ i4, (sNums G (sWt G (some i) 1 tOn)).2 = some i4 ∧ i4 ≤ i3 := by
    unfold sConds at h3
    split at h3
    · obtain ⟨k, hk, lk⟩ := sAndF_mono _ _ _ h3
      obtain ⟨k2, hk2, lk2⟩ := nx_mono hk
      exact ⟨k2, hk2, by omega⟩
    · exact ⟨i3, h3, Nat.le_refl _⟩
  obtain ⟨i4, h4, l4⟩ := hc
  have hn : ∃ i5, sWt G (some i) 1 tOn = some i5 ∧ i5 ≤ i4 := by
    unfold sNums at h4
    split at h4
    · obtain ⟨k, hk, lk⟩ := nx_mono h4
      exact ⟨k, hk, lk⟩
    · exact sNumsF_mono _ _ _ h4
  obtain ⟨i5, h5, l5⟩ := hn
  unfold sWt at h5
  split at h5
  · simp [nx] at h5; omega
  · cases h5

/-- What spec's ReadPolicy leaves. -/
def GotS (o : Option PN) (e : Ending) (w' : World) : Prop :=
  match o with
  | some pol => ∃ u, e = .returned (.tuple #[u, .bool true]) ∧ RepPol pol u w'
  | none => e = .returned (.tuple #[.agg #[.int .i64 0, .int .i64 0, .int .i64 0, .slice none 0 0], .bool false])

theorem gotS_some {o : Option PN} {e : Ending} {w' : World} {pol : PN} {u : Value} (h : o = some pol) (he : e = .returned (.tuple #[u, .bool true])) (hx : RepPol pol u w') : GotS o e w' := by
  subst h; exact ⟨u, he, hx⟩
theorem gotS_none {o : Option PN} {e : Ending} {w' : World} (h : o = none) (he : e = .returned (.tuple #[.agg #[.int .i64 0, .int .i64 0, .int .i64 0, .slice none 0 0], .bool false])) : GotS o e w' := by
  subst h; exact he

set_option maxRecDepth 100000 in
set_option maxHeartbeats 3200000 in
theorem sRead_any (s : ByteArray) (w : World) :
    Calls Tryz.prog 10 #[.string s] w fun e w' => GotS (readT s) e w' ∧ Ext w w' := by
  obtain ⟨j0, ji, jz0, jz1, jz2⟩ := info_parts Tryz.infoRl
  have K0 : Hid (Kn (w.alloc (.cells #[.int .i64 0, .int .i64 0, .int .i64 0, .slice none 0 0] 26)) w.heap.size [.int .i64 0, .int .i64 0, .int .i64 0, .slice none 0 0] 26 ∧ Ext w (w.alloc (.cells #[.int .i64 0, .int .i64 0, .int .i64 0, .slice none 0 0] 26))) := ⟨Kn.new w _ _, Ext.one _ _⟩
  have HS : Hid (Calls Tryz.prog 31 #[.string s] (w.alloc (.cells #[.int .i64 0, .int .i64 0, .int .i64 0, .slice none 0 0] 26)) fun e w' => ∃ v, e = .returned (.tuple #[v, .bool (signsR s.data.toList).isSome]) ∧ Own3 w' (w.alloc (.cells #[.int .i64 0, .int .i64 0, .int .i64 0, .slice none 0 0] 26)).heap.size v ((signsR s.data.toList).getD []) ∧ Ext (w.alloc (.cells #[.int .i64 0, .int .i64 0, .int .i64 0, .slice none 0 0] 26)) w') := sSigns_any s _
  have HG : Hid (readT s = match signsR s.data.toList with
    | none => none
    | some G => readG G) := rfl
  have HL : Hid (((signsR s.data.toList).getD []).length ≤ 1200) := signsR_length _
  cases e0 : signsR s.data.toList with
  | none =>
    rw [e0] at HS HG
    have HN : Hid (readT s = none) := HG.out
    clear HG HL e0
    simp only [Option.isSome_none, Option.getD_none] at HS
    go_enter Tryz.func10, Tryz.ntmps10
    go_wp2_with fail
    generalize w.alloc (.cells #[.int .i64 0, .int .i64 0, .int .i64 0, .slice none 0 0] 26) = W0 at *
    refine (show Calls Tryz.prog 31 _ _ _ from HS.out).mono ?_
    rintro e w1 ⟨v, rfl, o1, x1⟩
    obtain ⟨a1, e1, rfl⟩ := own_slice (show w1.ownsRow _ 98 3 v _ _ from o1)
    have kr := K0.out.1.ext x1
    have XE : Hid (Ext w w1) := K0.out.2.trans x1
    have f1 := kr.free
    obtain ⟨c0, c1, c2, c3⟩ := (⟨kr.cell 0 _ rfl, kr.cell 1 _ rfl, kr.cell 2 _ rfl, kr.cell 3 _ rfl⟩ : _ ∧ _ ∧ _ ∧ _)
    have XF : Hid (Ext w ((((w1.setCell ⟨w.heap.size, 0, none⟩ (.int .i64 0)).setCell ⟨w.heap.size, 1, none⟩ (.int .i64 0)).setCell ⟨w.heap.size, 2, none⟩ (.int .i64 0)).setCell ⟨w.heap.size, 3, none⟩ (.slice none 0 0)) ∧ Kn ((((w1.setCell ⟨w.heap.size, 0, none⟩ (.int .i64 0)).setCell ⟨w.heap.size, 1, none⟩ (.int .i64 0)).setCell ⟨w.heap.size, 2, none⟩ (.int .i64 0)).setCell ⟨w.heap.size, 3, none⟩ (.slice none 0 0)) w.heap.size [.int .i64 0, .int .i64 0, .int .i64 0, .slice none 0 0] 26) := ⟨(((XE.out.set (Nat.le_refl _) _ _).set (Nat.le_refl _) _ _).set (Nat.le_refl _) _ _).set (Nat.le_refl _) _ _, (((kr.set 0 _).set 1 _).set 2 _).set 3 _⟩
    clear kr HS o1 x1 K0
    go_wp2
    generalize ((((w1.setCell ⟨w.heap.size, 0, none⟩ (.int .i64 0)).setCell ⟨w.heap.size, 1, none⟩ (.int .i64 0)).setCell ⟨w.heap.size, 2, none⟩ (.int .i64 0)).setCell ⟨w.heap.size, 3, none⟩ (.slice none 0 0)) = WF at *
    clear f1 c0 c1 c2 c3
    obtain ⟨c0, c1, c2, c3⟩ := (⟨XF.out.2.cell 0 _ rfl, XF.out.2.cell 1 _ rfl, XF.out.2.cell 2 _ rfl, XF.out.2.cell 3 _ rfl⟩ : _ ∧ _ ∧ _ ∧ _)
    refine bodyPost_ret (v := .tuple #[.agg #[.int .i64 0, .int .i64 0, .int .i64 0, .slice none 0 0], .bool false]) (by simp [results, Tryz.results10, go_sem, *]) rfl ?_
    exact ⟨gotS_none HN.out rfl, XF.out.1⟩
  | some G =>
    have hG : Good G := signsR_good e0
    rw [e0] at HS HG HL
    have HG2 : Hid (readT s = match (sPolicy G).2 with
      | none => none
      | some _ => if policyB (sPolicy G).1 then some (sPolicy G).1 else none) := HG.out.trans (sPolicy_read hG)
    have HGL : Hid (G.length ≤ 1200 ∧ Good G) := ⟨HL.out, hG⟩
    clear HG HL e0 hG
    simp only [Option.isSome_some, Option.getD_some] at HS
    go_enter Tryz.func10, Tryz.ntmps10
    go_wp2_with fail
    generalize w.alloc (.cells #[.int .i64 0, .int .i64 0, .int .i64 0, .slice none 0 0] 26) = W0 at *
    refine (show Calls Tryz.prog 31 _ _ _ from HS.out).mono ?_
    rintro e w1 ⟨v, rfl, o1, x1⟩
    obtain ⟨a1, e1, hv, hsg, hgg⟩ := Own3.signs o1
    have hb1 := own3_lt o1 hv
    obtain ⟨gl, hgl⟩ : ∃ gl, gl = G.length := ⟨_, rfl⟩
    rw [← hgl] at hv
    subst hv
    have hR : w.heap.size < w1.heap.size := (K0.out.1.ext x1).lt
    have X2 : Hid (RdS (w1.alloc (.cells #[.slice a1 gl e1, .int .i64 0, .bool false] 66)) w1.heap.size a1 e1 G (some 0) ∧ GB w1.heap.size (w1.alloc (.cells #[.slice a1 gl e1, .int .i64 0, .bool false] 66)) (w1.alloc (.cells #[.slice a1 gl e1, .int .i64 0, .bool false] 66)) ∧ Kn (w1.alloc (.cells #[.slice a1 gl e1, .int .i64 0, .bool false] 66)) w.heap.size [.int .i64 0, .int .i64 0, .int .i64 0, .slice none 0 0] 26) :=
      ⟨⟨0, false, by rw [hgl]; exact Kn.new w1 _ _, rfl, by omega, HGL.out.1, hsg.ext (Ext.one _ _), fun b o s e => by have := (hb1 b o s e).2; omega⟩, gb_refl _ _, (K0.out.1.ext x1).alloc _⟩
    have HP : Hid (w.heap.size < w1.heap.size ∧ (w1.alloc (.cells #[.slice a1 gl e1, .int .i64 0, .bool false] 66)).heap.size = w1.heap.size + 1 ∧ w.heap.size ≠ w1.heap.size ∧ Ext w (w1.alloc (.cells #[.slice a1 gl e1, .int .i64 0, .bool false] 66))) := ⟨hR, by simp, by omega, (K0.out.2.trans x1).trans (Ext.one _ _)⟩
    clear o1 x1 hsg hgg hb1 hR K0 HS hgl
    go_wp2_with fail
    generalize w1.alloc (.cells #[.slice a1 gl e1, .int .i64 0, .bool false] 66) = W2 at *
    generalize w1.heap.size = p at *
    have H0 : Hid (RdS W2 p a1 e1 G (some 0)) := X2.out.1
    have H3 : Hid (Calls Tryz.prog 32 #[.pointer (some ⟨p, 0, none⟩), .int .i64 1, .string ⟨#[97, 114, 99, 104]⟩] W2 fun e w' => e = .returned (.tuple #[]) ∧ RdS w' p a1 e1 G (sWt G (some 0) 1 tArch) ∧ GB p W2 w') := wants_any 1 tArch X2.out.1
    obtain ⟨s1, hs1⟩ : ∃ s, s = sWt G (some 0) 1 tArch := ⟨_, rfl⟩
    rw [← hs1] at H3
    have Es1 : Hid (s1 = sWt G (some 0) 1 tArch) := hs1
    clear hs1
    refine (show Calls Tryz.prog 32 _ _ _ from H3.out).mono ?_
    rintro e w3 ⟨rfl, r3, g3⟩
    have X3 : Hid (RdS w3 p a1 e1 G s1 ∧ GB p W2 w3 ∧ Kn w3 w.heap.size [.int .i64 0, .int .i64 0, .int .i64 0, .slice none 0 0] 26) := ⟨r3, gb_trans X2.out.2.1 g3, X2.out.2.2.gb HP.out.2.2.1 g3⟩
    clear r3 g3 X2 H3
    go_wp2_with fail
    have H4 : Hid (Calls Tryz.prog 33 #[.pointer (some ⟨p, 0, none⟩)] w3 fun e w' => e = .returned (.int .i64 (sNum G s1).1) ∧ RdS w' p a1 e1 G (sNum G s1).2 ∧ GB p w3 w') := xNum_any X3.out.1
    obtain ⟨on, hon⟩ : ∃ on, on = sNum G s1 := ⟨_, rfl⟩
    rw [← hon] at H4
    obtain ⟨ar, s2⟩ := on
    have Es2 : Hid (sNum G s1 = (ar, s2)) := hon.symm
    clear hon
    simp only at H4
    refine (show Calls Tryz.prog 33 _ _ _ from H4.out).mono ?_
    rintro e w4 ⟨rfl, r4, g4⟩
    have X5 : Hid (RdS (w4.alloc (.cells #[.int .i64 ar, .int .i64 0, .int .i64 0, .slice none 0 0] 26)) p a1 e1 G s2 ∧ GB p W2 (w4.alloc (.cells #[.int .i64 ar, .int .i64 0, .int .i64 0, .slice none 0 0] 26)) ∧ Kn (w4.alloc (.cells #[.int .i64 ar, .int .i64 0, .int .i64 0, .slice none 0 0] 26)) w.heap.size [.int .i64 0, .int .i64 0, .int .i64 0, .slice none 0 0] 26 ∧ Kn (w4.alloc (.cells #[.int .i64 ar, .int .i64 0, .int .i64 0, .slice none 0 0] 26)) w4.heap.size [.int .i64 ar, .int .i64 0, .int .i64 0, .slice none 0 0] 26) := ⟨r4.step (Ext.one _ _), gb_alloc (gb_trans X3.out.2.1 g4) _, (X3.out.2.2.gb HP.out.2.2.1 g4).alloc _, Kn.new w4 _ _⟩
    have HQ : Hid (W2.heap.size ≤ w4.heap.size) := (gb_trans X3.out.2.1 g4).size
    clear r4 g4 X3 H4
    go_wp2_with fail
    generalize w4.alloc (.cells #[.int .i64 ar, .int .i64 0, .int .i64 0, .slice none 0 0] 26) = w5 at *
    generalize w4.heap.size = q at *
    have hqp : Hid (q ≠ p ∧ w.heap.size ≠ q ∧ W2.heap.size ≤ q ∧ p < q) := ⟨by have := HP.out.2.1; have := HQ.out; omega, by have := HP.out.2.1; have := HP.out.1; have := HQ.out; omega, HQ.out, by have := HP.out.2.1; have := HQ.out; omega⟩
    clear HQ
    have H6 : Hid (Calls Tryz.prog 32 #[.pointer (some ⟨p, 0, none⟩), .int .i64 3, .string ⟨#[59]⟩] w5 fun e w' => e = .returned (.tuple #[]) ∧ RdS w' p a1 e1 G (sWt G s2 3 tSemi) ∧ GB p w5 w') := wants_any 3 tSemi X5.out.1
    obtain ⟨s3, hs3⟩ : ∃ s, s = sWt G s2 3 tSemi := ⟨_, rfl⟩
    rw [← hs3] at H6
    have Es3 : Hid (s3 = sWt G s2 3 tSemi) := hs3
    clear hs3
    refine (show Calls Tryz.prog 32 _ _ _ from H6.out).mono ?_
    rintro e w6 ⟨rfl, r6, g6⟩
    have X6 : Hid (RdS w6 p a1 e1 G s3 ∧ GB p W2 w6 ∧ Kn w6 w.heap.size [.int .i64 0, .int .i64 0, .int .i64 0, .slice none 0 0] 26 ∧ Kn w6 q [.int .i64 ar, .int .i64 0, .int .i64 0, .slice none 0 0] 26) := ⟨r6, gb_trans X5.out.2.1 g6, X5.out.2.2.1.gb HP.out.2.2.1 g6, X5.out.2.2.2.gb hqp.out.1 g6⟩
    clear r6 g6 X5 H6
    go_wp2_with fail
    have H7 : Hid (Calls Tryz.prog 32 #[.pointer (some ⟨p, 0, none⟩), .int .i64 1, .string ⟨#[100, 101, 102, 97, 117, 108, 116]⟩] w6 fun e w' => e = .returned (.tuple #[]) ∧ RdS w' p a1 e1 G (sWt G s3 1 tDefault) ∧ GB p w6 w') := wants_any 1 tDefault X6.out.1
    obtain ⟨s4, hs4⟩ : ∃ s, s = sWt G s3 1 tDefault := ⟨_, rfl⟩
    rw [← hs4] at H7
    have Es4 : Hid (s4 = sWt G s3 1 tDefault) := hs4
    clear hs4
    refine (show Calls Tryz.prog 32 _ _ _ from H7.out).mono ?_
    rintro e w7 ⟨rfl, r7, g7⟩
    have X7 : Hid (RdS w7 p a1 e1 G s4 ∧ GB p W2 w7 ∧ Kn w7 w.heap.size [.int .i64 0, .int .i64 0, .int .i64 0, .slice none 0 0] 26 ∧ Kn w7 q [.int .i64 ar, .int .i64 0, .int .i64 0, .slice none 0 0] 26) := ⟨r7, gb_trans X6.out.2.1 g7, X6.out.2.2.1.gb HP.out.2.2.1 g7, X6.out.2.2.2.gb hqp.out.1 g7⟩
    clear r7 g7 X6 H7
    go_wp2_with fail
    have H8 : Hid (Calls Tryz.prog 34 #[.pointer (some ⟨p, 0, none⟩)] w7 fun e w' => e = .returned (pairV (sAct G s4).1) ∧ RdS w' p a1 e1 G (sAct G s4).2 ∧ GB p w7 w') := xAction_any X7.out.1
    obtain ⟨oa, hoa⟩ : ∃ oa, oa = sAct G s4 := ⟨_, rfl⟩
    rw [← hoa] at H8
    obtain ⟨⟨ac, da⟩, s5⟩ := oa
    have Es5 : Hid (sAct G s4 = ((ac, da), s5)) := hoa.symm
    clear hoa
    unfold pairV at H8
    simp only at H8
    refine (show Calls Tryz.prog 34 _ _ _ from H8.out).mono ?_
    rintro e w8 ⟨rfl, r8, g8⟩
    have kq := X7.out.2.2.2.gb hqp.out.1 g8
    have X9 : Hid (RdS ((w8.setCell ⟨q, 1, none⟩ (.int .i64 ac)).setCell ⟨q, 2, none⟩ (.int .i64 da)) p a1 e1 G s5 ∧ GB p W2 ((w8.setCell ⟨q, 1, none⟩ (.int .i64 ac)).setCell ⟨q, 2, none⟩ (.int .i64 da)) ∧ Kn ((w8.setCell ⟨q, 1, none⟩ (.int .i64 ac)).setCell ⟨q, 2, none⟩ (.int .i64 da)) w.heap.size [.int .i64 0, .int .i64 0, .int .i64 0, .slice none 0 0] 26 ∧ Kn ((w8.setCell ⟨q, 1, none⟩ (.int .i64 ac)).setCell ⟨q, 2, none⟩ (.int .i64 da)) q [.int .i64 ar, .int .i64 ac, .int .i64 da, .slice none 0 0] 26) :=
      ⟨H0.out.fresh (H0.out.fresh r8 hqp.out.2.2.1) hqp.out.2.2.1, gb_fresh (gb_fresh (gb_trans X7.out.2.1 g8) hqp.out.2.2.1) hqp.out.2.2.1, ((X7.out.2.2.1.gb HP.out.2.2.1 g8).other hqp.out.2.1 _ _).other hqp.out.2.1 _ _, (kq.set 1 _).set 2 _⟩
    have f1 := kq.free
    obtain ⟨c0, c1, c2, c3⟩ := (⟨kq.cell 0 _ rfl, kq.cell 1 _ rfl, kq.cell 2 _ rfl, kq.cell 3 _ rfl⟩ : _ ∧ _ ∧ _ ∧ _)
    clear r8 g8 X7 H8 kq
    go_wp2_with fail
    generalize ((w8.setCell ⟨q, 1, none⟩ (.int .i64 ac)).setCell ⟨q, 2, none⟩ (.int .i64 da)) = w9 at *
    clear f1 c0 c1 c2 c3
    have H10 : Hid (Calls Tryz.prog 32 #[.pointer (some ⟨p, 0, none⟩), .int .i64 3, .string ⟨#[59]⟩] w9 fun e w' => e = .returned (.tuple #[]) ∧ RdS w' p a1 e1 G (sWt G s5 3 tSemi) ∧ GB p w9 w') := wants_any 3 tSemi X9.out.1
    obtain ⟨s6, hs6⟩ : ∃ s, s = sWt G s5 3 tSemi := ⟨_, rfl⟩
    rw [← hs6] at H10
    have Es6 : Hid (s6 = sWt G s5 3 tSemi) := hs6
    clear hs6
    refine (show Calls Tryz.prog 32 _ _ _ from H10.out).mono ?_
    rintro e w10 ⟨rfl, r10, g10⟩
    have X10 : Hid (RdS w10 p a1 e1 G s6 ∧ GB p W2 w10 ∧ Kn w10 w.heap.size [.int .i64 0, .int .i64 0, .int .i64 0, .slice none 0 0] 26 ∧ Kn w10 q [.int .i64 ar, .int .i64 ac, .int .i64 da, .slice none 0 0] 26) := ⟨r10, gb_trans X9.out.2.1 g10, X9.out.2.2.1.gb HP.out.2.2.1 g10, X9.out.2.2.2.gb hqp.out.1 g10⟩
    clear r10 g10 X9 H10
    go_wp2_with fail
    have HPL : Hid (sPolicy G = (⟨ar, ac, da, (sRulesF (G.length + 1) G [] s6).1⟩, (sRulesF (G.length + 1) G [] s6).2)) := by
      unfold Hid sPolicy sHead
      simp only
      rw [← Es1.out, Es2.out]
      simp only
      rw [← Es3.out, ← Es4.out, Es5.out]
      simp only
      rw [← Es6.out]
    clear Es1 Es2 Es3 Es4 Es5 Es6
    go_loopw [] (fun wr => ∃ (ps : List (RN × List Value)) (t : Option Nat) (f : Nat) (v : Value), Hid (sRulesF (G.length + 1) G [] s6 = sRulesF f G (ps.map (·.1)) t ∧ (∀ i, t = some i → G.length + 1 ≤ i + f ∧ ps.length ≤ i) ∧ RdS wr p a1 e1 G t ∧ GB p W2 wr ∧ Kn wr w.heap.size [.int .i64 0, .int .i64 0, .int .i64 0, .slice none 0 0] 26 ∧ Kn wr q [.int .i64 ar, .int .i64 ac, .int .i64 da, v] 26 ∧ RulesX (q + 1) wr v ps ∧ ∀ r ∈ ps.map (·.1), Small r)) (fun W => sLeft W p)
    case atStart => exact ⟨[], s6, G.length + 1, .slice none 0 0, rfl, fun i _ => ⟨by omega, by simp⟩, X10.out.1, X10.out.2.1, X10.out.2.2.1, X10.out.2.2.2, ⟨World.ownsRow_nil _ _ _ _, RowsX.nil X10.out.2.2.2.lt⟩, by simp⟩
    case round =>
      obtain ⟨ps, t, f, v, HI⟩ := hrel
      clear X10
      cases t with
      | none =>
        obtain ⟨i7, hK, _⟩ := HI.out.2.2.1.lost
        have q0 := hK.cell 0 _ rfl
        have q1 := hK.cell 1 _ rfl
        have q2 := hK.cell 2 _ rfl
        have HN : Hid (readT s = none) := by
          unfold Hid
          rw [HG2.out, HPL.out, HI.out.1, sRulesF_none]
        obtain ⟨gl2, hgl2⟩ : ∃ gl2, gl2 = G.length := ⟨_, rfl⟩
        rw [← hgl2] at q0
        clear hK hgl2
        go_wp2_with fail
        go_quiet (fail)
        have kr : Kn (wr.drewN nq) w.heap.size [.int .i64 0, .int .i64 0, .int .i64 0, .slice none 0 0] 26 := HI.out.2.2.2.2.1
        have XE : Hid (Ext w (wr.drewN nq)) := (ext_row HP.out.2.2.2 HI.out.2.2.2.1 (fun x hx => by injection hx with hx; have := HP.out.1; omega)).trans ⟨rfl, rfl, rfl, Nat.le_refl _, fun _ _ => rfl⟩
        have q2' : (wr.drewN nq).cell? ⟨p, 2, none⟩ = some (.bool true) := q2
        clear q0 q1 q2
        generalize wr.drewN nq = wz at *
        have f1 := kr.free
        obtain ⟨c0, c1, c2, c3⟩ := (⟨kr.cell 0 _ rfl, kr.cell 1 _ rfl, kr.cell 2 _ rfl, kr.cell 3 _ rfl⟩ : _ ∧ _ ∧ _ ∧ _)
        have XF : Hid (Ext w ((((wz.setCell ⟨w.heap.size, 0, none⟩ (.int .i64 0)).setCell ⟨w.heap.size, 1, none⟩ (.int .i64 0)).setCell ⟨w.heap.size, 2, none⟩ (.int .i64 0)).setCell ⟨w.heap.size, 3, none⟩ (.slice none 0 0)) ∧ Kn ((((wz.setCell ⟨w.heap.size, 0, none⟩ (.int .i64 0)).setCell ⟨w.heap.size, 1, none⟩ (.int .i64 0)).setCell ⟨w.heap.size, 2, none⟩ (.int .i64 0)).setCell ⟨w.heap.size, 3, none⟩ (.slice none 0 0)) w.heap.size [.int .i64 0, .int .i64 0, .int .i64 0, .slice none 0 0] 26) := ⟨(((XE.out.set (Nat.le_refl _) _ _).set (Nat.le_refl _) _ _).set (Nat.le_refl _) _ _).set (Nat.le_refl _) _ _, (((kr.set 0 _).set 1 _).set 2 _).set 3 _⟩
        clear kr HI
        go_wp2
        generalize ((((wz.setCell ⟨w.heap.size, 0, none⟩ (.int .i64 0)).setCell ⟨w.heap.size, 1, none⟩ (.int .i64 0)).setCell ⟨w.heap.size, 2, none⟩ (.int .i64 0)).setCell ⟨w.heap.size, 3, none⟩ (.slice none 0 0)) = WF at *
        clear f1 c0 c1 c2 c3
        obtain ⟨c0, c1, c2, c3⟩ := (⟨XF.out.2.cell 0 _ rfl, XF.out.2.cell 1 _ rfl, XF.out.2.cell 2 _ rfl, XF.out.2.cell 3 _ rfl⟩ : _ ∧ _ ∧ _ ∧ _)
        refine bodyPost_ret (v := .tuple #[.agg #[.int .i64 0, .int .i64 0, .int .i64 0, .slice none 0 0], .bool false]) (by simp [results, Tryz.results10, go_sem, *]) rfl ?_
        exact ⟨gotS_none HN.out rfl, XF.out.1⟩
      | some i =>
        have hK := HI.out.2.2.1.at.1
        have q0 := hK.cell 0 _ rfl
        have q1 := hK.cell 1 _ rfl
        have q2 := hK.cell 2 _ rfl
        have HF : Hid (1 ≤ f ∧ sRulesF f G (ps.map (·.1)) (some i) = if i < G.length then sRulesF (f - 1) G (ps.map (·.1) ++ [(sRule G (some i)).1]) (sRule G (some i)).2 else (ps.map (·.1), some i)) := by
          have h1 := HI.out.2.1 i rfl
          have h2 := HI.out.2.2.1.at.2
          refine ⟨by omega, ?_⟩
          obtain ⟨g, rfl⟩ : ∃ g, f = g + 1 := ⟨f - 1, by omega⟩
          rfl
        clear hK
        obtain ⟨gl2, hgl2⟩ : ∃ gl2, gl2 = G.length := ⟨_, rfl⟩
        have HGL2 : Hid (gl2 = G.length) := hgl2
        rw [← hgl2] at q0
        by_cases hlt : i < G.length
        · have bi : (i : Int) < (gl2 : Int) := by omega
          clear hgl2
          have HF2 : Hid (sRulesF f G (ps.map (·.1)) (some i) = sRulesF (f - 1) G (ps.map (·.1) ++ [(sRule G (some i)).1]) (sRule G (some i)).2) := by unfold Hid; rw [HF.out.2, if_pos hlt]
          have HC : Hid (∀ W, RdS W p a1 e1 G (some i) → Calls Tryz.prog 35 #[.pointer (some ⟨p, 0, none⟩)] W fun e w' => ∃ l, e = .returned (.agg l.toArray) ∧ RuleX W.heap.size w' (sRule G (some i)).1 l ∧ RdS w' p a1 e1 G (sRule G (some i)).2 ∧ GB p W w') := fun W hW => xRule_any hW
          have HSM : Hid (Small (sRule G (some i)).1) := sRule_small HGL.out.1 _
          have HNX : Hid (∀ j, (sRule G (some i)).2 = some j → i < j) := fun j hj => sRule_next hj
          obtain ⟨qr, hqr⟩ : ∃ qr, qr = sRule G (some i) := ⟨_, rfl⟩
          rw [← hqr] at HF2 HC HSM HNX
          obtain ⟨r, t4⟩ := qr
          clear hqr
          simp only at HF2 HC HSM HNX
          go_wp2_with fail
          go_quiet (fail)
          have X7 : Hid (RdS (wr.drewN nq) p a1 e1 G (some i) ∧ GB p W2 (wr.drewN nq) ∧ Kn (wr.drewN nq) w.heap.size [.int .i64 0, .int .i64 0, .int .i64 0, .slice none 0 0] 26 ∧ Kn (wr.drewN nq) q [.int .i64 ar, .int .i64 ac, .int .i64 da, v] 26 ∧ RulesX (q + 1) (wr.drewN nq) v ps ∧ ps.length ≤ 1200 ∧ p < q + 1 ∧ q + 1 ≤ (wr.drewN nq).heap.size ∧ (∀ x, v.ownBlock = some x → q + 1 ≤ x ∧ x < (wr.drewN nq).heap.size) ∧ p < (wr.drewN nq).heap.size) := by
            have h4 := HI.out.2.2.2.2.2.1
            have hx : Ext wr (wr.drewN nq) := ⟨rfl, rfl, rfl, Nat.le_refl _, fun _ _ => rfl⟩
            refine ⟨HI.out.2.2.1.step hx, gb_trans HI.out.2.2.2.1 (gb_ext hx), HI.out.2.2.2.2.1.ext hx, h4.ext hx, HI.out.2.2.2.2.2.2.1.ext hx, ?_, by have := hqp.out.2.2.2; omega, h4.lt, fun x hx => own_lt9 HI.out.2.2.2.2.2.2.1.1 hx, HI.out.2.2.1.lt⟩
            have := (HI.out.2.1 i rfl).2
            have := HI.out.2.2.1.at.2
            omega
          have HLF : Hid (sLeft wr p = 1301 - i) := HI.out.2.2.1.left
          clear q0 q1 q2
          generalize wr.drewN nq = w7 at *
          go_wp2_with fail
          refine' wp_region_loosea_tail 7 (.inl _ :: .inl _ :: .inl _ :: .inr (fun vv W => ∃ (u1 : Option Addr) (m1 d1 : Nat) (u2 : Option Addr) (m2 d2 : Nat), vv = .agg #[.slice u1 m1 d1, .slice u2 m2 d2, .int .i64 r.act, .int .i64 r.data] ∧ RuleX w7.heap.size W r [.slice u1 m1 d1, .slice u2 m2 d2, .int .i64 r.act, .int .i64 r.data]) :: .inr (fun vv W => ∃ (h : Nat) (u1 : Option Addr) (m1 d1 : Nat) (u2 : Option Addr) (m2 d2 : Nat), vv = .slice (some ⟨h, 0, none⟩) 1 1 ∧ w7.heap.size ≤ h ∧ Kn W h [.slice u1 m1 d1, .slice u2 m2 d2, .int .i64 r.act, .int .i64 r.data] 53 ∧ RuleX w7.heap.size W r [.slice u1 m1 d1, .slice u2 m2 d2, .int .i64 r.act, .int .i64 r.data]) :: .inr (fun vv W => ∃ (g cap' Y : Nat) (l : List Value), vv = .slice (some ⟨g, 0, none⟩) (ps.length + 1) cap' ∧ W.ownsRow (q + 1) 53 4 (.slice (some ⟨g, 0, none⟩) (ps.length + 1) cap') (ps.length + 1) (ps.flatMap (·.2) ++ l) ∧ RowsX (q + 1) Y W (some g) (ps ++ [(r, l)]) ∧ Y ≤ W.heap.size) :: .inl _ :: []) (CA (fun b1 b2 W => (RdS W p a1 e1 G (plcS b1 t4 (some i)) ∧ GB p W2 W ∧ Kn W w.heap.size [.int .i64 0, .int .i64 0, .int .i64 0, .slice none 0 0] 26 ∧ Kn W q [.int .i64 ar, .int .i64 ac, .int .i64 da, v] 26 ∧ RowsX (q + 1) w7.heap.size W v.ownBlock ps ∧ w7.heap.size ≤ W.heap.size) ∧ (b2 = false → W.ownsRow (q + 1) 53 4 v ps.length (ps.flatMap fun (y : RN × List Value) => y.2))) 3 5) (fun ch W => False) (fun x => True) (fun i W W' => (i = 5 → W.grownBy W' v.ownBlock) ∧ (i ≠ 5 → GB p W W')) (by kernel_rfl) (by kernel_rfl) (⟨⟨X7.out.1.step ⟨rfl, rfl, rfl, Nat.le_refl _, fun _ _ => rfl⟩, gb_drew X7.out.2.1, X7.out.2.2.1, X7.out.2.2.2.1, X7.out.2.2.2.2.1.2, Nat.le_refl _⟩, fun _ => X7.out.2.2.2.2.1.1⟩) ?hIA ?hGA ?hBA (fun i ls w hi h => CA_ne (by intro e; subst e; cases hi) (by intro e; subst e; cases hi) h) ?hAA ?hlA ?hMA
          case' hMA => skip
          simp only [List.take_succ_cons, List.take_zero, List.drop_succ_cons, List.drop_zero]
          apply wpLooseA_val rfl rfl (by decide) (by decide)
          case hs =>
            intro b1 b2 w1 hC hd Q1 hQ1 hP1
            dsimp only [bare]
            have q1 := hC.1.2.2.2.1.cell 3 _ rfl
            clear hd hP1
            have HCC : Hid _ := hC
            clear hC
            go_wp2
            exact ⟨HCC.out, ⟨fun h => by omega, fun _ => gb_refl _ _⟩⟩
          case ha => rfl
          apply wpLooseA_val rfl rfl (by decide) (by decide)
          case hs =>
            intro b1 b2 w1 hC hd Q1 hQ1 hP1
            dsimp only [bare]
            have q1 := hC.1.2.2.2.1.cell 3 _ rfl
            clear hd hP1
            have HCC : Hid _ := hC
            clear hC
            go_wp2
            exact ⟨HCC.out, ⟨fun h => by omega, fun _ => gb_refl _ _⟩⟩
          case ha => rfl
          apply wpLooseA_val rfl rfl (by decide) (by decide)
          case hs =>
            intro b1 b2 w1 hC hd Q1 hQ1 hP1
            dsimp only [bare]
            have q1 := hC.1.2.2.2.1.cell 3 _ rfl
            clear hd hP1
            have HCC : Hid _ := hC
            clear hC
            go_wp2
            exact ⟨HCC.out, ⟨fun h => by omega, fun _ => gb_refl _ _⟩⟩
          case ha => rfl
          refine wpLooseA_s1 rfl rfl (by decide) (by decide) ?_ (fun vA_3 => ?_)
          · intro b2 w1 hC hd Q1 hQ1 hP1
            dsimp only [bare]
            clear hd
            have HCC : Hid _ := hC
            have HQ : Hid _ := hQ1
            clear hC hQ1 hP1
            go_wp2_with fail
            refine (show Calls Tryz.prog 35 _ _ _ from HC.out _ HCC.out.1.1).mono ?_
            rintro e w8 ⟨l, rfl, hl, hr, g8⟩
            obtain ⟨u1, m1, d1, u2, m2, d2, rfl⟩ := hl.shape
            have HL : Hid (RuleX w1.heap.size w8 r [.slice u1 m1 d1, .slice u2 m2 d2, .int .i64 r.act, .int .i64 r.data] ∧ RdS w8 p a1 e1 G t4 ∧ GB p w1 w8) := ⟨hl, hr, g8⟩
            clear hl hr g8
            go_wp2_with fail
            obtain ⟨⟨h1, h2, h3, h4, h5, h6⟩, h7⟩ := HCC.out
            exact HQ.out _ _ ⟨⟨⟨HL.out.2.1, gb_trans h2 HL.out.2.2, h3.gb HP.out.2.2.1 HL.out.2.2, h4.gb hqp.out.1 HL.out.2.2, h5.kept HL.out.2.2 (fun x hx _ => by injection hx with hx; have := X7.out.2.2.2.2.2.2.1; omega), Nat.le_trans h6 HL.out.2.2.size⟩, fun hb => own_gb (h7 hb) X7.out.2.2.2.2.2.2.1 HL.out.2.2⟩, ⟨fun h => by omega, fun _ => HL.out.2.2⟩, u1, m1, d1, u2, m2, d2, rfl, HL.out.1.mono h6⟩
          refine wpLooseA_rel rfl rfl (by decide) (by decide) ?_ (fun vA_4 => ?_)
          · intro b1 b2 w1 hC hd Q1 hQ1 hP1
            dsimp only [bare]
            have h3 : ∃ (u1 : Option Addr) (m1 d1 : Nat) (u2 : Option Addr) (m2 d2 : Nat), vA_3 = .agg #[.slice u1 m1 d1, .slice u2 m2 d2, .int .i64 r.act, .int .i64 r.data] ∧ RuleX w7.heap.size w1 r [.slice u1 m1 d1, .slice u2 m2 d2, .int .i64 r.act, .int .i64 r.data] := hd ⟨3, .data⟩ (by simp) rfl _ rfl (by simp [Act.put])
            clear hd hP1
            obtain ⟨u1, m1, d1, u2, m2, d2, rfl, e3⟩ := h3
            have HCC : Hid _ := hC
            have HQ : Hid _ := hQ1
            have RX : Hid (RuleX w7.heap.size w1 r [.slice u1 m1 d1, .slice u2 m2 d2, .int .i64 r.act, .int .i64 r.data]) := e3
            clear hC hQ1 e3
            go_wp2_with fail
            obtain ⟨⟨h1, h2, h3, h4, h5, h6⟩, h7⟩ := HCC.out
            exact HQ.out _ _ ⟨⟨⟨h1.step (Ext.one _ _), gb_alloc h2 _, h3.alloc _, h4.alloc _, h5.kept (gb_ext (p := p) (Ext.one _ _)) (fun x hx _ => by injection hx with hx; have := X7.out.2.2.2.2.2.2.1; omega), by simp; omega⟩, fun hb => own_ext (h7 hb) (Ext.one _ _)⟩, ⟨fun h => by omega, fun _ => gb_ext (Ext.one _ _)⟩, w1.heap.size, u1, m1, d1, u2, m2, d2, rfl, h6, Kn.new _ _ _, RX.out.kept (gb_ext (p := p) (Ext.one _ _)) (fun x hx e => by have := (RX.out.blocks x hx).1; have := X7.out.2.2.2.2.2.2.2.2.2; injection e with e; omega)⟩
          refine wpLooseA_s2 rfl rfl (by decide) (by decide) ?_ (fun vA_5 => ?_)
          · intro b1 w1 hC hd Q1 hQ1 hP1
            dsimp only [bare]
            have h4 : ∃ (h : Nat) (u1 : Option Addr) (m1 d1 : Nat) (u2 : Option Addr) (m2 d2 : Nat), vA_4 = .slice (some ⟨h, 0, none⟩) 1 1 ∧ w7.heap.size ≤ h ∧ Kn w1 h [.slice u1 m1 d1, .slice u2 m2 d2, .int .i64 r.act, .int .i64 r.data] 53 ∧ RuleX w7.heap.size w1 r [.slice u1 m1 d1, .slice u2 m2 d2, .int .i64 r.act, .int .i64 r.data] := hd ⟨4, .data⟩ (by simp) rfl _ rfl (by simp [Act.put])
            clear hd hP1
            obtain ⟨h, u1, m1, d1, u2, m2, d2, rfl, e3, e4, e5⟩ := h4
            have HCC : Hid _ := hC
            have HQ : Hid _ := hQ1
            have RX : Hid (RuleX w7.heap.size w1 r [.slice u1 m1 d1, .slice u2 m2 d2, .int .i64 r.act, .int .i64 r.data]) := e5
            have HBK : Hid (Kn w1 h [.slice u1 m1 d1, .slice u2 m2 d2, .int .i64 r.act, .int .i64 r.data] 53 ∧ q + 1 ≤ w1.heap.size) := ⟨e4, Nat.le_trans X7.out.2.2.2.2.2.2.2.1 hC.1.2.2.2.2.2⟩
            have hlen : ps.length ≤ 1200 := X7.out.2.2.2.2.2.1
            clear hC hQ1 e3 e4 e5
            go_wp2_with (at_builtin; refine wpList_append_lies _ rfl _ _ 24 rfl (q + 1) 53 j0 (.agg #[.slice none 0 0, .slice none 0 0, .int .i64 0, .int .i64 0]) 4 64 Tryz.underlying24 ji jz0 jz1 jz2 rfl (by decide) _ _ _ rfl (HCC.out.2 rfl) ⟨h, 0, none⟩ 1 1 [.slice u1 m1 d1, .slice u2 m2 d2, .int .i64 r.act, .int .i64 r.data] rfl rfl ?c1 ?c2 (by omega) ?c3 ?c4 ?c5 w1.heap.size rfl ?_)
            case c1 => exact fun j u hu => HBK.out.1.cell j u hu
            case c2 => simp [Value.oneCell']
            case c3 => unfold maxLen; omega
            case c4 => omega
            case c5 => exact HBK.out.2
            intro g cap' w5 hown5 hgrow5 hat5 hlt5
            obtain ⟨⟨h1, h2, h3, h4, h5, h6⟩, h7⟩ := HCC.out
            have hv1 := X7.out.2.2.2.2.2.2.2.2.1
            have hrow : ∀ x, v.ownBlock = some x → W2.heap.size ≤ x := fun x hx => by have := (hv1 x hx).1; have := hqp.out.2.2.1; omega
            have POST : Hid ((RdS w5 p a1 e1 G (plcS b1 t4 (some i)) ∧ GB p W2 w5 ∧ Kn w5 w.heap.size [.int .i64 0, .int .i64 0, .int .i64 0, .slice none 0 0] 26 ∧ Kn w5 q [.int .i64 ar, .int .i64 ac, .int .i64 da, v] 26 ∧ RowsX (q + 1) w7.heap.size w5 v.ownBlock ps ∧ w7.heap.size ≤ w5.heap.size) ∧ w1.grownBy w5 v.ownBlock ∧ w5.ownsRow (q + 1) 53 4 (.slice (some ⟨g, 0, none⟩) (ps.length + 1) cap') (ps.length + 1) (ps.flatMap (·.2) ++ [.slice u1 m1 d1, .slice u2 m2 d2, .int .i64 r.act, .int .i64 r.data]) ∧ RowsX (q + 1) w1.heap.size w5 (some g) (ps ++ [(r, [.slice u1 m1 d1, .slice u2 m2 d2, .int .i64 r.act, .int .i64 r.data])]) ∧ w1.heap.size ≤ w5.heap.size) := ⟨⟨H0.out.row h1 hgrow5 hrow, gb_row h2 hgrow5 hrow, h3.row hgrow5 (fun e => by have := (hv1 _ e).1; have := hqp.out.2.2.2; have := HP.out.1; omega), h4.row hgrow5 (fun e => by have := (hv1 _ e).1; omega), h5.kept hgrow5 (fun x hx hne => absurd hx hne), Nat.le_trans h6 hgrow5.size⟩, hgrow5, hown5, (h5.kept hgrow5 (fun x hx hne => absurd hx hne)).push (RX.out.kept hgrow5 (fun x hx e => by have := (RX.out.blocks x hx).1; have := (hv1 x e).2; omega)) (fun x hx => (RX.out.blocks x hx).2) h6 (fun x hx => (hv1 x hx).2) (fun x hx => by injection hx with hx; subst hx; rcases hat5 with h | h; exact .inl h; exact .inr (by omega)), hgrow5.size⟩
            clear h1 h2 h3 h4 h5 h6 h7 hown5 hgrow5 hat5 hlt5 hv1 hrow
            go_wp2_with fail
            exact HQ.out _ _ ⟨⟨POST.out.1, fun hb => by cases hb⟩, ⟨fun _ => POST.out.2.1, fun h => by omega⟩, g, cap', w1.heap.size, _, rfl, POST.out.2.2⟩
          apply wpLooseA_val rfl rfl (by decide) (by decide)
          case hs =>
            intro b1 b2 w1 hC hd Q1 hQ1 hP1
            dsimp only [bare]
            have q1 := hC.1.2.2.2.1.cell 3 _ rfl
            clear hd hP1
            have HCC : Hid _ := hC
            clear hC
            go_wp2
            exact ⟨HCC.out, ⟨fun h => by omega, fun _ => gb_refl _ _⟩⟩
          case ha => rfl
          refine wpLooseA_nil ?_
          intro hJA lsA wA hlsA hCA hFA
          simp only [CA, show lsA.getD 3 false = true from hlsA _ (by decide), show lsA.getD 5 false = true from hlsA _ (by decide)] at hCA
          · obtain ⟨⟨h1, h2, h3, h4, h5, h6⟩, _⟩ := hCA
            obtain ⟨g, cap', Y, l, rfl, hown, hrows, hY⟩ := (hFA 5 _ rfl (by decide) (by simp) : ∃ (g cap' Y : Nat) (l : List Value), vA_5 = .slice (some ⟨g, 0, none⟩) (ps.length + 1) cap' ∧ wA.ownsRow (q + 1) 53 4 (.slice (some ⟨g, 0, none⟩) (ps.length + 1) cap') (ps.length + 1) (ps.flatMap (·.2) ++ l) ∧ RowsX (q + 1) Y wA (some g) (ps ++ [(r, l)]) ∧ Y ≤ wA.heap.size)
            have hg := (own_lt9 (x := g) hown rfl).1
            rw [show plcS true t4 (some i) = t4 from rfl] at h1
            have HK : Hid (sRulesF (G.length + 1) G [] s6 = sRulesF (f - 1) G ((ps ++ [(r, l)]).map (·.1)) t4 ∧ (∀ i, t4 = some i → G.length + 1 ≤ i + (f - 1) ∧ (ps ++ [(r, l)]).length ≤ i) ∧ RdS (wA.setCell ⟨q, 3, none⟩ (.slice (some ⟨g, 0, none⟩) (ps.length + 1) cap')) p a1 e1 G t4 ∧ GB p W2 (wA.setCell ⟨q, 3, none⟩ (.slice (some ⟨g, 0, none⟩) (ps.length + 1) cap')) ∧ Kn (wA.setCell ⟨q, 3, none⟩ (.slice (some ⟨g, 0, none⟩) (ps.length + 1) cap')) w.heap.size [.int .i64 0, .int .i64 0, .int .i64 0, .slice none 0 0] 26 ∧ Kn (wA.setCell ⟨q, 3, none⟩ (.slice (some ⟨g, 0, none⟩) (ps.length + 1) cap')) q [.int .i64 ar, .int .i64 ac, .int .i64 da, .slice (some ⟨g, 0, none⟩) (ps.length + 1) cap'] 26 ∧ RulesX (q + 1) (wA.setCell ⟨q, 3, none⟩ (.slice (some ⟨g, 0, none⟩) (ps.length + 1) cap')) (.slice (some ⟨g, 0, none⟩) (ps.length + 1) cap') (ps ++ [(r, l)]) ∧ ∀ r' ∈ (ps ++ [(r, l)]).map (·.1), Small r') := by
              refine ⟨?_, fun j hj => ?_, H0.out.fresh h1 hqp.out.2.2.1, gb_fresh h2 hqp.out.2.2.1, h3.other hqp.out.2.1 _ _, h4.set 3 _, ⟨?_, ?_⟩, ?_⟩
              · rw [HI.out.1, HF2.out]; simp
              · have h8 := HI.out.2.1 i rfl
                have h9 := HNX.out j hj
                have := HF.out.1
                simp
                omega
              · have := own_set (q := q) (k := 3) (u := .slice (some ⟨g, 0, none⟩) (ps.length + 1) cap') hown (fun x hx => by simp [Value.ownBlock] at hx; omega)
                simpa using this
              · exact (hrows.kept (gb_set q 3 wA _) (fun x hx _ => by injection hx with hx; omega)).up (by rw [World.size_setCell]; exact hY)
              · intro r' hr'
                simp only [List.map_append, List.mem_append, List.map_cons, List.map_nil, List.mem_singleton] at hr'
                rcases hr' with h | h
                · exact HI.out.2.2.2.2.2.2.2 r' h
                · rw [h]; exact HSM.out
            have q1 := h4.cell 3 _ rfl
            have f3 := h4.free
            have HLT : Hid (i < G.length ∧ G.length ≤ 1200) := ⟨hlt, HGL.out.1⟩
            clear h1 h2 h3 h4 h5 h6 hown hrows hFA hY HI X7
            go_wp2
            go_roundw
            case rel => exact ⟨_, t4, f - 1, _, HK.out⟩
            case measure =>
              have h1 := HK.out.2.2.1.left
              have h2 := HLF.out
              have h3 := HLT.out
              rw [h1, h2]
              cases t4 with
              | none => simp only [stLeft]; omega
              | some j =>
                have := HNX.out j rfl
                simp only [stLeft]
                omega
          case hIA => trivial
          case hGA => intros; trivial
          case hBA => intro b ch w10 _ hD; exact hD.elim
          case hAA => kernel_rfl
          case hlA => exact ⟨trivial, trivial, trivial, fun i hi vv W W' ⟨u1, m1, d1, u2, m2, d2, e2, e3⟩ hT => ⟨u1, m1, d1, u2, m2, d2, e2, by by_cases h5 : i = 5; exact e3.kept (hT.1 h5) (fun x hx e => by have := (e3.blocks x hx).1; have := (X7.out.2.2.2.2.2.2.2.2.1 x e).2; omega); exact e3.kept (hT.2 h5) (fun x hx e => by have := (e3.blocks x hx).1; have := X7.out.2.2.2.2.2.2.2.2.2; injection e with e; omega)⟩, fun i hi vv W W' ⟨h, u1, m1, d1, u2, m2, d2, e2, e4, e5, e3⟩ hT => ⟨h, u1, m1, d1, u2, m2, d2, e2, e4, by by_cases h5 : i = 5; exact e5.row (hT.1 h5) (fun e => by have := (X7.out.2.2.2.2.2.2.2.2.1 _ e).2; omega); exact e5.row (hT.2 h5) (fun e => by have := X7.out.2.2.2.2.2.2.2.2.2; injection e with e; omega), by by_cases h5 : i = 5; exact e3.kept (hT.1 h5) (fun x hx e => by have := (e3.blocks x hx).1; have := (X7.out.2.2.2.2.2.2.2.2.1 x e).2; omega); exact e3.kept (hT.2 h5) (fun x hx e => by have := (e3.blocks x hx).1; have := X7.out.2.2.2.2.2.2.2.2.2; injection e with e; omega)⟩, fun i hi vv W W' ⟨g, cap', Y, l, e2, e3, e4, e5⟩ hT => ⟨g, cap', Y, l, e2, own_gb e3 X7.out.2.2.2.2.2.2.1 (hT.2 hi), e4.kept (hT.2 hi) (fun x hx _ => by injection hx with hx; have := X7.out.2.2.2.2.2.2.1; omega), Nat.le_trans e5 (hT.2 hi).size⟩, trivial, trivial⟩
        · have bi : ¬ ((i : Int) < (gl2 : Int)) := by omega
          have bd : decide (i < gl2) = false := decide_eq_false (by omega)
          clear hgl2
          have HO : Hid (sPolicy G = (⟨ar, ac, da, ps.map (·.1)⟩, some i)) := by
            unfold Hid
            rw [HPL.out, HI.out.1, HF.out.2, if_neg hlt]
          have HN : Hid (readT s = if policyB ⟨ar, ac, da, ps.map (·.1)⟩ then some ⟨ar, ac, da, ps.map (·.1)⟩ else none) := by
            unfold Hid
            rw [HG2.out, HO.out]
          have HSM : Hid (SmallR (ps.map (·.1))) := smallR_of (by have := (HI.out.2.1 i rfl).2; have := HI.out.2.2.1.at.2; simp; omega) HI.out.2.2.2.2.2.2.2
          obtain ⟨sa, sc, hv⟩ := own_slice HI.out.2.2.2.2.2.2.1.1
          obtain ⟨sn, hsn⟩ : ∃ sn, sn = ps.length := ⟨_, rfl⟩
          rw [← hsn] at hv
          clear hsn HO HPL HG2 HF
          go_wp2_with fail
          go_quiet (fail)
          have hx : Ext wr (wr.drewN nq) := ⟨rfl, rfl, rfl, Nat.le_refl _, fun _ _ => rfl⟩
          have X4 : Hid (Ext w (wr.drewN nq) ∧ Kn (wr.drewN nq) w.heap.size [.int .i64 0, .int .i64 0, .int .i64 0, .slice none 0 0] 26 ∧ RulesX (q + 1) (wr.drewN nq) v ps ∧ Kn (wr.drewN nq) q [.int .i64 ar, .int .i64 ac, .int .i64 da, v] 26 ∧ (wr.drewN nq).cell? ⟨p, 2, none⟩ = some (.bool false)) :=
            ⟨(ext_row HP.out.2.2.2 HI.out.2.2.2.1 (fun x hx => by injection hx with hx; have := HP.out.1; omega)).trans hx, HI.out.2.2.2.2.1.ext hx, HI.out.2.2.2.2.2.2.1.ext hx, HI.out.2.2.2.2.2.1.ext hx, q2⟩
          clear q0 q1 q2 HI hx
          generalize wr.drewN nq = wz at *
          subst hv
          have HOK : Hid (Calls Tryz.prog 36 #[.agg #[.int .i64 ar, .int .i64 ac, .int .i64 da, .slice sa sn sc]] wz fun e w' => e = .returned (.bool (policyB ⟨ar, ac, da, ps.map (·.1)⟩)) ∧ Ext wz w') := sPolicyOk_rep HSM.out (X4.out.2.2.1.rep ar ac da)
          have kq := X4.out.2.2.2.1
          have q2 := X4.out.2.2.2.2
          obtain ⟨d0, d1, d2, d3⟩ := (⟨kq.cell 0 _ rfl, kq.cell 1 _ rfl, kq.cell 2 _ rfl, kq.cell 3 _ rfl⟩ : _ ∧ _ ∧ _ ∧ _)
          clear kq
          cases ez : policyB ⟨ar, ac, da, ps.map (·.1)⟩
          · rw [ez] at HOK HN
            have HN2 : Hid (readT s = none) := HN.out
            clear HN ez
            go_wp2_with fail
            refine (show Calls Tryz.prog 36 _ _ _ from HOK.out).mono ?_
            rintro e w5 ⟨rfl, x5⟩
            have kr := X4.out.2.1.ext x5
            have XE : Hid (Ext w w5) := X4.out.1.trans x5
            clear d0 d1 d2 d3 q2
            have f1 := kr.free
            obtain ⟨c0, c1, c2, c3⟩ := (⟨kr.cell 0 _ rfl, kr.cell 1 _ rfl, kr.cell 2 _ rfl, kr.cell 3 _ rfl⟩ : _ ∧ _ ∧ _ ∧ _)
            have XF : Hid (Ext w ((((w5.setCell ⟨w.heap.size, 0, none⟩ (.int .i64 0)).setCell ⟨w.heap.size, 1, none⟩ (.int .i64 0)).setCell ⟨w.heap.size, 2, none⟩ (.int .i64 0)).setCell ⟨w.heap.size, 3, none⟩ (.slice none 0 0)) ∧ Kn ((((w5.setCell ⟨w.heap.size, 0, none⟩ (.int .i64 0)).setCell ⟨w.heap.size, 1, none⟩ (.int .i64 0)).setCell ⟨w.heap.size, 2, none⟩ (.int .i64 0)).setCell ⟨w.heap.size, 3, none⟩ (.slice none 0 0)) w.heap.size [.int .i64 0, .int .i64 0, .int .i64 0, .slice none 0 0] 26) := ⟨(((XE.out.set (Nat.le_refl _) _ _).set (Nat.le_refl _) _ _).set (Nat.le_refl _) _ _).set (Nat.le_refl _) _ _, (((kr.set 0 _).set 1 _).set 2 _).set 3 _⟩
            clear kr HOK x5 X4 HSM
            go_wp2
            generalize ((((w5.setCell ⟨w.heap.size, 0, none⟩ (.int .i64 0)).setCell ⟨w.heap.size, 1, none⟩ (.int .i64 0)).setCell ⟨w.heap.size, 2, none⟩ (.int .i64 0)).setCell ⟨w.heap.size, 3, none⟩ (.slice none 0 0)) = WF at *
            clear f1 c0 c1 c2 c3
            obtain ⟨c0, c1, c2, c3⟩ := (⟨XF.out.2.cell 0 _ rfl, XF.out.2.cell 1 _ rfl, XF.out.2.cell 2 _ rfl, XF.out.2.cell 3 _ rfl⟩ : _ ∧ _ ∧ _ ∧ _)
            refine bodyPost_ret (v := .tuple #[.agg #[.int .i64 0, .int .i64 0, .int .i64 0, .slice none 0 0], .bool false]) (by simp [results, Tryz.results10, go_sem, *]) rfl ?_
            exact ⟨gotS_none HN2.out rfl, XF.out.1⟩
          · rw [ez] at HOK HN
            have HN2 : Hid (readT s = some ⟨ar, ac, da, ps.map (·.1)⟩) := HN.out
            clear HN ez
            go_wp2_with fail
            refine (show Calls Tryz.prog 36 _ _ _ from HOK.out).mono ?_
            rintro e w5 ⟨rfl, x5⟩
            have kr := X4.out.2.1.ext x5
            have kq := X4.out.2.2.2.1.ext x5
            have XE : Hid (Ext w w5) := X4.out.1.trans x5
            have hne := hqp.out.2.1
            have hne2 : ¬ q = w.heap.size := fun e => hne e.symm
            clear d0 d1 d2 d3 q2
            obtain ⟨d0, d1, d2, d3⟩ := (⟨kq.cell 0 _ rfl, kq.cell 1 _ rfl, kq.cell 2 _ rfl, kq.cell 3 _ rfl⟩ : _ ∧ _ ∧ _ ∧ _)
            have f2 := kq.free
            have XR : Hid (RulesX (q + 1) ((((w5.setCell ⟨w.heap.size, 0, none⟩ (.int .i64 ar)).setCell ⟨w.heap.size, 1, none⟩ (.int .i64 ac)).setCell ⟨w.heap.size, 2, none⟩ (.int .i64 da)).setCell ⟨w.heap.size, 3, none⟩ (.slice sa sn sc)) (.slice sa sn sc) ps) := by
              have hlr : w.heap.size < q + 1 := by have := HP.out.1; have := hqp.out.2.2.2; omega
              exact (((((X4.out.2.2.1.ext x5).gb hlr (gb_set _ _ _ _)).gb hlr (gb_set _ _ _ _)).gb hlr (gb_set _ _ _ _)).gb hlr (gb_set _ _ _ _))
            have f1 := kr.free
            obtain ⟨c0, c1, c2, c3⟩ := (⟨kr.cell 0 _ rfl, kr.cell 1 _ rfl, kr.cell 2 _ rfl, kr.cell 3 _ rfl⟩ : _ ∧ _ ∧ _ ∧ _)
            have XF : Hid (Ext w ((((w5.setCell ⟨w.heap.size, 0, none⟩ (.int .i64 ar)).setCell ⟨w.heap.size, 1, none⟩ (.int .i64 ac)).setCell ⟨w.heap.size, 2, none⟩ (.int .i64 da)).setCell ⟨w.heap.size, 3, none⟩ (.slice sa sn sc)) ∧ Kn ((((w5.setCell ⟨w.heap.size, 0, none⟩ (.int .i64 ar)).setCell ⟨w.heap.size, 1, none⟩ (.int .i64 ac)).setCell ⟨w.heap.size, 2, none⟩ (.int .i64 da)).setCell ⟨w.heap.size, 3, none⟩ (.slice sa sn sc)) w.heap.size [.int .i64 ar, .int .i64 ac, .int .i64 da, .slice sa sn sc] 26) := ⟨(((XE.out.set (Nat.le_refl _) _ _).set (Nat.le_refl _) _ _).set (Nat.le_refl _) _ _).set (Nat.le_refl _) _ _, (((kr.set 0 _).set 1 _).set 2 _).set 3 _⟩
            clear kr HOK x5 X4 HSM kq
            go_wp2
            generalize ((((w5.setCell ⟨w.heap.size, 0, none⟩ (.int .i64 ar)).setCell ⟨w.heap.size, 1, none⟩ (.int .i64 ac)).setCell ⟨w.heap.size, 2, none⟩ (.int .i64 da)).setCell ⟨w.heap.size, 3, none⟩ (.slice sa sn sc)) = WF at *
            clear f1 c0 c1 c2 c3
            obtain ⟨c0, c1, c2, c3⟩ := (⟨XF.out.2.cell 0 _ rfl, XF.out.2.cell 1 _ rfl, XF.out.2.cell 2 _ rfl, XF.out.2.cell 3 _ rfl⟩ : _ ∧ _ ∧ _ ∧ _)
            refine bodyPost_ret (v := .tuple #[.agg #[.int .i64 ar, .int .i64 ac, .int .i64 da, .slice sa sn sc], .bool true]) (by simp [results, Tryz.results10, go_sem, *]) rfl ?_
            exact ⟨gotS_some HN2.out rfl (XR.out.rep ar ac da), XF.out.1⟩

end Go.Proofs.YtojaohdmfahpmaaGreatDoor
