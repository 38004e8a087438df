/- What impl's sameLines and moreLines answer: lines of a condition, in a row of their own. (Written by mkcond.py.) -/
import Derived.Test.YthflflhcbnianaaDoorCrPack27
import Derived.Test.YthflflhcbnianaaDoorCrPack23
import Derived.Test.YthflflhcbnianaaDoorCrPack11
import Derived.Deep.Cut
import Derived.Test.YthflflhcbnianaaDoorCrPack18
import Derived.BigQuiet
import Derived.Deep.QuietTactic
import Derived.Deep.RegionHeld3
import Derived.Laws.Concat
import Derived.Test.YthflflhcbnianaaDoorCrPack6
/- Rows of lines of the call's own; one line drawn. -/
namespace Go.Proofs.YthflflhcbnianaaDoor
open Go.RowKit
set_option linter.unusedVariables false

/-- A line's seven values. -/
def sev (l : Ln) : List Value := [.string l.lab, .int .i64 l.wd.1, .int .i64 l.wd.2.1, .int .i64 l.wd.2.2.1, .int .i64 l.wd.2.2.2, .string l.yes, .string l.no]

def flatL (ls : List Ln) : List Value := ls.flatMap sev

theorem flatL_append (l m : List Ln) : flatL (l ++ m) = flatL l ++ flatL m := by simp [flatL]

theorem flatL_length : ∀ ls : List Ln, (flatL ls).length = ls.length * 7
  | [] => rfl
  | l :: ls => by
    have := flatL_length ls
    simp only [flatL, List.flatMap_cons, List.length_append, List.length_cons] at *
    rw [this]
    simp [sev]
    omega

theorem flatL_at : ∀ (ls : List Ln) (j i : Nat), j < ls.length → i < 7 → (flatL ls)[j * 7 + i]? = (sev (ls.getD j zeroL))[i]?
  | l :: ls, 0, i, _, hi => by
    have hf : flatL (l :: ls) = sev l ++ flatL ls := by simp [flatL]
    rw [hf, Nat.zero_mul, Nat.zero_add, List.getElem?_append_left (by simp [sev]; omega)]
    rfl
  | l :: ls, j + 1, i, h, hi => by
    have hf : flatL (l :: ls) = sev l ++ flatL ls := by simp [flatL]
    rw [hf, List.getElem?_append_right (by simp [sev]; omega)]
    have e : (j + 1) * 7 + i - (sev l).length = j * 7 + i := by simp [sev]; omega
    rw [e, flatL_at ls j i (by simpa using h) hi]
    rfl

/-- These lines lie in a row of the call's own, not below B, which may be written. -/
def OwnL (w : World) (B : Nat) (v : Value) (ls : List Ln) : Prop := w.ownsRow B 38 7 v ls.length (flatL ls)

theorem OwnL.lns {w : World} {B : Nat} {v : Value} {ls : List Ln} (h : OwnL w B v ls) : ∃ a cap, v = .slice a ls.length cap ∧ ls.length ≤ cap ∧ Lns w a ls ∧ (0 < ls.length → ∃ g, a = some ⟨g, 0, none⟩ ∧ B ≤ g ∧ g < w.heap.size ∧ ∀ j, w.frozen? ⟨g, j, none⟩ = false) := by
  have hown : w.ownsRow B 38 7 v ls.length (flatL ls) := h
  rcases h.2 with ⟨rfl, h0⟩ | ⟨g, cap, cur, rfl, hg, hh, hnc, hcp, hcs, htake⟩
  · exact ⟨none, 0, by rw [h0], by omega, fun hp => by omega, fun hp => by omega⟩
  · refine ⟨_, cap, rfl, hnc, fun hp => ⟨g, 0, rfl, fun j hj => ?_⟩, fun hp => ⟨g, rfl, hg, (Array.getElem?_eq_some_iff.1 hh).1, fun j => frozen_of_row w g j cur 38 hh⟩⟩
    have cell : ∀ i v, i < 7 → (sev (ls.getD j zeroL))[i]? = some v → w.cell? ⟨g, j * 7 + i, none⟩ = some v := fun i v hi hv => by
      have hc := hown.cells (g := g) rfl (j * 7 + i) v (by rw [flatL_at ls j i hj hi]; exact hv)
      rwa [Addr.add_lit, Nat.zero_add] at hc
    rw [Nat.zero_add]
    exact ⟨cell 0 _ (by omega) rfl, cell 1 _ (by omega) rfl, cell 2 _ (by omega) rfl, cell 3 _ (by omega) rfl, cell 4 _ (by omega) rfl, cell 5 _ (by omega) rfl, cell 6 _ (by omega) rfl⟩

theorem decS_small {i : Nat} (h : i < 4) : decS i = [UInt8.ofNat (48 + i)] := by
  have : i = 0 ∨ i = 1 ∨ i = 2 ∨ i = 3 := by omega
  rcases this with rfl | rfl | rfl | rfl <;> decide

def askL (o k : Int) (yes no : ByteArray) : Ln := ⟨noText, (o, k, 0, 0), yes, no⟩

def loadL (f m : Int) : List Ln := [plainL 1 f, plainL 2 m]

/-- Both halves are the same. -/
def sameC (c : CN) (a yes no : ByteArray) : List Ln := [plainL 1 (3 + 2 * c.arg), plainL 2 c.mh, askL 3 c.vh a no, placeL a, plainL 1 (2 + 2 * c.arg), plainL 2 c.ml, askL 3 c.vl yes no]

/-- The first half is more, or both are. -/
def moreC (c : CN) (o : Int) (a b yes no : ByteArray) : List Ln := [plainL 1 (3 + 2 * c.arg), plainL 2 c.mh, askL 4 c.vh yes a, placeL a, askL 3 c.vh b no, placeL b, plainL 1 (2 + 2 * c.arg), plainL 2 c.ml, askL o c.vl yes no]

def labA2 (base : ByteArray) : ByteArray := base ++ ⟨#[97]⟩
def labB2 (base : ByteArray) : ByteArray := base ++ ⟨#[98]⟩

/-- What CondLines answers. -/
def condL (c : CN) (base yes no : ByteArray) : List Ln :=
  if condB c = true then
    if c.cm = 1 then sameC c (labA2 base) yes no
    else if c.cm = 2 then sameC c (labA2 base) no yes
    else if c.cm = 5 then moreC c 4 (labA2 base) (labB2 base) yes no
    else if c.cm = 4 then moreC c 4 (labA2 base) (labB2 base) no yes
    else if c.cm = 6 then moreC c 5 (labA2 base) (labB2 base) yes no
    else moreC c 5 (labA2 base) (labB2 base) no yes
  else []

theorem condL_len (c : CN) (base yes no : ByteArray) : (condL c base yes no).length ≤ 9 := by
  have hs : ∀ a yes no, (sameC c a yes no).length ≤ 9 := fun _ _ _ => by simp [sameC]
  have hm : ∀ o a b yes no, (moreC c o a b yes no).length ≤ 9 := fun _ _ _ _ _ => by simp [moreC]
  unfold condL
  repeat' split
  all_goals first | exact hs _ _ _ | exact hm _ _ _ _ _ | simp

theorem ownL_from {w : World} {B : Nat} {v : Value} {ls : List Ln} (h : OwnL w B v ls) {x : Nat} (hx : v.ownBlock = some x) : B ≤ x := by
  have hown : w.ownsRow B 38 7 v ls.length (flatL ls) := h
  rcases hown.2 with ⟨rfl, h0⟩ | ⟨g, cap, cur, rfl, hg, _⟩
  · cases hx
  · obtain rfl : g = x := Option.some.inj hx
    exact hg

theorem Ext.grown {w W W' : World} {row : Option Nat} (h : Ext w W) (hg : W.grownBy W' row) (hr : ∀ x, row = some x → w.heap.size ≤ x) : Ext w W' :=
  ⟨hg.os.trans h.os, hg.tape.trans h.tape, hg.output.trans h.output, Nat.le_trans h.size hg.size, fun i hi => (hg.block i (Nat.lt_of_lt_of_le hi h.size) (fun e => by have := hr i e.symm; omega)).trans (h.block i hi)⟩

theorem OwnL.ext {w w' : World} {B : Nat} {v : Value} {ls : List Ln} (h : OwnL w B v ls) (hE : Ext w w') : OwnL w' B v ls := own_below h hE

theorem OwnL.mono {w : World} {B C : Nat} {v : Value} {ls : List Ln} (h : OwnL w B v ls) (hC : C ≤ B) : OwnL w C v ls := by
  have hown : w.ownsRow B 38 7 v ls.length (flatL ls) := h
  refine ⟨hown.1, ?_⟩
  rcases hown.2 with hn | ⟨g, cap, cur, rfl, hg, rest⟩
  · exact .inl hn
  · exact .inr ⟨g, cap, cur, rfl, by omega, rest⟩

theorem OwnL.lit {w : World} {B : Nat} (ls : List Ln) (hB : B ≤ w.heap.size) (cs : Array Value) (n b : Nat) (hb : b = w.heap.size) (hn : n = ls.length) (hc : cs = (flatL ls).toArray) (hl : ls.length ≤ maxLen) : OwnL (w.alloc (.cells cs 38)) B (.slice (some ⟨b, 0, none⟩) n n) ls := by
  subst hn hc hb
  have := World.ownsRow_lit (e := 38) (size := 7) w (flatL ls).toArray ls.length hB hl (by simp [flatL_length])
  simpa [OwnL] using this

set_option maxRecDepth 100000 in
set_option maxHeartbeats 2000000 in
theorem halves_any (ag mh ml cm vh vl : Int) (w : World) (h0 : 0 ≤ ag) (h1 : ag ≤ 2) : Calls Tryd.prog 93 #[.agg #[.int .i64 ag, .int .i64 mh, .int .i64 ml, .int .i64 cm, .int .i64 vh, .int .i64 vl]] w fun e w' => e = .returned (.tuple #[.agg #[.int .i64 (3 + 2 * ag), .int .i64 mh, .int .i64 vh], .agg #[.int .i64 (2 + 2 * ag), .int .i64 ml, .int .i64 vl]]) ∧ Ext w w' := by
  have HL : Hid (3 + 2 * ag = 2 + 2 * ag + 1) := by unfold Hid; omega
  go_enter Tryd.func93, Tryd.ntmps93
  go_wp2
  go_region
  go_wp2
  refine bodyPost_ret (v := .tuple #[.agg #[.int .i64 (2 + 2 * ag + 1), .int .i64 mh, .int .i64 vh], .agg #[.int .i64 (2 + 2 * ag), .int .i64 ml, .int .i64 vl]]) (by simp [results, Tryd.results93, go_sem, *]) rfl ⟨by rw [HL.out], ?_⟩
  exact ((((Ext.one w _).alloc _).alloc _).drew)

set_option maxRecDepth 100000 in
set_option maxHeartbeats 2000000 in
theorem loadH_any (f m v : Int) (w : World) : Calls Tryd.prog 94 #[.agg #[.int .i64 f, .int .i64 m, .int .i64 v]] w fun e w' => ∃ g, e = .returned (.slice (some ⟨g, 0, none⟩) 2 2) ∧ OwnL w' w.heap.size (.slice (some ⟨g, 0, none⟩) 2 2) (loadL f m) ∧ Ext w w' := by
  go_enter Tryd.func94, Tryd.ntmps94
  go_wp2
  go_ret
  exact ⟨_, rfl, OwnL.lit (loadL f m) (Ext.one w _).size _ 2 _ (by simp) rfl rfl (by simp [loadL, maxLen]), (Ext.one _ _).alloc _⟩

set_option maxRecDepth 100000 in
set_option maxHeartbeats 2000000 in
theorem askH_any (f m v o : Int) (yes no : ByteArray) (w : World) : Calls Tryd.prog 95 #[.agg #[.int .i64 f, .int .i64 m, .int .i64 v], .int .i64 o, .string yes, .string no] w fun e w' => e = .returned (.agg #[.string ⟨#[]⟩, .int .i64 o, .int .i64 v, .int .i64 0, .int .i64 0, .string yes, .string no]) ∧ Ext w w' := by
  go_enter Tryd.func95, Tryd.ntmps95
  go_wp2
  refine bodyPost_ret (v := .agg #[.string ⟨#[]⟩, .int .i64 o, .int .i64 v, .int .i64 0, .int .i64 0, .string yes, .string no]) (by simp [results, Tryd.results95, go_sem, *]) rfl ⟨rfl, ?_⟩
  go_grown

theorem ownF_any (base s : ByteArray) (b : Nat) (w : World) (hs : base.size + s.size ≤ 9223372036854775807) (hc : w.cell? ⟨b, 0, none⟩ = some (.string base)) : Calls Tryd.prog 70 #[.string s, .pointer (some ⟨b, 0, none⟩)] w fun e w' => e = .returned (.string (base ++ s)) ∧ w = w' := by
  have had := fun wx => run_string_add_sum (P := Tryd.prog) wx base s hs
  go_enter Tryd.func70, Tryd.ntmps70
  go_wp2
  go_ret
  exact ⟨rfl, rfl⟩

theorem flat_one {ls : List Ln} : ∀ u ∈ flatL ls, u.oneCell' = true := by
  intro u hu
  unfold flatL at hu
  obtain ⟨l, _, h⟩ := List.mem_flatMap.1 hu
  unfold sev at h
  simp at h
  rcases h with rfl | rfl | rfl | rfl | rfl | rfl | rfl <;> rfl

theorem OwnL.cell {w : World} {B g n c : Nat} {ls : List Ln} (h : OwnL w B (.slice (some ⟨g, 0, none⟩) n c) ls) : ∀ j u, (flatL ls)[j]? = some u → w.cell? ⟨g, j, none⟩ = some u := by
  intro j u hu
  have hown : w.ownsRow B 38 7 (.slice (some ⟨g, 0, none⟩) n c) ls.length (flatL ls) := h
  have hc := hown.cells (g := g) rfl j u hu
  rwa [Addr.add_lit, Nat.zero_add] at hc

/-- Cells below W1's end are kept from one world above W1 to another. -/
theorem CellsAt.of {W1 W W' : World} {k : Nat} {l : List Value} (h : CellsAt W k l) (hE : Ext W1 W) (hE' : Ext W1 W') (hk : k < W1.heap.size) : CellsAt W' k l :=
  ⟨Nat.lt_of_lt_of_le hk hE'.size, fun i v hv => ((hE'.cell (p := ⟨k, i, none⟩) hk).trans (hE.cell (p := ⟨k, i, none⟩) hk).symm).trans (h.2 i v hv)⟩

/-- Lines of a row appended to a row of the call's own. -/
theorem append_lines (w : World) {ops : Array Oper} {rest : List Oper} {o : Oper} {a : Act} {Q : Exit → Act → World → Prop} (hgd : o.guard = none) (s x : Operand)
    (ho : o.op = .call { callee := .builtin .append, args := #[s, x], argTypes := #[33, 33] })
    {w0 : World} (v : Value) (ls ms : List Ln) (hs : a.eval s = v) (hown : OwnL w w0.heap.size v ls) (hE : Ext w0 w) (g m c : Nat) (hx : a.eval x = .slice (some ⟨g, 0, none⟩) m c) (hm : m = ms.length)
    (hc : ∀ j u, (flatL ms)[j]? = some u → w.cell? ⟨g, j, none⟩ = some u) (h63 : ls.length + ms.length ≤ 1000000000)
    (h : ∀ v' w', OwnL w' w0.heap.size v' (ls ++ ms) → Ext w0 w' → wpList Tryd.prog ops Q rest (a.put o.dst v') w') : wpList Tryd.prog ops Q (o :: rest) a w := by
  obtain ⟨i0, hi, hz0, hz1, hz2⟩ := info_parts Tryd.infoLn
  subst hm
  refine wpList_append_own w hgd s x 33 ho w0.heap.size 38 i0 (.agg #[.string ⟨#[]⟩, .int .i64 0, .int .i64 0, .int .i64 0, .int .i64 0, .string ⟨#[]⟩, .string ⟨#[]⟩]) 7 80 Tryd.underlying33 hi hz0 hz1 hz2 rfl (by decide) v ls.length (flatL ls) hs hown ⟨g, 0, none⟩ ms.length c (flatL ms) hx (flatL_length ms) (fun j u hu => ?_) flat_one (by unfold maxLen; omega) (by omega) hE.size (fun v' w' h1 h2 _ => h v' w' ?_ ?_)
  · rw [Addr.add_lit, Nat.zero_add]; exact hc j u hu
  · unfold OwnL
    rw [List.length_append, flatL_append]
    exact h1
  · exact hE.grown h2 (fun x hx => ownL_from hown hx)

set_option maxRecDepth 100000 in
set_option maxHeartbeats 4000000 in
theorem same_any (ag mh ml cm vh vl : Int) (base yes no : ByteArray) (b : Nat) (w : World) (h0 : 0 ≤ ag) (h1 : ag ≤ 2) (hs : base.size ≤ 1000000000) (hb : b < w.heap.size) (hc : w.cell? ⟨b, 0, none⟩ = some (.string base)) :
    Calls Tryd.prog 71 #[.agg #[.int .i64 ag, .int .i64 mh, .int .i64 ml, .int .i64 cm, .int .i64 vh, .int .i64 vl], .func (.func 70) #[] #[.pointer (some ⟨b, 0, none⟩)], .string yes, .string no] w fun e w' => ∃ v, e = .returned v ∧ OwnL w' w.heap.size v (sameC ⟨ag, mh, ml, cm, vh, vl⟩ (labA2 base) yes no) ∧ Ext w w' := by
  obtain ⟨aa, haa⟩ : ∃ aa, aa = labA2 base := ⟨_, rfl⟩
  have HO : Hid (∀ W, Ext w W → Calls Tryd.prog 70 #[.string ⟨#[97]⟩, .pointer (some ⟨b, 0, none⟩)] W fun e w' => e = .returned (.string aa) ∧ W = w') := fun W hE => by
    rw [haa]; exact ownF_any base ⟨#[97]⟩ b W (by show base.size + 1 ≤ _; omega) ((hE.cell (p := ⟨b, 0, none⟩) hb).trans hc)
  rw [← haa]
  clear haa hc
  go_enter Tryd.func71, Tryd.ntmps71
  go_wp2_with fail
  refine (halves_any ag mh ml cm vh vl _ h0 h1).mono ?_
  rintro e w1 ⟨rfl, x1⟩
  have X1 : Hid (Ext w w1) := (Ext.one w _).trans x1
  clear x1
  go_wp2_with fail
  obtain ⟨W1, hW1⟩ : ∃ W, W = (w1.alloc (.cells #[.int .i64 (3 + 2 * ag), .int .i64 mh, .int .i64 vh] 128)).alloc (.cells #[.int .i64 (2 + 2 * ag), .int .i64 ml, .int .i64 vl] 128) := ⟨_, rfl⟩
  have HX : Hid (Ext w W1) := by rw [hW1]; exact (X1.out.alloc _).alloc _
  have p1 : CellsAt W1 w1.heap.size [.int .i64 (3 + 2 * ag), .int .i64 mh, .int .i64 vh] := by rw [hW1]; exact (CellsAt.new w1 [.int .i64 (3 + 2 * ag), .int .i64 mh, .int .i64 vh] 128).step (Ext.one _ _)
  have p2 : CellsAt W1 (w1.heap.size + 1) [.int .i64 (2 + 2 * ag), .int .i64 ml, .int .i64 vl] := by rw [hW1]; exact CellsAt.new' _ [.int .i64 (2 + 2 * ag), .int .i64 ml, .int .i64 vl] 128 _ (by simp)
  rw [← hW1]
  clear hW1
  go_at_call 70
  refine (HO.out _ HX.out).mono ?_
  rintro e w2 ⟨rfl, rfl⟩
  clear HO
  go_wp2_with fail
  refine' wp_region_loose_tail 9 (.inl _ :: .inr (fun v w' => ∃ g, v = .slice (some ⟨g, 0, none⟩) 2 2 ∧ OwnL w' W1.heap.size v (loadL (3 + 2 * ag) mh)) :: .inl _ :: .inl _ :: .inl _ :: .inl _ :: .inl _ :: .inl _ :: .inr (fun v w' => ∃ g, v = .slice (some ⟨g, 0, none⟩) 2 2 ∧ CellsAt w' g (flatL [askL 3 vh aa no, placeL aa])) :: []) (fun w' => CellsAt w' w1.heap.size [.int .i64 (3 + 2 * ag), .int .i64 mh, .int .i64 vh] ∧ CellsAt w' (w1.heap.size + 1) [.int .i64 (2 + 2 * ag), .int .i64 ml, .int .i64 vl]) (by kernel_rfl) (by kernel_rfl) (⟨p1.drew, p2.drew⟩) (fun _ _ h hE => ⟨h.1.step hE, h.2.step hE⟩) ?hAa ?hla ?hMa
  case' hMa => skip
  simp only [List.take_succ_cons, List.take_zero, List.drop_succ_cons, List.drop_zero]
  apply wpLoose_val rfl rfl
  case hs =>
    intro w1 hC hd Q1 hQ1
    obtain ⟨hE, hS⟩ := hC
    dsimp only [bare]
    obtain ⟨q0, q1, q2⟩ := (⟨hS.1.2 0 _ rfl, hS.1.2 1 _ rfl, hS.1.2 2 _ rfl⟩ : _ ∧ _ ∧ _)
    clear hd hE
    try clear hS
    go_wp2
    exact Ext.refl _
  case ha => rfl
  refine wpLoose_rel rfl rfl ?_ (fun va_1 => ?_)
  · intro w1 hC hd Q1 hQ1
    obtain ⟨hE, hS⟩ := hC
    dsimp only [bare]
    clear hd hS
    go_wp2_with fail
    refine (loadH_any (3 + 2 * ag) mh vh _).mono ?_
    rintro e w2 ⟨g, rfl, r2, x2⟩
    go_wp2_with fail
    exact hQ1 _ _ x2 ⟨g, rfl, r2.mono hE.size⟩
  apply wpLoose_val rfl rfl
  case hs =>
    intro w1 hC hd Q1 hQ1
    obtain ⟨hE, hS⟩ := hC
    dsimp only [bare]
    obtain ⟨q0, q1, q2⟩ := (⟨hS.1.2 0 _ rfl, hS.1.2 1 _ rfl, hS.1.2 2 _ rfl⟩ : _ ∧ _ ∧ _)
    clear hd hE
    try clear hS
    go_wp2
    exact Ext.refl _
  case ha => rfl
  apply wpLoose_val rfl rfl
  case hs =>
    intro w1 hC hd Q1 hQ1
    obtain ⟨hE, hS⟩ := hC
    dsimp only [bare]
    obtain ⟨q0, q1, q2⟩ := (⟨hS.1.2 0 _ rfl, hS.1.2 1 _ rfl, hS.1.2 2 _ rfl⟩ : _ ∧ _ ∧ _)
    clear hd hE
    try clear hS
    go_wp2
    exact Ext.refl _
  case ha => rfl
  apply wpLoose_val rfl rfl
  case hs =>
    intro w1 hC hd Q1 hQ1
    obtain ⟨hE, hS⟩ := hC
    dsimp only [bare]
    obtain ⟨q0, q1, q2⟩ := (⟨hS.1.2 0 _ rfl, hS.1.2 1 _ rfl, hS.1.2 2 _ rfl⟩ : _ ∧ _ ∧ _)
    clear hd hE
    try clear hS
    go_wp2
    exact Ext.refl _
  case ha => rfl
  apply wpLoose_val rfl rfl
  case hs =>
    intro w1 hC hd Q1 hQ1
    obtain ⟨hE, hS⟩ := hC
    dsimp only [bare]
    clear hd
    go_wp2_with fail
    refine (askH_any (3 + 2 * ag) mh vh 3 aa no _).mono ?_
    rintro e w2 ⟨rfl, hb⟩
    go_wp2_with fail
    exact hb
  case ha => rfl
  apply wpLoose_val rfl rfl
  case hs =>
    intro w1 hC hd Q1 hQ1
    obtain ⟨hE, hS⟩ := hC
    dsimp only [bare]
    obtain ⟨q0, q1, q2⟩ := (⟨hS.1.2 0 _ rfl, hS.1.2 1 _ rfl, hS.1.2 2 _ rfl⟩ : _ ∧ _ ∧ _)
    clear hd hE
    try clear hS
    go_wp2
    exact Ext.refl _
  case ha => rfl
  apply wpLoose_val rfl rfl
  case hs =>
    intro w1 hC hd Q1 hQ1
    obtain ⟨hE, hS⟩ := hC
    dsimp only [bare]
    obtain ⟨q0, q1, q2⟩ := (⟨hS.1.2 0 _ rfl, hS.1.2 1 _ rfl, hS.1.2 2 _ rfl⟩ : _ ∧ _ ∧ _)
    clear hd hE
    try clear hS
    go_wp2
    exact Ext.refl _
  case ha => rfl
  refine wpLoose_rel rfl rfl ?_ (fun va_8 => ?_)
  · intro w1 hC hd Q1 hQ1
    obtain ⟨hE, hS⟩ := hC
    dsimp only [bare]
    clear hd hS hE
    go_wp2
    exact hQ1 _ _ ((Below.refl _ _).alloc (Nat.le_refl _) _) ⟨_, rfl, CellsAt.new _ (flatL [askL 3 vh aa no, placeL aa]) _⟩
  refine wpLoose_nil ?_
  intro wa hEa hSa hFa
  obtain ⟨g1, rfl, r1⟩ := hFa 1 _ rfl (by decide) (by simp [Act.put])
  obtain ⟨g2, rfl, r2⟩ := hFa 8 _ rfl (by decide) (by simp [Act.put])
  simp only [Act.put]
  have HX2 : Hid (Ext W1 wa) := (Ext.refl W1).drew.trans hEa
  have HQ : Hid (CellsAt wa (w1.heap.size + 1) [.int .i64 (2 + 2 * ag), .int .i64 ml, .int .i64 vl]) := hSa.2
  have HP : Hid (w1.heap.size + 1 < W1.heap.size) := p2.1
  clear hFa hSa hEa p1 p2
  refine append_lines _ rfl _ _ rfl (w0 := W1) _ (loadL (3 + 2 * ag) mh) [askL 3 vh aa no, placeL aa] rfl r1 HX2.out g2 2 2 rfl rfl r2.2 (by simp [loadL]) ?_
  intro v3 w3 own3 x3
  have HQ3 := HQ.out.of HX2.out x3 HP.out
  obtain ⟨q0, q1, q2⟩ := (⟨HQ3.2 0 _ rfl, HQ3.2 1 _ rfl, HQ3.2 2 _ rfl⟩ : _ ∧ _ ∧ _)
  clear r1 r2 HQ HX2
  go_wp2_with fail
  refine (loadH_any (2 + 2 * ag) ml vl _).mono ?_
  rintro e w4 ⟨g4, rfl, r4, x4⟩
  have own4 := own3.ext x4
  have x14 := x3.trans x4
  have HQ4 := HQ3.step x4
  clear own3 x3 x4 q0 q1 q2 HQ3
  go_wp2_with (at_builtin; refine append_lines _ rfl _ _ rfl (w0 := W1) _ _ (loadL (2 + 2 * ag) ml) rfl own4 x14 g4 2 2 rfl rfl r4.cell (by simp [loadL]) ?_)
  intro v5 w5 own5 x5
  have HQ5 := HQ4.of x14 x5 HP.out
  obtain ⟨q0, q1, q2⟩ := (⟨HQ5.2 0 _ rfl, HQ5.2 1 _ rfl, HQ5.2 2 _ rfl⟩ : _ ∧ _ ∧ _)
  clear own4 x14 HQ4 r4
  go_wp2_with fail
  refine (askH_any (2 + 2 * ag) ml vl 3 yes no _).mono ?_
  rintro e w6 ⟨rfl, x6⟩
  have own6 := own5.ext x6
  have x16 := x5.trans x6
  clear own5 x5 x6 q0 q1 q2 HQ5
  go_wp2_with (at_builtin; refine append_lines _ rfl _ _ rfl (w0 := W1) _ _ [askL 3 vl yes no] rfl (own6.ext (Ext.one _ _)) (x16.alloc _) w6.heap.size 1 1 rfl rfl (CellsAt.new w6 (flatL [askL 3 vl yes no]) 38).2 (by simp [loadL]) ?_)
  intro v7 w7 own7 x7
  clear own6 x16
  have O7 : Hid (OwnL w7 w.heap.size v7 (sameC ⟨ag, mh, ml, cm, vh, vl⟩ aa yes no)) := own7.mono HX.out.size
  have X7 : Hid (Ext w w7) := HX.out.trans x7
  clear own7 x7
  go_wp2
  go_ret
  exact ⟨_, rfl, O7.out, X7.out⟩
  case hAa => kernel_rfl
  case hla => exact ⟨trivial, fun _ _ _ ⟨g, hv, h⟩ hE => ⟨g, hv, h.ext hE⟩, trivial, trivial, trivial, trivial, trivial, trivial, fun _ _ _ ⟨g, hv, h⟩ hE => ⟨g, hv, h.step hE⟩, trivial⟩

set_option maxRecDepth 100000 in
set_option maxHeartbeats 4000000 in
theorem more_any (ag mh ml cm vh vl o : Int) (base yes no : ByteArray) (b : Nat) (w : World) (h0 : 0 ≤ ag) (h1 : ag ≤ 2) (hs : base.size ≤ 1000000000) (hb : b < w.heap.size) (hc : w.cell? ⟨b, 0, none⟩ = some (.string base)) :
    Calls Tryd.prog 72 #[.agg #[.int .i64 ag, .int .i64 mh, .int .i64 ml, .int .i64 cm, .int .i64 vh, .int .i64 vl], .int .i64 o, .func (.func 70) #[] #[.pointer (some ⟨b, 0, none⟩)], .string yes, .string no] w fun e w' => ∃ v, e = .returned v ∧ OwnL w' w.heap.size v (moreC ⟨ag, mh, ml, cm, vh, vl⟩ o (labA2 base) (labB2 base) yes no) ∧ Ext w w' := by
  obtain ⟨aa, haa⟩ : ∃ aa, aa = labA2 base := ⟨_, rfl⟩
  obtain ⟨bb, hbb⟩ : ∃ aa, aa = labB2 base := ⟨_, rfl⟩
  have HO : Hid (∀ W, Ext w W → Calls Tryd.prog 70 #[.string ⟨#[97]⟩, .pointer (some ⟨b, 0, none⟩)] W fun e w' => e = .returned (.string aa) ∧ W = w') := fun W hE => by
    rw [haa]; exact ownF_any base ⟨#[97]⟩ b W (by show base.size + 1 ≤ _; omega) ((hE.cell (p := ⟨b, 0, none⟩) hb).trans hc)
  have HO2 : Hid (∀ W, Ext w W → Calls Tryd.prog 70 #[.string ⟨#[98]⟩, .pointer (some ⟨b, 0, none⟩)] W fun e w' => e = .returned (.string bb) ∧ W = w') := fun W hE => by
    rw [hbb]; exact ownF_any base ⟨#[98]⟩ b W (by show base.size + 1 ≤ _; omega) ((hE.cell (p := ⟨b, 0, none⟩) hb).trans hc)
  rw [← haa, ← hbb]
  clear haa hbb hc
  go_enter Tryd.func72, Tryd.ntmps72
  go_wp2_with fail
  refine (halves_any ag mh ml cm vh vl _ h0 h1).mono ?_
  rintro e w1 ⟨rfl, x1⟩
  have X1 : Hid (Ext w w1) := (Ext.one w _).trans x1
  clear x1
  go_wp2_with fail
  obtain ⟨W1, hW1⟩ : ∃ W, W = (w1.alloc (.cells #[.int .i64 (3 + 2 * ag), .int .i64 mh, .int .i64 vh] 128)).alloc (.cells #[.int .i64 (2 + 2 * ag), .int .i64 ml, .int .i64 vl] 128) := ⟨_, rfl⟩
  have HX : Hid (Ext w W1) := by rw [hW1]; exact (X1.out.alloc _).alloc _
  have p1 : CellsAt W1 w1.heap.size [.int .i64 (3 + 2 * ag), .int .i64 mh, .int .i64 vh] := by rw [hW1]; exact (CellsAt.new w1 [.int .i64 (3 + 2 * ag), .int .i64 mh, .int .i64 vh] 128).step (Ext.one _ _)
  have p2 : CellsAt W1 (w1.heap.size + 1) [.int .i64 (2 + 2 * ag), .int .i64 ml, .int .i64 vl] := by rw [hW1]; exact CellsAt.new' _ [.int .i64 (2 + 2 * ag), .int .i64 ml, .int .i64 vl] 128 _ (by simp)
  rw [← hW1]
  clear hW1
  go_at_call 70
  refine (HO.out _ HX.out).mono ?_
  rintro e w2 ⟨rfl, rfl⟩
  clear HO
  go_wp2_with fail
  go_at_call 70
  refine (HO2.out _ HX.out).mono ?_
  rintro e w2 ⟨rfl, rfl⟩
  clear HO2
  go_wp2_with fail
  refine' wp_region_loose_tail 15 (.inl _ :: .inr (fun v w' => ∃ g, v = .slice (some ⟨g, 0, none⟩) 2 2 ∧ OwnL w' W1.heap.size v (loadL (3 + 2 * ag) mh)) :: .inl _ :: .inl _ :: .inl _ :: .inl _ :: .inl _ :: .inl _ :: .inl _ :: .inl _ :: .inl _ :: .inl _ :: .inl _ :: .inl _ :: .inr (fun v w' => ∃ g, v = .slice (some ⟨g, 0, none⟩) 4 4 ∧ CellsAt w' g (flatL [askL 4 vh yes aa, placeL aa, askL 3 vh bb no, placeL bb])) :: []) (fun w' => CellsAt w' w1.heap.size [.int .i64 (3 + 2 * ag), .int .i64 mh, .int .i64 vh] ∧ CellsAt w' (w1.heap.size + 1) [.int .i64 (2 + 2 * ag), .int .i64 ml, .int .i64 vl]) (by kernel_rfl) (by kernel_rfl) (⟨p1.drew, p2.drew⟩) (fun _ _ h hE => ⟨h.1.step hE, h.2.step hE⟩) ?hAa ?hla ?hMa
  case' hMa => skip
  simp only [List.take_succ_cons, List.take_zero, List.drop_succ_cons, List.drop_zero]
  apply wpLoose_val rfl rfl
  case hs =>
    intro w1 hC hd Q1 hQ1
    obtain ⟨hE, hS⟩ := hC
    dsimp only [bare]
    obtain ⟨q0, q1, q2⟩ := (⟨hS.1.2 0 _ rfl, hS.1.2 1 _ rfl, hS.1.2 2 _ rfl⟩ : _ ∧ _ ∧ _)
    clear hd hE
    try clear hS
    go_wp2
    exact Ext.refl _
  case ha => rfl
  refine wpLoose_rel rfl rfl ?_ (fun va_1 => ?_)
  · intro w1 hC hd Q1 hQ1
    obtain ⟨hE, hS⟩ := hC
    dsimp only [bare]
    clear hd hS
    go_wp2_with fail
    refine (loadH_any (3 + 2 * ag) mh vh _).mono ?_
    rintro e w2 ⟨g, rfl, r2, x2⟩
    go_wp2_with fail
    exact hQ1 _ _ x2 ⟨g, rfl, r2.mono hE.size⟩
  apply wpLoose_val rfl rfl
  case hs =>
    intro w1 hC hd Q1 hQ1
    obtain ⟨hE, hS⟩ := hC
    dsimp only [bare]
    obtain ⟨q0, q1, q2⟩ := (⟨hS.1.2 0 _ rfl, hS.1.2 1 _ rfl, hS.1.2 2 _ rfl⟩ : _ ∧ _ ∧ _)
    clear hd hE
    try clear hS
    go_wp2
    exact Ext.refl _
  case ha => rfl
  apply wpLoose_val rfl rfl
  case hs =>
    intro w1 hC hd Q1 hQ1
    obtain ⟨hE, hS⟩ := hC
    dsimp only [bare]
    obtain ⟨q0, q1, q2⟩ := (⟨hS.1.2 0 _ rfl, hS.1.2 1 _ rfl, hS.1.2 2 _ rfl⟩ : _ ∧ _ ∧ _)
    clear hd hE
    try clear hS
    go_wp2
    exact Ext.refl _
  case ha => rfl
  apply wpLoose_val rfl rfl
  case hs =>
    intro w1 hC hd Q1 hQ1
    obtain ⟨hE, hS⟩ := hC
    dsimp only [bare]
    obtain ⟨q0, q1, q2⟩ := (⟨hS.1.2 0 _ rfl, hS.1.2 1 _ rfl, hS.1.2 2 _ rfl⟩ : _ ∧ _ ∧ _)
    clear hd hE
    try clear hS
    go_wp2
    exact Ext.refl _
  case ha => rfl
  apply wpLoose_val rfl rfl
  case hs =>
    intro w1 hC hd Q1 hQ1
    obtain ⟨hE, hS⟩ := hC
    dsimp only [bare]
    clear hd
    go_wp2_with fail
    refine (askH_any (3 + 2 * ag) mh vh 4 yes aa _).mono ?_
    rintro e w2 ⟨rfl, hb⟩
    go_wp2_with fail
    exact hb
  case ha => rfl
  apply wpLoose_val rfl rfl
  case hs =>
    intro w1 hC hd Q1 hQ1
    obtain ⟨hE, hS⟩ := hC
    dsimp only [bare]
    obtain ⟨q0, q1, q2⟩ := (⟨hS.1.2 0 _ rfl, hS.1.2 1 _ rfl, hS.1.2 2 _ rfl⟩ : _ ∧ _ ∧ _)
    clear hd hE
    try clear hS
    go_wp2
    exact Ext.refl _
  case ha => rfl
  apply wpLoose_val rfl rfl
  case hs =>
    intro w1 hC hd Q1 hQ1
    obtain ⟨hE, hS⟩ := hC
    dsimp only [bare]
    obtain ⟨q0, q1, q2⟩ := (⟨hS.1.2 0 _ rfl, hS.1.2 1 _ rfl, hS.1.2 2 _ rfl⟩ : _ ∧ _ ∧ _)
    clear hd hE
    try clear hS
    go_wp2
    exact Ext.refl _
  case ha => rfl
  apply wpLoose_val rfl rfl
  case hs =>
    intro w1 hC hd Q1 hQ1
    obtain ⟨hE, hS⟩ := hC
    dsimp only [bare]
    obtain ⟨q0, q1, q2⟩ := (⟨hS.1.2 0 _ rfl, hS.1.2 1 _ rfl, hS.1.2 2 _ rfl⟩ : _ ∧ _ ∧ _)
    clear hd hE
    try clear hS
    go_wp2
    exact Ext.refl _
  case ha => rfl
  apply wpLoose_val rfl rfl
  case hs =>
    intro w1 hC hd Q1 hQ1
    obtain ⟨hE, hS⟩ := hC
    dsimp only [bare]
    obtain ⟨q0, q1, q2⟩ := (⟨hS.1.2 0 _ rfl, hS.1.2 1 _ rfl, hS.1.2 2 _ rfl⟩ : _ ∧ _ ∧ _)
    clear hd hE
    try clear hS
    go_wp2
    exact Ext.refl _
  case ha => rfl
  apply wpLoose_val rfl rfl
  case hs =>
    intro w1 hC hd Q1 hQ1
    obtain ⟨hE, hS⟩ := hC
    dsimp only [bare]
    obtain ⟨q0, q1, q2⟩ := (⟨hS.1.2 0 _ rfl, hS.1.2 1 _ rfl, hS.1.2 2 _ rfl⟩ : _ ∧ _ ∧ _)
    clear hd hE
    try clear hS
    go_wp2
    exact Ext.refl _
  case ha => rfl
  apply wpLoose_val rfl rfl
  case hs =>
    intro w1 hC hd Q1 hQ1
    obtain ⟨hE, hS⟩ := hC
    dsimp only [bare]
    clear hd
    go_wp2_with fail
    refine (askH_any (3 + 2 * ag) mh vh 3 bb no _).mono ?_
    rintro e w2 ⟨rfl, hb⟩
    go_wp2_with fail
    exact hb
  case ha => rfl
  apply wpLoose_val rfl rfl
  case hs =>
    intro w1 hC hd Q1 hQ1
    obtain ⟨hE, hS⟩ := hC
    dsimp only [bare]
    obtain ⟨q0, q1, q2⟩ := (⟨hS.1.2 0 _ rfl, hS.1.2 1 _ rfl, hS.1.2 2 _ rfl⟩ : _ ∧ _ ∧ _)
    clear hd hE
    try clear hS
    go_wp2
    exact Ext.refl _
  case ha => rfl
  apply wpLoose_val rfl rfl
  case hs =>
    intro w1 hC hd Q1 hQ1
    obtain ⟨hE, hS⟩ := hC
    dsimp only [bare]
    obtain ⟨q0, q1, q2⟩ := (⟨hS.1.2 0 _ rfl, hS.1.2 1 _ rfl, hS.1.2 2 _ rfl⟩ : _ ∧ _ ∧ _)
    clear hd hE
    try clear hS
    go_wp2
    exact Ext.refl _
  case ha => rfl
  refine wpLoose_rel rfl rfl ?_ (fun va_14 => ?_)
  · intro w1 hC hd Q1 hQ1
    obtain ⟨hE, hS⟩ := hC
    dsimp only [bare]
    clear hd hS hE
    go_wp2
    exact hQ1 _ _ ((Below.refl _ _).alloc (Nat.le_refl _) _) ⟨_, rfl, CellsAt.new _ (flatL [askL 4 vh yes aa, placeL aa, askL 3 vh bb no, placeL bb]) _⟩
  refine wpLoose_nil ?_
  intro wa hEa hSa hFa
  obtain ⟨g1, rfl, r1⟩ := hFa 1 _ rfl (by decide) (by simp [Act.put])
  obtain ⟨g2, rfl, r2⟩ := hFa 14 _ rfl (by decide) (by simp [Act.put])
  simp only [Act.put]
  have HX2 : Hid (Ext W1 wa) := (Ext.refl W1).drew.trans hEa
  have HQ : Hid (CellsAt wa (w1.heap.size + 1) [.int .i64 (2 + 2 * ag), .int .i64 ml, .int .i64 vl]) := hSa.2
  have HP : Hid (w1.heap.size + 1 < W1.heap.size) := p2.1
  clear hFa hSa hEa p1 p2
  refine append_lines _ rfl _ _ rfl (w0 := W1) _ (loadL (3 + 2 * ag) mh) [askL 4 vh yes aa, placeL aa, askL 3 vh bb no, placeL bb] rfl r1 HX2.out g2 4 4 rfl rfl r2.2 (by simp [loadL]) ?_
  intro v3 w3 own3 x3
  have HQ3 := HQ.out.of HX2.out x3 HP.out
  obtain ⟨q0, q1, q2⟩ := (⟨HQ3.2 0 _ rfl, HQ3.2 1 _ rfl, HQ3.2 2 _ rfl⟩ : _ ∧ _ ∧ _)
  clear r1 r2 HQ HX2
  go_wp2_with fail
  refine (loadH_any (2 + 2 * ag) ml vl _).mono ?_
  rintro e w4 ⟨g4, rfl, r4, x4⟩
  have own4 := own3.ext x4
  have x14 := x3.trans x4
  have HQ4 := HQ3.step x4
  clear own3 x3 x4 q0 q1 q2 HQ3
  go_wp2_with (at_builtin; refine append_lines _ rfl _ _ rfl (w0 := W1) _ _ (loadL (2 + 2 * ag) ml) rfl own4 x14 g4 2 2 rfl rfl r4.cell (by simp [loadL]) ?_)
  intro v5 w5 own5 x5
  have HQ5 := HQ4.of x14 x5 HP.out
  obtain ⟨q0, q1, q2⟩ := (⟨HQ5.2 0 _ rfl, HQ5.2 1 _ rfl, HQ5.2 2 _ rfl⟩ : _ ∧ _ ∧ _)
  clear own4 x14 HQ4 r4
  go_wp2_with fail
  refine (askH_any (2 + 2 * ag) ml vl o yes no _).mono ?_
  rintro e w6 ⟨rfl, x6⟩
  have own6 := own5.ext x6
  have x16 := x5.trans x6
  clear own5 x5 x6 q0 q1 q2 HQ5
  go_wp2_with (at_builtin; refine append_lines _ rfl _ _ rfl (w0 := W1) _ _ [askL o vl yes no] rfl (own6.ext (Ext.one _ _)) (x16.alloc _) w6.heap.size 1 1 rfl rfl (CellsAt.new w6 (flatL [askL o vl yes no]) 38).2 (by simp [loadL]) ?_)
  intro v7 w7 own7 x7
  clear own6 x16
  have O7 : Hid (OwnL w7 w.heap.size v7 (moreC ⟨ag, mh, ml, cm, vh, vl⟩ o aa bb yes no)) := own7.mono HX.out.size
  have X7 : Hid (Ext w w7) := HX.out.trans x7
  clear own7 x7
  go_wp2
  go_ret
  exact ⟨_, rfl, O7.out, X7.out⟩
  case hAa => kernel_rfl
  case hla => exact ⟨trivial, fun _ _ _ ⟨g, hv, h⟩ hE => ⟨g, hv, h.ext hE⟩, trivial, trivial, trivial, trivial, trivial, trivial, trivial, trivial, trivial, trivial, trivial, trivial, fun _ _ _ ⟨g, hv, h⟩ hE => ⟨g, hv, h.step hE⟩, trivial⟩

end Go.Proofs.YthflflhcbnianaaDoor
