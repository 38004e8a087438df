/- Lines of a condition, in plain lists; impl's small functions: halves, the words that load one, a question, an own label. -/
import Derived.Test.YthflflhcbnianaaLnBase
import Derived.Test.YthflflhcbnianaaCondOkIS
import Derived.BigQuiet
import Derived.Deep.QuietTactic
import Derived.Deep.RegionHeld3
import Derived.Laws.Concat
namespace Go.Proofs.Ythflflhcbnianaa
open Go.RowKit
set_option linter.unusedVariables false

def askL (o k : Int) (yes no : ByteArray) : Ln := ⟨noText, (o, k, 0, 0), yes, no⟩

def loadL (f m : Int) : List Ln := [plainL 1 f, plainL 2 m]

/-- Both halves are the same. -/
def sameC (c : CN) (a yes no : ByteArray) : List Ln := [plainL 1 (3 + 2 * c.arg), plainL 2 c.mh, askL 3 c.vh a no, placeL a, plainL 1 (2 + 2 * c.arg), plainL 2 c.ml, askL 3 c.vl yes no]

/-- The first half is more, or both are. -/
def moreC (c : CN) (o : Int) (a b yes no : ByteArray) : List Ln := [plainL 1 (3 + 2 * c.arg), plainL 2 c.mh, askL 4 c.vh yes a, placeL a, askL 3 c.vh b no, placeL b, plainL 1 (2 + 2 * c.arg), plainL 2 c.ml, askL o c.vl yes no]

def labA2 (base : ByteArray) : ByteArray := base ++ ⟨#[97]⟩
def labB2 (base : ByteArray) : ByteArray := base ++ ⟨#[98]⟩

/-- What CondLines answers. -/
def condL (c : CN) (base yes no : ByteArray) : List Ln :=
  if condB c = true then
    if c.cm = 1 then sameC c (labA2 base) yes no
    else if c.cm = 2 then sameC c (labA2 base) no yes
    else if c.cm = 5 then moreC c 4 (labA2 base) (labB2 base) yes no
    else if c.cm = 4 then moreC c 4 (labA2 base) (labB2 base) no yes
    else if c.cm = 6 then moreC c 5 (labA2 base) (labB2 base) yes no
    else moreC c 5 (labA2 base) (labB2 base) no yes
  else []

theorem condL_len (c : CN) (base yes no : ByteArray) : (condL c base yes no).length ≤ 9 := by
  have hs : ∀ a yes no, (sameC c a yes no).length ≤ 9 := fun _ _ _ => by simp [sameC]
  have hm : ∀ o a b yes no, (moreC c o a b yes no).length ≤ 9 := fun _ _ _ _ _ => by simp [moreC]
  unfold condL
  repeat' split
  all_goals first | exact hs _ _ _ | exact hm _ _ _ _ _ | simp

theorem ownL_from {w : World} {B : Nat} {v : Value} {ls : List Ln} (h : OwnL w B v ls) {x : Nat} (hx : v.ownBlock = some x) : B ≤ x := by
  have hown : w.ownsRow B 43 7 v ls.length (flatL ls) := h
  rcases hown.2 with ⟨rfl, h0⟩ | ⟨g, cap, cur, rfl, hg, _⟩
  · cases hx
  · obtain rfl : g = x := Option.some.inj hx
    exact hg

theorem Ext.grown {w W W' : World} {row : Option Nat} (h : Ext w W) (hg : W.grownBy W' row) (hr : ∀ x, row = some x → w.heap.size ≤ x) : Ext w W' :=
  ⟨hg.os.trans h.os, hg.tape.trans h.tape, hg.output.trans h.output, Nat.le_trans h.size hg.size, fun i hi => (hg.block i (Nat.lt_of_lt_of_le hi h.size) (fun e => by have := hr i e.symm; omega)).trans (h.block i hi)⟩

theorem OwnL.ext {w w' : World} {B : Nat} {v : Value} {ls : List Ln} (h : OwnL w B v ls) (hE : Ext w w') : OwnL w' B v ls := own_below h hE

theorem OwnL.mono {w : World} {B C : Nat} {v : Value} {ls : List Ln} (h : OwnL w B v ls) (hC : C ≤ B) : OwnL w C v ls := by
  have hown : w.ownsRow B 43 7 v ls.length (flatL ls) := h
  refine ⟨hown.1, ?_⟩
  rcases hown.2 with hn | ⟨g, cap, cur, rfl, hg, rest⟩
  · exact .inl hn
  · exact .inr ⟨g, cap, cur, rfl, by omega, rest⟩

theorem OwnL.lit {w : World} {B : Nat} (ls : List Ln) (hB : B ≤ w.heap.size) (cs : Array Value) (n b : Nat) (hb : b = w.heap.size) (hn : n = ls.length) (hc : cs = (flatL ls).toArray) (hl : ls.length ≤ maxLen) : OwnL (w.alloc (.cells cs 43)) B (.slice (some ⟨b, 0, none⟩) n n) ls := by
  subst hn hc hb
  have := World.ownsRow_lit (e := 43) (size := 7) w (flatL ls).toArray ls.length hB hl (by simp [flatL_length])
  simpa [OwnL] using this

set_option maxRecDepth 100000 in
set_option maxHeartbeats 2000000 in
theorem halves_any (ag mh ml cm vh vl : Int) (w : World) (h0 : 0 ≤ ag) (h1 : ag ≤ 2) : Calls Try.prog 31 #[.agg #[.int .i64 ag, .int .i64 mh, .int .i64 ml, .int .i64 cm, .int .i64 vh, .int .i64 vl]] w fun e w' => e = .returned (.tuple #[.agg #[.int .i64 (3 + 2 * ag), .int .i64 mh, .int .i64 vh], .agg #[.int .i64 (2 + 2 * ag), .int .i64 ml, .int .i64 vl]]) ∧ Ext w w' := by
  have HL : Hid (3 + 2 * ag = 2 + 2 * ag + 1) := by unfold Hid; omega
  go_enter Try.func31, Try.ntmps31
  go_wp2
  go_region
  go_wp2
  refine bodyPost_ret (v := .tuple #[.agg #[.int .i64 (2 + 2 * ag + 1), .int .i64 mh, .int .i64 vh], .agg #[.int .i64 (2 + 2 * ag), .int .i64 ml, .int .i64 vl]]) (by simp [results, Try.results31, go_sem, *]) rfl ⟨by rw [HL.out], ?_⟩
  exact ((((Ext.one w _).alloc _).alloc _).drew)

set_option maxRecDepth 100000 in
set_option maxHeartbeats 2000000 in
theorem loadH_any (f m v : Int) (w : World) : Calls Try.prog 32 #[.agg #[.int .i64 f, .int .i64 m, .int .i64 v]] w fun e w' => ∃ g, e = .returned (.slice (some ⟨g, 0, none⟩) 2 2) ∧ OwnL w' w.heap.size (.slice (some ⟨g, 0, none⟩) 2 2) (loadL f m) ∧ Ext w w' := by
  go_enter Try.func32, Try.ntmps32
  go_wp2
  go_ret
  exact ⟨_, rfl, OwnL.lit (loadL f m) (Ext.one w _).size _ 2 _ (by simp) rfl rfl (by simp [loadL, maxLen]), (Ext.one _ _).alloc _⟩

set_option maxRecDepth 100000 in
set_option maxHeartbeats 2000000 in
theorem askH_any (f m v o : Int) (yes no : ByteArray) (w : World) : Calls Try.prog 33 #[.agg #[.int .i64 f, .int .i64 m, .int .i64 v], .int .i64 o, .string yes, .string no] w fun e w' => e = .returned (.agg #[.string ⟨#[]⟩, .int .i64 o, .int .i64 v, .int .i64 0, .int .i64 0, .string yes, .string no]) ∧ Ext w w' := by
  go_enter Try.func33, Try.ntmps33
  go_wp2
  refine bodyPost_ret (v := .agg #[.string ⟨#[]⟩, .int .i64 o, .int .i64 v, .int .i64 0, .int .i64 0, .string yes, .string no]) (by simp [results, Try.results33, go_sem, *]) rfl ⟨rfl, ?_⟩
  go_grown

theorem ownF_any (base s : ByteArray) (b : Nat) (w : World) (hs : base.size + s.size ≤ 9223372036854775807) (hc : w.cell? ⟨b, 0, none⟩ = some (.string base)) : Calls Try.prog 23 #[.string s, .pointer (some ⟨b, 0, none⟩)] w fun e w' => e = .returned (.string (base ++ s)) ∧ w = w' := by
  have had := fun wx => run_string_add_sum (P := Try.prog) wx base s hs
  go_enter Try.func23, Try.ntmps23
  go_wp2
  go_ret
  exact ⟨rfl, rfl⟩

end Go.Proofs.Ythflflhcbnianaa
