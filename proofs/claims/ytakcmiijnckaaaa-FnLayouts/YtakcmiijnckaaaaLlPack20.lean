/- What spec's LinesOk answers: whether lines are right. -/
import Derived.Test.YtakcmiijnckaaaaLlPack18
import Derived.Maps.OwnSet
import Derived.Deep.SlicePairs
/- A map from texts to numbers, known as a function: what is found, put and struck. -/
namespace Go.Proofs.Ytakcmiijnckaaaa
open Go.RowKit Go.Maps
set_option linter.unusedVariables false

theorem mapLaw : Keyed Try.prog 9 := string_keyed Try.underlying9

theorem mapZero (w : World) : (zeroValue 3).run Try.prog w = .ok (.int .i64 0) w := by kernel_rfl

def keyS (s : ByteArray) : Lit := .string s.data.toList

theorem keyS_inj {s t : ByteArray} (h : keyS s = keyS t) : s = t := by
  unfold keyS at h
  injection h with h
  obtain ⟨⟨a⟩⟩ := s
  obtain ⟨⟨b⟩⟩ := t
  simp at h
  subst h
  rfl

theorem keyS_of {s : ByteArray} (hs : s.size ≤ maxLen) : keyOf Try.prog 9 (.string s) = some (keyS s) := Go.WideMaps.keyOf_string_mk Try.underlying9 hs

/-- Block B is a map of at most n entries that has M. -/
def MapOf (W : World) (B n : Nat) (M : ByteArray → Option Nat) : Prop :=
  ∃ D : DataW Unit, W.ownsMap Try.prog 9 (plainElem Try.prog 3) B n D ∧ ∀ s, Maps.has D (keyS s) = (M s).isSome ∧ D.atKey (keyS s) (.lit (.int .i64 0)) = .lit (.int .i64 (((M s).getD 0 : Nat) : Int))

theorem MapOf.lt {W : World} {B n : Nat} {M : ByteArray → Option Nat} (h : MapOf W B n M) : B < W.heap.size := by
  obtain ⟨D, h1, _⟩ := h
  exact h1.lt

theorem MapOf.mono {W : World} {B n m : Nat} {M : ByteArray → Option Nat} (h : MapOf W B n M) (hm : n ≤ m) : MapOf W B m M := by
  obtain ⟨D, h1, h2⟩ := h
  exact ⟨D, h1.mono hm, h2⟩

theorem MapOf.made (w : World) : MapOf (w.alloc (.map #[] 0)) w.heap.size 0 (fun _ => none) :=
  ⟨.map [], World.ownsMap_made w _ _ _, fun s => ⟨rfl, rfl⟩⟩

theorem MapOf.kept {w w' : World} {B n : Nat} {M : ByteArray → Option Nat} {row : Option Nat} (h : MapOf w B n M) (hg : w.grownBy w' row) (hne : some B ≠ row) : MapOf w' B n M := by
  obtain ⟨D, h1, h2⟩ := h
  exact ⟨D, h1.kept hg hne, h2⟩

theorem MapOf.below {w w' : World} {B n C : Nat} {M : ByteArray → Option Nat} (h : MapOf w B n M) (hb : Below C w w') (hB : B < C) : MapOf w' B n M := by
  obtain ⟨D, ⟨es, clock, e1, e2⟩, h2⟩ := h
  exact ⟨D, ⟨es, clock, (hb.block B hB).trans e1, e2⟩, h2⟩

theorem MapOf.ext {w w' : World} {B n : Nat} {M : ByteArray → Option Nat} (h : MapOf w B n M) (hE : Ext w w') : MapOf w' B n M := h.below hE h.lt

/-- One that says the same. -/
theorem MapOf.as {w : World} {B n : Nat} {M N : ByteArray → Option Nat} (h : MapOf w B n M) (he : ∀ s, M s = N s) : MapOf w B n N := by
  obtain ⟨D, h1, h2⟩ := h
  exact ⟨D, h1, fun s => by rw [← he s]; exact h2 s⟩

set_option maxRecDepth 100000 in
theorem MapOf.lookOk {w : World} {B n : Nat} {M : ByteArray → Option Nat} (h : MapOf w B n M) {s : ByteArray} (hs : s.size ≤ maxLen) :
    (Instr.lookup 59 (.map (some B)) (.string s) true).run Try.prog w = .ok (.tuple #[.int .i64 (((M s).getD 0 : Nat) : Int), .bool (M s).isSome]) w := by
  obtain ⟨D, h1, h2⟩ := h
  obtain ⟨v, ps, hrun, hv⟩ := h1.look_ok mapLaw Try.underlying59 (mapZero w) (plainElem_int Try.underlying3 (by decide)) (keyS_of hs)
  obtain ⟨c, rfl, hc, _⟩ := plainElem_int_inv Try.underlying3 hv
  have e := (h2 s).2
  have hc1 := congrArg Prod.fst hc
  simp only at hc1
  rw [e] at hc1
  have hc2 := (Lit.int.inj (DataW.lit.inj hc1)).2
  rw [hrun, (h2 s).1, hc2]

set_option maxRecDepth 100000 in
theorem MapOf.look {w : World} {B n : Nat} {M : ByteArray → Option Nat} (h : MapOf w B n M) {s : ByteArray} (hs : s.size ≤ maxLen) :
    (Instr.lookup 59 (.map (some B)) (.string s) false).run Try.prog w = .ok (.int .i64 (((M s).getD 0 : Nat) : Int)) w := by
  obtain ⟨D, h1, h2⟩ := h
  obtain ⟨c, hrun, hat, _⟩ := h1.lookup_int mapLaw Try.underlying59 Try.underlying3 (mapZero w) (keyS_of hs)
  rw [(h2 s).2] at hat
  have hc2 := (Lit.int.inj (DataW.lit.inj hat)).2
  rw [hrun, hc2]

/-- What is put. -/
def putM (M : ByteArray → Option Nat) (s : ByteArray) (v : Nat) : ByteArray → Option Nat := fun t => if t = s then some v else M t

/-- What is struck. -/
def delM (M : ByteArray → Option Nat) (s : ByteArray) : ByteArray → Option Nat := fun t => if t = s then none else M t

set_option maxRecDepth 100000 in
theorem MapOf.store {w : World} {B n : Nat} {M : ByteArray → Option Nat} (h : MapOf w B n M) (hn : n < maxLen) {s : ByteArray} (hs : s.size ≤ maxLen) (v : Nat) (hv : v ≤ 9223372036854775807) :
    ∃ w', (Instr.mapUpdate 59 (.map (some B)) (.string s) (.int .i64 (v : Int))).run Try.prog w = .ok () w' ∧ MapOf w' B (n + 1) (putM M s v) ∧ w.mapTurned w' B := by
  obtain ⟨D, h1, h2⟩ := h
  obtain ⟨w', hrun, hown, ht⟩ := h1.store mapLaw Try.underlying59 hn (keyS_of hs) (plainElem_int Try.underlying3 (a := (v : Int)) (WalkArith.wf_i64 (by omega)))
  refine ⟨w', hrun, ⟨_, hown, fun t => ?_⟩, ht⟩
  unfold putM
  by_cases e : t = s
  · subst e
    rw [if_pos rfl]
    exact ⟨has_put_same h1.isMap (show WideAt.IsKeyLit (keyS t) from trivial) _, atKey_put_same h1.isMap (show WideAt.IsKeyLit (keyS t) from trivial) _ _⟩
  · rw [if_neg e]
    have hk : keyS t ≠ keyS s := fun h => e (keyS_inj h)
    rw [has_put_other hk, atKey_put_other hk]
    exact h2 t

set_option maxRecDepth 100000 in
theorem MapOf.drop {w : World} {B n : Nat} {M : ByteArray → Option Nat} (h : MapOf w B n M) {s : ByteArray} (hs : s.size ≤ maxLen) (ty : TypeId) :
    ∃ w', (Builtin.delete_ #[59, 9] ty #[.map (some B), .string s]).run Try.prog w = .ok (.tuple #[]) w' ∧ MapOf w' B n (delM M s) ∧ w.mapTurned w' B := by
  obtain ⟨D, h1, h2⟩ := h
  obtain ⟨w', hrun, hown, ht⟩ := h1.drop mapLaw Try.underlying59 (keyS_of hs) ty
  refine ⟨w', hrun, ⟨_, hown, fun t => ?_⟩, ht⟩
  unfold delM
  by_cases e : t = s
  · subst e
    rw [if_pos rfl]
    exact ⟨has_del_same, atKey_del_same _⟩
  · rw [if_neg e]
    have hk : keyS t ≠ keyS s := fun h => e (keyS_inj h)
    rw [has_del_other hk, atKey_del_other hk]
    exact h2 t

/-! At the operation. -/
section
variable {P : Program} (w : World) {ops : Array Oper} {rest : List Oper} {o : Oper} {a : Act} {Q : Exit → Act → World → Prop}

theorem wpList_put_map (hg : o.guard = none) (m x v : Operand) (hop : o.op = Op.mapUpdate 59 m x v) (B n : Nat) (M : ByteArray → Option Nat) (hm : a.eval m = .map (some B)) (h : MapOf w B n M) (hn : n < maxLen) (s : ByteArray) (hx : a.eval x = .string s) (hs : s.size ≤ maxLen) (i : Nat) (hv : a.eval v = .int .i64 (i : Int)) (hi : i ≤ 9223372036854775807)
    (hK : ∀ w', MapOf w' B (n + 1) (putM M s i) → w.mapTurned w' B → wpList Try.prog ops Q rest (a.put o.dst undef) w') : wpList Try.prog ops Q (o :: rest) a w := by
  refine wpList_plain hg fun K' hK' => ?_
  obtain ⟨w', hrun, r1, r2⟩ := h.store hn hs i hi
  unfold Oper.wp
  simp [execOp, hop, hm, hx, hv, hrun, Result.andThen]
  exact hK' _ _ (hK w' r1 r2)

theorem wpList_del_map (hg : o.guard = none) (m x : Operand) (hop : o.op = Op.call { callee := Callee.builtin Builtin.delete, args := #[m, x], argTypes := #[59, 9] }) (B n : Nat) (M : ByteArray → Option Nat) (hm : a.eval m = .map (some B)) (h : MapOf w B n M) (s : ByteArray) (hx : a.eval x = .string s) (hs : s.size ≤ maxLen)
    (hK : ∀ w', MapOf w' B n (delM M s) → w.mapTurned w' B → wpList Try.prog ops Q rest (a.put o.dst (.tuple #[])) w') : wpList Try.prog ops Q (o :: rest) a w := by
  refine wpList_plain hg fun K' hK' => ?_
  obtain ⟨w', hrun, r1, r2⟩ := h.drop hs o.type
  unfold Oper.wp
  simp [execOp, hop, resolve, invoke, builtin, hm, hx, hrun, Result.andThen]
  exact hK' _ _ (hK w' r1 r2)

end

end Go.Proofs.Ytakcmiijnckaaaa

/- Lines in memory: rows of them. -/
namespace Go.Proofs.Ytakcmiijnckaaaa
open Go.ChangeShapes Go.WideShapes Go.ChangeAt Go.RowKit Go.Joins Go.Deep
set_option linter.unusedVariables false

/-- A line's seven cells. -/
def Hept (w : World) (b o : Nat) (l : Ln) : Prop :=
  w.cell? ⟨b, o, none⟩ = some (.string l.lab) ∧ w.cell? ⟨b, o + 1, none⟩ = some (.int .i64 l.wd.1) ∧ w.cell? ⟨b, o + 2, none⟩ = some (.int .i64 l.wd.2.1) ∧ w.cell? ⟨b, o + 3, none⟩ = some (.int .i64 l.wd.2.2.1) ∧ w.cell? ⟨b, o + 4, none⟩ = some (.int .i64 l.wd.2.2.2) ∧ w.cell? ⟨b, o + 5, none⟩ = some (.string l.yes) ∧ w.cell? ⟨b, o + 6, none⟩ = some (.string l.no)

theorem Hept.below {w w' : World} {b o B : Nat} {l : Ln} (h : Hept w b o l) (hb : Below B w w') (hB : b < B) : Hept w' b o l :=
  ⟨(hb.cell (p := ⟨b, o, none⟩) hB).trans h.1, (hb.cell (p := ⟨b, o + 1, none⟩) hB).trans h.2.1, (hb.cell (p := ⟨b, o + 2, none⟩) hB).trans h.2.2.1, (hb.cell (p := ⟨b, o + 3, none⟩) hB).trans h.2.2.2.1, (hb.cell (p := ⟨b, o + 4, none⟩) hB).trans h.2.2.2.2.1, (hb.cell (p := ⟨b, o + 5, none⟩) hB).trans h.2.2.2.2.2.1, (hb.cell (p := ⟨b, o + 6, none⟩) hB).trans h.2.2.2.2.2.2⟩

theorem Hept.lt {w : World} {b o : Nat} {l : Ln} (h : Hept w b o l) : b < w.heap.size := World.block_lt_of_cell? w _ h.1

theorem Hept.ext {w w' : World} {b o : Nat} {l : Ln} (h : Hept w b o l) (hE : Ext w w') : Hept w' b o l := h.below hE h.lt

/-- A line laid in a block of its own. -/
theorem hept_box (w : World) (l : Ln) (T : TypeId) : Hept (w.alloc (.cells #[.string l.lab, .int .i64 l.wd.1, .int .i64 l.wd.2.1, .int .i64 l.wd.2.2.1, .int .i64 l.wd.2.2.2, .string l.yes, .string l.no] T)) w.heap.size 0 l :=
  ⟨by simp [go_sem], by simp [go_sem], by simp [go_sem], by simp [go_sem], by simp [go_sem], by simp [go_sem], by simp [go_sem]⟩

/-- These lines lie in a row from there on. -/
def Lns (w : World) (a : Option Addr) (ls : List Ln) : Prop := 0 < ls.length → ∃ b off, a = some ⟨b, off, none⟩ ∧ ∀ j, j < ls.length → Hept w b (off + j * 7) (ls.getD j zeroL)

theorem Lns.below {w w' : World} {a : Option Addr} {ls : List Ln} {B : Nat} (h : Lns w a ls) (hb : Below B w w') (hB : w.heap.size ≤ B) : Lns w' a ls := fun hp => by
  obtain ⟨b, off, ha, hc⟩ := h hp
  exact ⟨b, off, ha, fun j hj => (hc j hj).below hb (Nat.lt_of_lt_of_le (hc j hj).lt hB)⟩

theorem Lns.ext {w w' : World} {a : Option Addr} {ls : List Ln} (h : Lns w a ls) (hE : Ext w w') : Lns w' a ls := h.below hE (Nat.le_refl _)

theorem Lns.hept {w : World} {a : Option Addr} {ls : List Ln} (h : Lns w a ls) {k : Nat} (hk : k < ls.length) {l : Ln} (hl : l = ls.getD k zeroL) : ∃ b off, a = some ⟨b, off, none⟩ ∧ Hept w b (off + k * 7) l := by
  obtain ⟨b, off, ha, hc⟩ := h (by omega)
  exact ⟨b, off, ha, by rw [hl]; exact hc k hk⟩

/-- Their texts are no longer than that. -/
def TextsP (ls : List Ln) : Prop := ∀ j, j < ls.length → (ls.getD j zeroL).lab.size ≤ 1048576 ∧ (ls.getD j zeroL).yes.size ≤ 1048576 ∧ (ls.getD j zeroL).no.size ≤ 1048576

/-- The map of the first n lines' places. -/
def upTo (ls : List Ln) : Nat → ByteArray → Option Nat
  | 0 => fun _ => none
  | n + 1 => if (ls.getD n zeroL).wd.1 = 0 then putM (upTo ls n) (ls.getD n zeroL).lab n else upTo ls n

theorem upTo_succ (ls : List Ln) (n : Nat) : upTo ls (n + 1) = if (ls.getD n zeroL).wd.1 = 0 then putM (upTo ls n) (ls.getD n zeroL).lab n else upTo ls n := rfl

theorem upTo_some {ls : List Ln} : ∀ {n : Nat} {s : ByteArray} {j : Nat}, upTo ls n s = some j → j < n ∧ opAt (ls.getD j zeroL) s
  | 0, s, j, h => by cases h
  | n + 1, s, j, h => by
    unfold upTo at h
    by_cases h0 : (ls.getD n zeroL).wd.1 = 0
    · rw [if_pos h0] at h
      unfold putM at h
      by_cases e : s = (ls.getD n zeroL).lab
      · rw [if_pos e] at h
        injection h with h
        subst h
        exact ⟨Nat.lt_succ_self _, h0, e.symm⟩
      · rw [if_neg e] at h
        have := upTo_some h
        exact ⟨by omega, this.2⟩
    · rw [if_neg h0] at h
      have := upTo_some h
      exact ⟨by omega, this.2⟩

theorem upTo_none {ls : List Ln} : ∀ {n : Nat} {s : ByteArray}, upTo ls n s = none → ∀ j, j < n → ¬ opAt (ls.getD j zeroL) s
  | 0, s, h, j, hj, _ => by omega
  | n + 1, s, h, j, hj, ho => by
    unfold upTo at h
    by_cases h0 : (ls.getD n zeroL).wd.1 = 0
    · rw [if_pos h0] at h
      unfold putM at h
      by_cases e : s = (ls.getD n zeroL).lab
      · rw [if_pos e] at h
        cases h
      · rw [if_neg e] at h
        rcases Nat.lt_or_ge j n with hjn | hjn
        · exact upTo_none h j hjn ho
        · obtain rfl : j = n := by omega
          exact e ho.2.symm
    · rw [if_neg h0] at h
      rcases Nat.lt_or_ge j n with hjn | hjn
      · exact upTo_none h j hjn ho
      · obtain rfl : j = n := by omega
        exact h0 ho.1

/-- What the whole map has: where each way's label stands. -/
theorem upTo_pos {ls : List Ln} (hl : linesP ls) {s : ByteArray} {i : Nat} (h : onP ls i s) : upTo ls ls.length s = some (pos ls s) := by
  cases e : upTo ls ls.length s with
  | none => exact absurd (isAt_op (pos_at h.2)) (upTo_none e _ h.2)
  | some j =>
    obtain ⟨hj, ho⟩ := upTo_some e
    have h0 := (lineP_zero (hl.2.2 j hj)).1 ho.1
    rcases hl.2.2 j hj with ⟨_, _, _, _, hp⟩ | ⟨hz, _⟩
    · rw [ho.2] at hp
      rw [hp]
    · exact absurd h0 hz

theorem once_next {ls : List Ln} {n : Nat} (h : oncePto ls n) (hs : (ls.getD n zeroL).wd.1 = 0 → upTo ls n (ls.getD n zeroL).lab = none) : oncePto ls (n + 1) := by
  intro i j hij hj h0 h1 he
  rcases Nat.lt_or_ge j n with hjn | hjn
  · exact h i j hij hjn h0 h1 he
  · obtain rfl : j = n := by omega
    exact upTo_none (hs h1) i hij ⟨h0, he⟩

theorem once_not {ls : List Ln} {n j : Nat} (hn : n < ls.length) (h0 : (ls.getD n zeroL).wd.1 = 0) (hs : upTo ls n (ls.getD n zeroL).lab = some j) : ¬ oncePto ls ls.length := fun h => by
  obtain ⟨hj, ho⟩ := upTo_some hs
  exact h j n hj hn ho.1 h0 ho.2

/-- Just these labels are told: those of places from i on. -/
def BehM (ls : List Ln) (i : Nat) (M : ByteArray → Option Nat) : Prop := ∀ s, (M s).isSome = true ↔ behP ls i s

theorem behM_start (ls : List Ln) : BehM ls 0 (upTo ls ls.length) := fun s => by
  constructor
  · intro h
    obtain ⟨j, hj⟩ := Option.isSome_iff_exists.1 h
    obtain ⟨h1, h2⟩ := upTo_some hj
    exact ⟨j, Nat.zero_le _, h1, h2⟩
  · rintro ⟨j, _, hj, ho⟩
    cases e : upTo ls ls.length s with
    | none => exact absurd ho (upTo_none e j hj)
    | some k => rfl

theorem behM_pass {ls : List Ln} {i : Nat} {M : ByteArray → Option Nat} (h : BehM ls i M) (h0 : (ls.getD i zeroL).wd.1 ≠ 0) : BehM ls (i + 1) M := fun s => by
  rw [h s]
  constructor
  · rintro ⟨j, hij, hj, ho⟩
    refine ⟨j, ?_, hj, ho⟩
    rcases Nat.lt_or_ge i j with hlt | hge
    · exact hlt
    · obtain rfl : j = i := by omega
      exact absurd ho.1 h0
  · rintro ⟨j, hij, hj, ho⟩
    exact ⟨j, by omega, hj, ho⟩

theorem behM_strike {ls : List Ln} {i : Nat} {M : ByteArray → Option Nat} (h : BehM ls i M) (hi : i < ls.length) (h0 : (ls.getD i zeroL).wd.1 = 0) (honce : oncePto ls ls.length) : BehM ls (i + 1) (delM M (ls.getD i zeroL).lab) := fun s => by
  unfold delM
  by_cases e : s = (ls.getD i zeroL).lab
  · rw [if_pos e]
    constructor
    · intro hh; cases hh
    · rintro ⟨j, hij, hj, ho⟩
      exact absurd (ho.2.trans e).symm (honce i j hij hj h0 ho.1)
  · rw [if_neg e, h s]
    constructor
    · rintro ⟨j, hij, hj, ho⟩
      refine ⟨j, ?_, hj, ho⟩
      rcases Nat.lt_or_ge i j with hlt | hge
      · exact hlt
      · obtain rfl : j = i := by omega
        exact absurd ho.2.symm e
    · rintro ⟨j, hij, hj, ho⟩
      exact ⟨j, by omega, hj, ho⟩

end Go.Proofs.Ytakcmiijnckaaaa

/- What impl's placesOf answers: the map of all places, or that a label stands twice. -/
namespace Go.Proofs.Ytakcmiijnckaaaa
open Go.RowKit Go.Maps
set_option linter.unusedVariables false

theorem mapTurned_below {w w' w'' : World} {B C : Nat} (h : Below C w w') (ht : w'.mapTurned w'' B) (hB : C ≤ B) (hC : C ≤ w.heap.size) : Below C w w'' :=
  h.grown ht.grown (Nat.le_trans hC h.size) (fun k hk => by injection hk with hk; omega)

/-- Where it is: block B, or nowhere. -/
def mapV (z : Bool) (B : Nat) : Value := .map (if z = true then some B else none)

set_option maxRecDepth 100000 in
set_option maxHeartbeats 2000000 in
theorem places_any (a : Option Addr) (cap : Nat) (ls : List Ln) (z : Bool) (w : World) (hl : ls.length ≤ 1048576) (ht : TextsP ls) (h : Lns w a ls) (hz : z = true ↔ oncePto ls ls.length) :
    Calls Try.prog 46 #[.slice a ls.length cap] w fun e w' => ∃ B, e = .returned (.tuple #[mapV z B, .bool z]) ∧ Ext w w' ∧ (z = true → w.heap.size ≤ B ∧ MapOf w' B ls.length (upTo ls ls.length)) := by
  obtain ⟨n, hn⟩ : ∃ n, n = ls.length := ⟨_, rfl⟩
  have HA : Hid (Lns w a ls ∧ n = ls.length ∧ TextsP ls ∧ (z = true ↔ oncePto ls n)) := ⟨h, hn, ht, by rw [hn]; exact hz⟩
  rw [← hn]
  have hl' : n ≤ 1048576 := by omega
  clear h hn hl ht hz
  have hmm := @run_makeMap Try.prog
  go_enter Try.func46, Try.ntmps46
  go_wp2_with fail
  obtain ⟨B, hB⟩ : ∃ B, B = w.heap.size := ⟨_, rfl⟩
  have b0 : Below w.heap.size w (w.alloc (.map #[] 0)) := (Below.refl _ w).alloc (Nat.le_refl _) _
  have m0 : MapOf (w.alloc (.map #[] 0)) B 0 (upTo ls 0) := by rw [hB]; exact MapOf.made w
  rw [← hB]
  have HB : Hid (B = w.heap.size) := hB
  clear hB hmm
  go_loopw [12] (fun i wr => ∃ k : Nat, i = .int .i64 k ∧ k ≤ n ∧ Hid (Below w.heap.size w wr ∧ oncePto ls k) ∧ MapOf wr B k (upTo ls k)) (fun i _ => n - (intOf i).toNat)
  case atStart => exact ⟨0, rfl, by omega, ⟨b0, fun i j _ hj => by omega⟩, m0⟩
  case round =>
    obtain ⟨k, rfl, hk, HR, hm⟩ := hrel
    clear b0 m0
    by_cases hlt : k < n
    · have bk : (k : Int) < (n : Int) := by omega
      obtain ⟨⟨lab, ⟨o, kk, y, nn⟩, yes, no⟩, hp⟩ : ∃ p, p = ls.getD k zeroL := ⟨_, rfl⟩
      obtain ⟨b, off, ha, hq⟩ := (HA.out.1.below HR.out.1 (Nat.le_refl _)).hept (k := k) (by have := HA.out.2; omega) hp
      subst ha
      obtain ⟨c0, c1, c2, c3, c4, c5, c6⟩ := hq
      simp only at c0 c1 c2 c3 c4 c5 c6
      have HP : Hid (Ln.mk lab (o, kk, y, nn) yes no = ls.getD k zeroL) := hp
      have hlab : lab.size ≤ maxLen := by have := (HA.out.2.2.1 k (by have := HA.out.2.1; omega)).1; rw [← hp] at this; simp only at this; unfold maxLen; omega
      clear hp
      go_wp2_with fail
      refine (iPlace_any ⟨lab, (o, kk, y, nn), yes, no⟩ _).mono ?_
      rintro e w2 ⟨rfl, e2⟩
      have E2 : Hid (Below w.heap.size w w2) := (HR.out.1.alloc HR.out.1.size _).trans (Below.mono e2 (by have := HR.out.1.size; simp; omega))
      have m2 : MapOf w2 B k (upTo ls k) := (hm.below (Below.alloc (Below.refl _ wr) (Nat.le_refl _) _) hm.lt).ext e2
      obtain ⟨d0, d1, d2, d3, d4, d5, d6⟩ := (hept_box wr ⟨lab, (o, kk, y, nn), yes, no⟩ 37).ext e2
      simp only [Nat.zero_add] at d0 d1 d2 d3 d4 d5 d6
      clear hm e2
      by_cases h0 : o = 0
      · subst h0
        cases hu : upTo ls k lab with
        | some j =>
          have HN : Hid (z = false) := by
            cases z with
            | false => rfl
            | true =>
              refine absurd (HA.out.2.2.2.1 rfl) ?_
              rw [HA.out.2.1]
              exact once_not (n := k) (j := j) (by have := HA.out.2.1; omega) (by rw [← HP.out]) (by rw [← HP.out]; exact hu)
          have hlk : (Instr.lookup 59 (.map (some B)) (.string lab) true).run Try.prog w2 = .ok (.tuple #[.int .i64 (j : Int), .bool true]) w2 := by rw [m2.lookOk hlab, hu]; rfl
          go_wp2
          go_ret2
          refine ⟨0, ?_, E2.out, fun h => ?_⟩
          · rw [HN.out]; rfl
          · rw [HN.out] at h; cases h
        | none =>
          have hlk : (Instr.lookup 59 (.map (some B)) (.string lab) true).run Try.prog w2 = .ok (.tuple #[.int .i64 0, .bool false]) w2 := by rw [m2.lookOk hlab, hu]; rfl
          have HU : Hid (upTo ls k lab = none) := hu
          clear hu
          go_wp2_with (first | (at_mapUpdate; refine wpList_put_map _ rfl _ _ _ rfl B k (upTo ls k) rfl m2 (by unfold maxLen; omega) lab rfl hlab k rfl (by omega) ?_; intro w3 m3 t3) | go_in)
          go_roundw
          case rel =>
            refine ⟨k + 1, by go_num, by omega, ⟨mapTurned_below E2.out t3 (by have := HB.out; omega) (Nat.le_refl _), once_next HR.out.2 fun _ => by rw [← HP.out]; exact HU.out⟩, ?_⟩
            refine m3.as fun s => ?_
            show _ = upTo ls (k + 1) s
            rw [upTo_succ, ← HP.out, if_pos rfl]
          case measure => simp [intOf]; omega
      · have q0 : (o == 0) = false := by simpa using h0
        have H0 : Hid (o ≠ 0) := h0
        clear h0
        go_wp2
        go_roundw
        case rel =>
          refine ⟨k + 1, by go_num, by omega, ⟨E2.out, once_next HR.out.2 fun h => absurd (by rw [← HP.out] at h; exact h) H0.out⟩, ?_⟩
          refine (m2.mono (Nat.le_succ _)).as fun s => ?_
          show _ = upTo ls (k + 1) s
          rw [upTo_succ, ← HP.out, if_neg H0.out]
        case measure => simp [intOf]; omega
    · have hkn : k = n := by omega
      have bk : ¬ ((k : Int) < (n : Int)) := by omega
      have HN : Hid (z = true) := by
        refine HA.out.2.2.2.2 ?_
        rw [← hkn]
        exact HR.out.2
      have HM : Hid (MapOf wr B n (upTo ls n)) := by rw [← hkn]; exact hm
      clear hm hkn
      go_wp2
      go_ret2
      refine ⟨B, ?_, HR.out.1, fun _ => ⟨by have := HB.out; omega, HM.out⟩⟩
      rw [HN.out]
      rfl

end Go.Proofs.Ytakcmiijnckaaaa

/- What impl's lineFits answers: whether a line is right by itself. -/
namespace Go.Proofs.Ytakcmiijnckaaaa
open Go.RowKit
set_option linter.unusedVariables false

theorem bool_not {z : Bool} {P : Prop} (h : z = true ↔ P) (hp : ¬ P) : z = false := by
  cases z with
  | false => rfl
  | true => exact absurd (h.1 rfl) hp

theorem bool_some (P : Prop) : ∃ z : Bool, z = true ↔ P := by
  by_cases h : P
  · exact ⟨true, by simp [h]⟩
  · exact ⟨false, by simp [h]⟩

set_option maxRecDepth 100000 in
set_option maxHeartbeats 2000000 in
theorem fits0_any (lab yes no : ByteArray) (k y n : Int) (z : Bool) (w : World) (hz : z = true ↔ fitsP ⟨lab, (0, k, y, n), yes, no⟩) : Calls Try.prog 47 #[.agg #[.string lab, .int .i64 0, .int .i64 k, .int .i64 y, .int .i64 n, .string yes, .string no]] w fun e w' => e = .returned (.bool z) ∧ Ext w w' := by
  have HZ : Hid (z = true ↔ (1 ≤ lab.size ∧ lab.size ≤ 12) ∧ k = 0 ∧ y = 0 ∧ n = 0 ∧ yes = noText ∧ no = noText) := by
    show _ ↔ _
    rw [hz]
    unfold fitsP zeroW
    simp only [Prod.mk.injEq]
    constructor
    · rintro (⟨_, h1, ⟨_, h2, h3, h4⟩, h5, h6⟩ | ⟨h0, _⟩)
      · exact ⟨h1, h2, h3, h4, h5, h6⟩
      · exact absurd rfl h0
    · rintro ⟨h1, h2, h3, h4, h5, h6⟩
      exact .inl ⟨trivial, h1, ⟨trivial, h2, h3, h4⟩, h5, h6⟩
  clear hz
  by_cases h1 : 1 ≤ (lab.size : Int)
  · by_cases h2 : (lab.size : Int) ≤ 12
    · by_cases h3 : k = 0 ∧ y = 0 ∧ n = 0 ∧ yes = noText ∧ no = noText
      · obtain rfl : z = true := HZ.out.2 ⟨by omega, h3⟩
        obtain ⟨rfl, rfl, rfl, rfl, rfl⟩ := h3
        clear HZ
        unfold noText at *
        go_enter Try.func47, Try.ntmps47
        go_wp2_with fail
        refine (iPlace_any ⟨lab, (0, 0, 0, 0), ⟨#[]⟩, ⟨#[]⟩⟩ _).mono ?_
        rintro e w2 ⟨rfl, e2⟩
        obtain ⟨d0, d1, d2, d3, d4, d5, d6⟩ := (hept_box w ⟨lab, (0, 0, 0, 0), ⟨#[]⟩, ⟨#[]⟩⟩ 37).ext e2
        simp only [Nat.zero_add] at d0 d1 d2 d3 d4 d5 d6
        go_wp2
        go_ret
        exact ⟨rfl, (Ext.one _ _).trans e2⟩
      · obtain rfl : z = false := bool_not HZ.out fun h => h3 h.2
        have H3 : Hid (¬ (k = 0 ∧ y = 0 ∧ n = 0 ∧ yes.toList = [] ∧ no.toList = [])) := by show ¬ _; rw [none_iff, none_iff]; exact h3
        clear HZ h3
        go_enter Try.func47, Try.ntmps47
        go_wp2_with fail
        refine (iPlace_any ⟨lab, (0, k, y, n), yes, no⟩ _).mono ?_
        rintro e w2 ⟨rfl, e2⟩
        obtain ⟨d0, d1, d2, d3, d4, d5, d6⟩ := (hept_box w ⟨lab, (0, k, y, n), yes, no⟩ 37).ext e2
        simp only [Nat.zero_add] at d0 d1 d2 d3 d4 d5 d6
        go_wp2
        all_goals first
          | exact absurd ⟨by assumption, by assumption, by assumption, by assumption, by assumption⟩ H3.out
          | (go_ret; exact ⟨rfl, (Ext.one _ _).trans e2⟩)
    · obtain rfl : z = false := bool_not HZ.out fun h => by omega
      clear HZ
      go_enter Try.func47, Try.ntmps47
      go_wp2_with fail
      refine (iPlace_any ⟨lab, (0, k, y, n), yes, no⟩ _).mono ?_
      rintro e w2 ⟨rfl, e2⟩
      obtain ⟨d0, d1, d2, d3, d4, d5, d6⟩ := (hept_box w ⟨lab, (0, k, y, n), yes, no⟩ 37).ext e2
      simp only [Nat.zero_add] at d0 d1 d2 d3 d4 d5 d6
      go_wp2
      go_ret
      exact ⟨rfl, (Ext.one _ _).trans e2⟩
  · obtain rfl : z = false := bool_not HZ.out fun h => by omega
    clear HZ
    go_enter Try.func47, Try.ntmps47
    go_wp2_with fail
    refine (iPlace_any ⟨lab, (0, k, y, n), yes, no⟩ _).mono ?_
    rintro e w2 ⟨rfl, e2⟩
    obtain ⟨d0, d1, d2, d3, d4, d5, d6⟩ := (hept_box w ⟨lab, (0, k, y, n), yes, no⟩ 37).ext e2
    simp only [Nat.zero_add] at d0 d1 d2 d3 d4 d5 d6
    go_wp2
    go_ret
    exact ⟨rfl, (Ext.one _ _).trans e2⟩

set_option maxRecDepth 100000 in
set_option maxHeartbeats 2000000 in
theorem fits_any' (lab yes no : ByteArray) (o k y n : Int) (z : Bool) (w : World) (h0 : o ≠ 0) (hz : z = true ↔ fitsP ⟨lab, (o, k, y, n), yes, no⟩) : Calls Try.prog 47 #[.agg #[.string lab, .int .i64 o, .int .i64 k, .int .i64 y, .int .i64 n, .string yes, .string no]] w fun e w' => e = .returned (.bool z) ∧ Ext w w' := by
  have q0 : (o == 0) = false := by simpa using h0
  obtain ⟨c, hc⟩ : ∃ c, c = insB o k y n := ⟨_, rfl⟩
  obtain ⟨v, hv⟩ := bool_some (yesW (o, k, y, n) = 0 ∧ noW (o, k, y, n) = 0)
  have HZ : Hid (z = true ↔ lab = noText ∧ c = true ∧ v = true) := by
    show _ ↔ _
    rw [hz, hv, hc]
    unfold fitsP okW
    constructor
    · rintro (⟨h, _⟩ | ⟨_, h1, h2, h3⟩)
      · exact absurd h h0
      · exact ⟨h1, h2, h3⟩
    · rintro ⟨h1, h2, h3⟩
      exact .inr ⟨h0, h1, h2, h3⟩
  have HI : Hid (∀ w, Calls Try.prog 75 #[.agg #[.int .i64 o, .int .i64 k, .int .i64 y, .int .i64 n]] w fun e w' => e = .returned (.bool c) ∧ Ext w w') := fun w => by rw [hc]; exact iInsOk_any o k y n w
  have HW : Hid (∀ w, Calls Try.prog 76 #[.agg #[.int .i64 o, .int .i64 k, .int .i64 y, .int .i64 n]] w fun e w' => e = .returned (.bool v) ∧ Ext w w') := fun w => bare_any o k y n v w hv
  have H0 : Hid (o ≠ 0) := h0
  clear hz hc hv h0
  have hd : ∀ {w2 : World}, Ext (w.alloc (.cells #[.string lab, .int .i64 o, .int .i64 k, .int .i64 y, .int .i64 n, .string yes, .string no] 37)) w2 → Hept w2 w.heap.size 0 ⟨lab, (o, k, y, n), yes, no⟩ := fun e => (hept_box w ⟨lab, (o, k, y, n), yes, no⟩ 37).ext e
  have HD : Hid _ := @hd
  clear hd
  by_cases h1 : lab = noText
  · subst h1
    unfold noText at HD ⊢
    cases c with
    | true =>
      go_enter Try.func47, Try.ntmps47
      go_wp2_with fail
      refine (iPlace_any ⟨⟨#[]⟩, (o, k, y, n), yes, no⟩ _).mono ?_
      rintro e w2 ⟨rfl, e2⟩
      obtain ⟨d0, d1, d2, d3, d4, d5, d6⟩ := HD.out e2
      simp only [Nat.zero_add] at d0 d1 d2 d3 d4 d5 d6
      go_wp2_with fail
      refine (HI.out _).mono ?_
      rintro e w3 ⟨rfl, e3⟩
      have e23 := e2.trans e3
      obtain ⟨f0, f1, f2, f3, f4, f5, f6⟩ := HD.out e23
      simp only [Nat.zero_add] at f0 f1 f2 f3 f4 f5 f6
      clear d0 d1 d2 d3 d4 d5 d6 e2 e3
      go_wp2_with fail
      refine (HW.out _).mono ?_
      rintro e w4 ⟨rfl, e4⟩
      go_wp2
      go_ret
      refine ⟨?_, (Ext.one _ _).trans (e23.trans e4)⟩
      cases v
      · obtain rfl : z = false := bool_not HZ.out fun h => by cases h.2.2
        rfl
      · obtain rfl : z = true := HZ.out.2 (by simp)
        rfl
    | false =>
      obtain rfl : z = false := bool_not HZ.out fun h => by cases h.2.1
      go_enter Try.func47, Try.ntmps47
      go_wp2_with fail
      refine (iPlace_any ⟨⟨#[]⟩, (o, k, y, n), yes, no⟩ _).mono ?_
      rintro e w2 ⟨rfl, e2⟩
      obtain ⟨d0, d1, d2, d3, d4, d5, d6⟩ := HD.out e2
      simp only [Nat.zero_add] at d0 d1 d2 d3 d4 d5 d6
      go_wp2_with fail
      refine (HI.out _).mono ?_
      rintro e w3 ⟨rfl, e3⟩
      go_wp2
      go_ret
      exact ⟨rfl, (Ext.one _ _).trans (e2.trans e3)⟩
  · obtain rfl : z = false := bool_not HZ.out fun h => h1 h.1
    have q1 : ¬ lab.toList = [] := fun h => h1 (none_iff.1 h)
    clear HZ h1
    go_enter Try.func47, Try.ntmps47
    go_wp2_with fail
    refine (iPlace_any ⟨lab, (o, k, y, n), yes, no⟩ _).mono ?_
    rintro e w2 ⟨rfl, e2⟩
    obtain ⟨d0, d1, d2, d3, d4, d5, d6⟩ := HD.out e2
    simp only [Nat.zero_add] at d0 d1 d2 d3 d4 d5 d6
    go_wp2
    go_ret
    exact ⟨rfl, (Ext.one _ _).trans e2⟩

theorem fits_line (l : Ln) (z : Bool) (w : World) (hz : z = true ↔ fitsP l) : Calls Try.prog 47 #[l.val] w fun e w' => e = .returned (.bool z) ∧ Ext w w' := by
  obtain ⟨lab, ⟨o, k, y, n⟩, yes, no⟩ := l
  by_cases h0 : o = 0
  · subst h0
    exact fits0_any lab yes no k y n z w hz
  · exact fits_any' lab yes no o k y n z w h0 hz

/-- The ways of its kind, to labels that M has. -/
def leadM (M : ByteArray → Option Nat) (l : Ln) : Prop :=
  (askP l.wd.1 ∧ (M l.yes).isSome = true ∧ (M l.no).isSome = true) ∨ (¬ askP l.wd.1 ∧ l.wd.1 = 7 ∧ (M l.yes).isSome = true ∧ l.no = noText) ∨ (¬ askP l.wd.1 ∧ l.wd.1 ≠ 7 ∧ l.yes = noText ∧ l.no = noText)

theorem leadM_beh {ls : List Ln} {i : Nat} {M : ByteArray → Option Nat} (h : BehM ls i M) (l : Ln) : leadM M l ↔ leadP ls i l := by
  unfold leadM leadP
  rw [h l.yes, h l.no]

set_option maxRecDepth 100000 in
set_option maxHeartbeats 2000000 in
theorem leads_any (lab yes no : ByteArray) (o k y n : Int) (B m : Nat) (M : ByteArray → Option Nat) (z : Bool) (w : World) (hm : MapOf w B m M) (hy : yes.size ≤ maxLen) (hn : no.size ≤ maxLen) (hz : z = true ↔ leadM M ⟨lab, (o, k, y, n), yes, no⟩) :
    Calls Try.prog 48 #[.agg #[.string lab, .int .i64 o, .int .i64 k, .int .i64 y, .int .i64 n, .string yes, .string no], .map (some B)] w fun e w' => e = .returned (.bool z) ∧ Ext w w' := by
  obtain ⟨W, hW⟩ : ∃ W, W = w.alloc (.cells #[.string lab, .int .i64 o, .int .i64 k, .int .i64 y, .int .i64 n, .string yes, .string no] 37) := ⟨_, rfl⟩
  have m1 : MapOf W B m M := by rw [hW]; exact hm.below (Below.alloc (Below.refl _ w) (Nat.le_refl _) _) hm.lt
  obtain ⟨p, hp⟩ : ∃ p, p = (M yes).isSome := ⟨_, rfl⟩
  obtain ⟨q, hq⟩ : ∃ q, q = (M no).isSome := ⟨_, rfl⟩
  have l1 := m1.lookOk hy
  have l2 := m1.lookOk hn
  rw [← hp] at l1
  rw [← hq] at l2
  generalize ((M yes).getD 0 : Nat) = c1 at l1
  generalize ((M no).getD 0 : Nat) = c2 at l2
  rw [hW] at l1 l2
  have HZ : Hid (z = true ↔ (askB o = true ∧ p = true ∧ q = true) ∨ (askB o = false ∧ o = 7 ∧ p = true ∧ no.toList = []) ∨ (askB o = false ∧ o ≠ 7 ∧ yes.toList = [] ∧ no.toList = [])) := by
    show _ ↔ _
    rw [hz, askB_true, askB_false, none_iff, none_iff, hp, hq]
    rfl
  clear hz hp hq m1 hm hW
  have HD : Hid (∀ {w2 : World}, Ext (w.alloc (.cells #[.string lab, .int .i64 o, .int .i64 k, .int .i64 y, .int .i64 n, .string yes, .string no] 37)) w2 → Hept w2 w.heap.size 0 ⟨lab, (o, k, y, n), yes, no⟩) := fun e => (hept_box w ⟨lab, (o, k, y, n), yes, no⟩ 37).ext e
  obtain ⟨a, ha⟩ : ∃ a, a = askB o := ⟨_, rfl⟩
  have HQ : Hid (∀ w, Calls Try.prog 72 #[.agg #[.string lab, .int .i64 o, .int .i64 k, .int .i64 y, .int .i64 n, .string yes, .string no]] w fun e w' => e = .returned (.bool a) ∧ Ext w w') := fun w => by rw [ha]; exact iAsk_any ⟨lab, (o, k, y, n), yes, no⟩ w
  rw [← ha] at HZ
  clear ha
  go_enter Try.func48, Try.ntmps48
  go_wp2_with fail
  refine (HQ.out _).mono ?_
  rintro e w2 ⟨rfl, e2⟩
  obtain ⟨d0, d1, d2, d3, d4, d5, d6⟩ := HD.out e2
  simp only [Nat.zero_add] at d0 d1 d2 d3 d4 d5 d6
  have E2 : Hid (Ext w w2) := (Ext.one _ _).trans e2
  clear e2 l1 l2 HQ HD
  cases a with
  | true =>
    have HZ' : Hid (z = (p && q)) := by
      show _ = _
      cases z <;> cases p <;> cases q <;> simp_all [Hid]
    clear HZ
    cases p
    · go_wp2
      go_ret
      exact ⟨by rw [HZ'.out]; rfl, E2.out⟩
    · go_wp2
      go_ret
      exact ⟨by rw [HZ'.out]; rfl, E2.out⟩
  | false =>
    by_cases h7 : o = 7
    · subst h7
      cases p with
      | false =>
        obtain rfl : z = false := bool_not HZ.out fun h => by rcases h with ⟨h, _⟩ | ⟨_, _, h, _⟩ | ⟨_, h, _⟩ <;> simp at h
        go_wp2
        go_ret
        exact ⟨rfl, E2.out⟩
      | true =>
        by_cases hno : no.toList = []
        · obtain rfl : z = true := HZ.out.2 (.inr (.inl ⟨rfl, rfl, rfl, hno⟩))
          go_wp2
          go_ret
          exact ⟨rfl, E2.out⟩
        · obtain rfl : z = false := bool_not HZ.out fun h => by rcases h with ⟨h, _⟩ | ⟨_, _, _, h⟩ | ⟨_, h, _⟩ <;> simp_all
          go_wp2
          go_ret
          exact ⟨by simp [hno], E2.out⟩
    · have q7 : (o == 7) = false := by simpa using h7
      by_cases hyes : yes.toList = []
      · by_cases hno : no.toList = []
        · obtain rfl : z = true := HZ.out.2 (.inr (.inr ⟨rfl, h7, hyes, hno⟩))
          clear h7
          go_wp2
          go_ret
          exact ⟨rfl, E2.out⟩
        · obtain rfl : z = false := bool_not HZ.out fun h => by rcases h with ⟨h, _⟩ | ⟨_, h, _⟩ | ⟨_, _, _, h⟩ <;> simp_all
          clear h7
          go_wp2
          go_ret
          exact ⟨by simp [hno], E2.out⟩
      · obtain rfl : z = false := bool_not HZ.out fun h => by rcases h with ⟨h, _⟩ | ⟨_, h, _⟩ | ⟨_, _, h, _⟩ <;> simp_all
        clear h7
        go_wp2
        go_ret
        exact ⟨rfl, E2.out⟩

theorem lead_line (l : Ln) (B m : Nat) (M : ByteArray → Option Nat) (z : Bool) (w : World) (hm : MapOf w B m M) (hy : l.yes.size ≤ 1048576) (hn : l.no.size ≤ 1048576) (hz : z = true ↔ leadM M l) :
    Calls Try.prog 48 #[l.val, .map (some B)] w fun e w' => e = .returned (.bool z) ∧ Ext w w' := by
  obtain ⟨lab, ⟨o, k, y, n⟩, yes, no⟩ := l
  simp only at hy hn
  exact leads_any lab yes no o k y n B m M z w hm (by unfold maxLen; omega) (by unfold maxLen; omega) hz

set_option maxRecDepth 100000 in
set_option maxHeartbeats 4000000 in
theorem iLines_any (a : Option Addr) (cap : Nat) (ls : List Ln) (z : Bool) (w : World) (hl : ls.length ≤ 1048576) (ht : TextsP ls) (h : Lns w a ls) (hz : z = true ↔ linesP ls) :
    Calls Try.prog 16 #[.slice a ls.length cap] w fun e w' => e = .returned (.bool z) ∧ Ext w w' := by
  obtain ⟨n, hn⟩ : ∃ n, n = ls.length := ⟨_, rfl⟩
  have HA : Hid (Lns w a ls ∧ n = ls.length ∧ TextsP ls ∧ (z = true ↔ (1 ≤ n ∧ n ≤ 600) ∧ (ls.getD (n - 1) zeroL).wd.1 = 8 ∧ oncePto ls n ∧ ∀ i, i < n → fitsP (ls.getD i zeroL) ∧ leadP ls i (ls.getD i zeroL))) := ⟨h, hn, ht, by rw [hn]; exact hz.trans (lines_once ls)⟩
  rw [← hn]
  have hl' : n ≤ 1048576 := by omega
  clear h hn hl ht hz
  by_cases h1 : (n : Int) < 1
  · have HN : Hid (z = false) := bool_not HA.out.2.2.2 fun h => by omega
    go_enter Try.func16, Try.ntmps16
    go_wp2
    go_ret
    exact ⟨by rw [HN.out]; rfl, Ext.refl _⟩
  by_cases h6 : 600 < (n : Int)
  · have HN : Hid (z = false) := bool_not HA.out.2.2.2 fun h => by omega
    go_enter Try.func16, Try.ntmps16
    go_wp2
    go_ret
    exact ⟨by rw [HN.out]; rfl, Ext.refl _⟩
  obtain ⟨m, rfl⟩ : ∃ m, n = m + 1 := ⟨n - 1, by omega⟩
  have em : ((m + 1 : Nat) : Int) - 1 = (m : Int) := by omega
  obtain ⟨⟨lab, ⟨o, kk, y, nn⟩, yes, no⟩, hp⟩ : ∃ p, p = ls.getD m zeroL := ⟨_, rfl⟩
  obtain ⟨b, off, rfl, hq⟩ := HA.out.1.hept (k := m) (by have := HA.out.2.1; omega) hp
  have c1 := hq.2.1
  simp only at c1
  have HP : Hid (Ln.mk lab (o, kk, y, nn) yes no = ls.getD m zeroL) := hp
  clear hp hq
  by_cases h8 : o = 8
  · subst h8
    obtain ⟨v, hv⟩ := bool_some (oncePto ls ls.length)
    have HPL : Hid (Calls Try.prog 46 #[.slice (some ⟨b, off, none⟩) (m + 1) cap] w fun e w' => ∃ B, e = .returned (.tuple #[mapV v B, .bool v]) ∧ Ext w w' ∧ (v = true → w.heap.size ≤ B ∧ MapOf w' B (m + 1) (upTo ls (m + 1)))) := by
      have := places_any (some ⟨b, off, none⟩) cap ls v w (by have := HA.out.2.1; omega) HA.out.2.2.1 HA.out.1 hv
      rw [← HA.out.2.1] at this
      exact this
    have HV : Hid (v = true ↔ oncePto ls (m + 1)) := by rw [HA.out.2.1]; exact hv
    clear hv
    cases v with
    | false =>
      have HN : Hid (z = false) := bool_not HA.out.2.2.2 fun h => by have := HV.out.2 h.2.2.1; cases this
      go_enter Try.func16, Try.ntmps16
      go_wp2_with fail
      refine HPL.out.mono ?_
      rintro e w1 ⟨B, rfl, e1, hB⟩
      go_wp2
      go_ret
      exact ⟨by rw [HN.out]; rfl, e1⟩
    | true =>
      have HO : Hid (oncePto ls (m + 1)) := HV.out.1 rfl
      go_enter Try.func16, Try.ntmps16
      go_wp2_with fail
      refine HPL.out.mono ?_
      rintro e w1 ⟨B, rfl, e1, hB⟩
      obtain ⟨hB1, m1⟩ := hB trivial
      simp only [mapV, if_true]
      have HB : Hid (w.heap.size ≤ B) := hB1
      have b1 : Below w.heap.size w w1 := e1
      clear HPL HV hB hB1 e1 c1
      go_wp2_with fail
      go_loopw [35] (fun i wr => ∃ k : Nat, i = .int .i64 k ∧ k ≤ m + 1 ∧ Hid (Below w.heap.size w wr ∧ ∀ j, j < k → fitsP (ls.getD j zeroL) ∧ leadP ls j (ls.getD j zeroL)) ∧ ∃ M, MapOf wr B (m + 1) M ∧ Hid (BehM ls k M)) (fun i _ => m + 1 - (intOf i).toNat)
      case atStart => exact ⟨0, rfl, by omega, ⟨b1, fun j hj => by omega⟩, _, m1, by have := behM_start ls; rw [← HA.out.2.1] at this; exact this⟩
      case round =>
        obtain ⟨k, rfl, hk, HR, M, hm, HM⟩ := hrel
        clear b1 m1
        by_cases hlt : k < m + 1
        · have bk : (k : Int) < ((m + 1 : Nat) : Int) := by omega
          obtain ⟨⟨lab', ⟨o', kk', y', nn'⟩, yes', no'⟩, hp⟩ : ∃ p, p = ls.getD k zeroL := ⟨_, rfl⟩
          obtain ⟨b', off', ha, hq⟩ := (HA.out.1.below HR.out.1 (Nat.le_refl _)).hept (k := k) (by have := HA.out.2.1; omega) hp
          injection ha with ha
          injection ha with ha1 ha2
          subst ha1
          subst ha2
          obtain ⟨c0, c1, c2, c3, c4, c5, c6⟩ := hq
          simp only at c0 c1 c2 c3 c4 c5 c6
          have HT : Hid (lab'.size ≤ 1048576 ∧ yes'.size ≤ 1048576 ∧ no'.size ≤ 1048576) := by have := HA.out.2.2.1 k (by have := HA.out.2.1; omega); rw [← hp] at this; exact this
          have HQ : Hid (Ln.mk lab' (o', kk', y', nn') yes' no' = ls.getD k zeroL) := hp
          clear hp
          obtain ⟨f, hf⟩ := bool_some (fitsP ⟨lab', (o', kk', y', nn'), yes', no'⟩)
          obtain ⟨g, hg⟩ := bool_some (leadM M ⟨lab', (o', kk', y', nn'), yes', no'⟩)
          have HG : Hid (∀ w, MapOf w B (m + 1) M → Calls Try.prog 48 #[.agg #[.string lab', .int .i64 o', .int .i64 kk', .int .i64 y', .int .i64 nn', .string yes', .string no'], .map (some B)] w fun e w' => e = .returned (.bool g) ∧ Ext w w') := fun w hm => lead_line ⟨lab', (o', kk', y', nn'), yes', no'⟩ B (m + 1) M g w hm HT.out.2.1 HT.out.2.2 hg
          have HG2 : Hid ((f = true ↔ fitsP (ls.getD k zeroL)) ∧ (g = true ↔ leadP ls k (ls.getD k zeroL))) := ⟨by rw [← HQ.out]; exact hf, by rw [← HQ.out, ← leadM_beh HM.out]; exact hg⟩
          have HD : Hid (∀ {w2 : World}, Ext (wr.alloc (.cells #[.string lab', .int .i64 o', .int .i64 kk', .int .i64 y', .int .i64 nn', .string yes', .string no'] 37)) w2 → Hept w2 wr.heap.size 0 ⟨lab', (o', kk', y', nn'), yes', no'⟩) := fun e => (hept_box wr ⟨lab', (o', kk', y', nn'), yes', no'⟩ 37).ext e
          have hFF : Hid (∀ w, Calls Try.prog 47 #[.agg #[.string lab', .int .i64 o', .int .i64 kk', .int .i64 y', .int .i64 nn', .string yes', .string no']] w fun e w' => e = .returned (.bool f) ∧ Ext w w') := fun w => fits_line ⟨lab', (o', kk', y', nn'), yes', no'⟩ f w hf
          have mE : Hid (MapOf (wr.alloc (.cells #[.string lab', .int .i64 o', .int .i64 kk', .int .i64 y', .int .i64 nn', .string yes', .string no'] 37)) B (m + 1) M) := hm.below (Below.alloc (Below.refl _ wr) (Nat.le_refl _) _) hm.lt
          have BE : Hid (Below w.heap.size w (wr.alloc (.cells #[.string lab', .int .i64 o', .int .i64 kk', .int .i64 y', .int .i64 nn', .string yes', .string no'] 37))) := HR.out.1.alloc HR.out.1.size _
          clear hf hg hm
          go_wp2_with fail
          refine (hFF.out _).mono ?_
          rintro e w2 ⟨rfl, e2⟩
          obtain ⟨d0, d1, d2, d3, d4, d5, d6⟩ := HD.out e2
          simp only [Nat.zero_add] at d0 d1 d2 d3 d4 d5 d6
          have M2 : Hid (MapOf w2 B (m + 1) M) := mE.out.ext e2
          have B2 : Hid (Below w.heap.size w w2) := BE.out.trans (Below.mono e2 BE.out.size)
          have E2 : Hid (Ext _ w2) := e2
          clear c0 c1 c2 c3 c4 c5 c6 e2 mE BE hFF
          cases f with
          | false =>
            have HN : Hid (z = false) := bool_not HA.out.2.2.2 fun h => by have := HG2.out.1.2 (h.2.2.2 k hlt).1; cases this
            go_wp2
            go_ret
            exact ⟨by rw [HN.out]; rfl, B2.out⟩
          | true =>
            go_wp2_with fail
            refine (HG.out _ M2.out).mono ?_
            rintro e w3 ⟨rfl, e3⟩
            have e23 := E2.out.trans e3
            obtain ⟨f0, f1, f2, f3, f4, f5, f6⟩ := HD.out e23
            simp only [Nat.zero_add] at f0 f1 f2 f3 f4 f5 f6
            have M3 : Hid (MapOf w3 B (m + 1) M) := M2.out.ext e3
            have B3 : Hid (Below w.heap.size w w3) := B2.out.trans (Below.mono e3 B2.out.size)
            have E3 : Hid (Ext _ w3) := e23
            clear d0 d1 d2 d3 d4 d5 d6 e23 e3 M2 B2 E2 HG
            cases g with
            | false =>
              have HN : Hid (z = false) := bool_not HA.out.2.2.2 fun h => by have := HG2.out.2.2 (h.2.2.2 k hlt).2; cases this
              go_wp2
              go_ret
              exact ⟨by rw [HN.out]; rfl, B3.out⟩
            | true =>
              go_wp2_with fail
              refine (iPlace_any ⟨lab', (o', kk', y', nn'), yes', no'⟩ _).mono ?_
              rintro e w4 ⟨rfl, e4⟩
              have e34 := E3.out.trans e4
              obtain ⟨d0, d1, d2, d3, d4, d5, d6⟩ := HD.out e34
              simp only [Nat.zero_add] at d0 d1 d2 d3 d4 d5 d6
              have m4 : MapOf w4 B (m + 1) M := M3.out.ext e4
              have B4 : Hid (Below w.heap.size w w4) := B3.out.trans (Below.mono e4 B3.out.size)
              clear f0 f1 f2 f3 f4 f5 f6 e34 e4 M3 B3 E3 HD
              have HK : Hid (∀ j, j < k + 1 → fitsP (ls.getD j zeroL) ∧ leadP ls j (ls.getD j zeroL)) := fun j hj => by
                rcases Nat.lt_or_ge j k with h | h
                · exact HR.out.2 j h
                · obtain rfl : j = k := by omega
                  exact ⟨HG2.out.1.1 (by simp), HG2.out.2.1 (by simp)⟩
              by_cases h0 : o' = 0
              · subst h0
                go_wp2_with (first | (at_delete; refine wpList_del_map _ rfl _ _ rfl B (m + 1) M rfl m4 lab' rfl (by have := HT.out.1; unfold maxLen; omega) ?_; intro w5 m5 t5) | go_in)
                go_roundw
                case rel =>
                  refine ⟨k + 1, by go_num, by omega, ⟨mapTurned_below B4.out t5 HB.out (Nat.le_refl _), HK.out⟩, _, m5, ?_⟩
                  have := behM_strike HM.out (by have := HA.out.2.1; omega) (by rw [← HQ.out]) (by rw [← HA.out.2.1]; exact HO.out)
                  rw [← HQ.out] at this
                  exact this
                case measure => simp [intOf]; omega
              · have q0 : (o' == 0) = false := by simpa using h0
                have H0 : Hid (o' ≠ 0) := h0
                clear h0
                go_wp2
                go_roundw
                case rel => exact ⟨k + 1, by go_num, by omega, ⟨B4.out, HK.out⟩, _, m4, behM_pass HM.out (by rw [← HQ.out]; exact H0.out)⟩
                case measure => simp [intOf]; omega
        · have hkn : k = m + 1 := by omega
          have bk : ¬ ((k : Int) < ((m + 1 : Nat) : Int)) := by omega
          have HN : Hid (z = true) := HA.out.2.2.2.2 ⟨by omega, by rw [Nat.add_sub_cancel, ← HP.out], HO.out, fun i hi => HR.out.2 i (by omega)⟩
          clear hm hkn
          go_wp2
          go_ret
          exact ⟨by rw [HN.out]; rfl, HR.out.1⟩
  · have q8 : (o != 8) = true := by simpa using h8
    have HN : Hid (z = false) := bool_not HA.out.2.2.2 fun h => h8 (by have := h.2.1; rw [Nat.add_sub_cancel, ← HP.out] at this; exact this)
    go_enter Try.func16, Try.ntmps16
    go_wp2
    go_ret
    exact ⟨by rw [HN.out]; rfl, Ext.refl _⟩

/-- The place of a label; -1 without it. -/
def atV (ls : List Ln) (s : ByteArray) : Int := if pos ls s < ls.length then (pos ls s : Int) else -1



end Go.Proofs.Ytakcmiijnckaaaa
