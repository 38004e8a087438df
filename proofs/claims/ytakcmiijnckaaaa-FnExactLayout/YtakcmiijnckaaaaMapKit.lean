/- A map from texts to numbers, known as a function: what is found, put and struck. -/
import Derived.Test.YtakcmiijnckaaaaLineIS
import Derived.Maps.OwnSet
namespace Go.Proofs.Ytakcmiijnckaaaa
open Go.RowKit Go.Maps
set_option linter.unusedVariables false

theorem mapLaw : Keyed Try.prog 9 := string_keyed Try.underlying9

theorem mapZero (w : World) : (zeroValue 3).run Try.prog w = .ok (.int .i64 0) w := by kernel_rfl

def keyS (s : ByteArray) : Lit := .string s.data.toList

theorem keyS_inj {s t : ByteArray} (h : keyS s = keyS t) : s = t := by
  unfold keyS at h
  injection h with h
  obtain ⟨⟨a⟩⟩ := s
  obtain ⟨⟨b⟩⟩ := t
  simp at h
  subst h
  rfl

theorem keyS_of {s : ByteArray} (hs : s.size ≤ maxLen) : keyOf Try.prog 9 (.string s) = some (keyS s) := Go.WideMaps.keyOf_string_mk Try.underlying9 hs

/-- Block B is a map of at most n entries that has M. -/
def MapOf (W : World) (B n : Nat) (M : ByteArray → Option Nat) : Prop :=
  ∃ D : DataW Unit, W.ownsMap Try.prog 9 (plainElem Try.prog 3) B n D ∧ ∀ s, Maps.has D (keyS s) = (M s).isSome ∧ D.atKey (keyS s) (.lit (.int .i64 0)) = .lit (.int .i64 (((M s).getD 0 : Nat) : Int))

theorem MapOf.lt {W : World} {B n : Nat} {M : ByteArray → Option Nat} (h : MapOf W B n M) : B < W.heap.size := by
  obtain ⟨D, h1, _⟩ := h
  exact h1.lt

theorem MapOf.mono {W : World} {B n m : Nat} {M : ByteArray → Option Nat} (h : MapOf W B n M) (hm : n ≤ m) : MapOf W B m M := by
  obtain ⟨D, h1, h2⟩ := h
  exact ⟨D, h1.mono hm, h2⟩

theorem MapOf.made (w : World) : MapOf (w.alloc (.map #[] 0)) w.heap.size 0 (fun _ => none) :=
  ⟨.map [], World.ownsMap_made w _ _ _, fun s => ⟨rfl, rfl⟩⟩

theorem MapOf.kept {w w' : World} {B n : Nat} {M : ByteArray → Option Nat} {row : Option Nat} (h : MapOf w B n M) (hg : w.grownBy w' row) (hne : some B ≠ row) : MapOf w' B n M := by
  obtain ⟨D, h1, h2⟩ := h
  exact ⟨D, h1.kept hg hne, h2⟩

theorem MapOf.below {w w' : World} {B n C : Nat} {M : ByteArray → Option Nat} (h : MapOf w B n M) (hb : Below C w w') (hB : B < C) : MapOf w' B n M := by
  obtain ⟨D, ⟨es, clock, e1, e2⟩, h2⟩ := h
  exact ⟨D, ⟨es, clock, (hb.block B hB).trans e1, e2⟩, h2⟩

theorem MapOf.ext {w w' : World} {B n : Nat} {M : ByteArray → Option Nat} (h : MapOf w B n M) (hE : Ext w w') : MapOf w' B n M := h.below hE h.lt

/-- One that says the same. -/
theorem MapOf.as {w : World} {B n : Nat} {M N : ByteArray → Option Nat} (h : MapOf w B n M) (he : ∀ s, M s = N s) : MapOf w B n N := by
  obtain ⟨D, h1, h2⟩ := h
  exact ⟨D, h1, fun s => by rw [← he s]; exact h2 s⟩

set_option maxRecDepth 100000 in
theorem MapOf.lookOk {w : World} {B n : Nat} {M : ByteArray → Option Nat} (h : MapOf w B n M) {s : ByteArray} (hs : s.size ≤ maxLen) :
    (Instr.lookup 59 (.map (some B)) (.string s) true).run Try.prog w = .ok (.tuple #[.int .i64 (((M s).getD 0 : Nat) : Int), .bool (M s).isSome]) w := by
  obtain ⟨D, h1, h2⟩ := h
  obtain ⟨v, ps, hrun, hv⟩ := h1.look_ok mapLaw Try.underlying59 (mapZero w) (plainElem_int Try.underlying3 (by decide)) (keyS_of hs)
  obtain ⟨c, rfl, hc, _⟩ := plainElem_int_inv Try.underlying3 hv
  have e := (h2 s).2
  have hc1 := congrArg Prod.fst hc
  simp only at hc1
  rw [e] at hc1
  have hc2 := (Lit.int.inj (DataW.lit.inj hc1)).2
  rw [hrun, (h2 s).1, hc2]

set_option maxRecDepth 100000 in
theorem MapOf.look {w : World} {B n : Nat} {M : ByteArray → Option Nat} (h : MapOf w B n M) {s : ByteArray} (hs : s.size ≤ maxLen) :
    (Instr.lookup 59 (.map (some B)) (.string s) false).run Try.prog w = .ok (.int .i64 (((M s).getD 0 : Nat) : Int)) w := by
  obtain ⟨D, h1, h2⟩ := h
  obtain ⟨c, hrun, hat, _⟩ := h1.lookup_int mapLaw Try.underlying59 Try.underlying3 (mapZero w) (keyS_of hs)
  rw [(h2 s).2] at hat
  have hc2 := (Lit.int.inj (DataW.lit.inj hat)).2
  rw [hrun, hc2]

/-- What is put. -/
def putM (M : ByteArray → Option Nat) (s : ByteArray) (v : Nat) : ByteArray → Option Nat := fun t => if t = s then some v else M t

/-- What is struck. -/
def delM (M : ByteArray → Option Nat) (s : ByteArray) : ByteArray → Option Nat := fun t => if t = s then none else M t

set_option maxRecDepth 100000 in
theorem MapOf.store {w : World} {B n : Nat} {M : ByteArray → Option Nat} (h : MapOf w B n M) (hn : n < maxLen) {s : ByteArray} (hs : s.size ≤ maxLen) (v : Nat) (hv : v ≤ 9223372036854775807) :
    ∃ w', (Instr.mapUpdate 59 (.map (some B)) (.string s) (.int .i64 (v : Int))).run Try.prog w = .ok () w' ∧ MapOf w' B (n + 1) (putM M s v) ∧ w.mapTurned w' B := by
  obtain ⟨D, h1, h2⟩ := h
  obtain ⟨w', hrun, hown, ht⟩ := h1.store mapLaw Try.underlying59 hn (keyS_of hs) (plainElem_int Try.underlying3 (a := (v : Int)) (WalkArith.wf_i64 (by omega)))
  refine ⟨w', hrun, ⟨_, hown, fun t => ?_⟩, ht⟩
  unfold putM
  by_cases e : t = s
  · subst e
    rw [if_pos rfl]
    exact ⟨has_put_same h1.isMap (show WideAt.IsKeyLit (keyS t) from trivial) _, atKey_put_same h1.isMap (show WideAt.IsKeyLit (keyS t) from trivial) _ _⟩
  · rw [if_neg e]
    have hk : keyS t ≠ keyS s := fun h => e (keyS_inj h)
    rw [has_put_other hk, atKey_put_other hk]
    exact h2 t

set_option maxRecDepth 100000 in
theorem MapOf.drop {w : World} {B n : Nat} {M : ByteArray → Option Nat} (h : MapOf w B n M) {s : ByteArray} (hs : s.size ≤ maxLen) (ty : TypeId) :
    ∃ w', (Builtin.delete_ #[59, 9] ty #[.map (some B), .string s]).run Try.prog w = .ok (.tuple #[]) w' ∧ MapOf w' B n (delM M s) ∧ w.mapTurned w' B := by
  obtain ⟨D, h1, h2⟩ := h
  obtain ⟨w', hrun, hown, ht⟩ := h1.drop mapLaw Try.underlying59 (keyS_of hs) ty
  refine ⟨w', hrun, ⟨_, hown, fun t => ?_⟩, ht⟩
  unfold delM
  by_cases e : t = s
  · subst e
    rw [if_pos rfl]
    exact ⟨has_del_same, atKey_del_same _⟩
  · rw [if_neg e]
    have hk : keyS t ≠ keyS s := fun h => e (keyS_inj h)
    rw [has_del_other hk, atKey_del_other hk]
    exact h2 t

/-! At the operation. -/
section
variable {P : Program} (w : World) {ops : Array Oper} {rest : List Oper} {o : Oper} {a : Act} {Q : Exit → Act → World → Prop}

theorem wpList_look_map (hg : o.guard = none) (m x : Operand) (hop : o.op = Op.lookup 59 m x true) (B n : Nat) (M : ByteArray → Option Nat) (hm : a.eval m = .map (some B)) (h : MapOf w B n M) (s : ByteArray) (hx : a.eval x = .string s) (hs : s.size ≤ maxLen)
    (hK : wpList Try.prog ops Q rest (a.put o.dst (.tuple #[.int .i64 (((M s).getD 0 : Nat) : Int), .bool (M s).isSome])) w) : wpList Try.prog ops Q (o :: rest) a w := by
  refine wpList_plain hg fun K' hK' => ?_
  unfold Oper.wp
  simp [execOp, hop, hm, hx, h.lookOk hs, Result.andThen]
  exact hK' _ _ hK

theorem wpList_put_map (hg : o.guard = none) (m x v : Operand) (hop : o.op = Op.mapUpdate 59 m x v) (B n : Nat) (M : ByteArray → Option Nat) (hm : a.eval m = .map (some B)) (h : MapOf w B n M) (hn : n < maxLen) (s : ByteArray) (hx : a.eval x = .string s) (hs : s.size ≤ maxLen) (i : Nat) (hv : a.eval v = .int .i64 (i : Int)) (hi : i ≤ 9223372036854775807)
    (hK : ∀ w', MapOf w' B (n + 1) (putM M s i) → w.mapTurned w' B → wpList Try.prog ops Q rest (a.put o.dst undef) w') : wpList Try.prog ops Q (o :: rest) a w := by
  refine wpList_plain hg fun K' hK' => ?_
  obtain ⟨w', hrun, r1, r2⟩ := h.store hn hs i hi
  unfold Oper.wp
  simp [execOp, hop, hm, hx, hv, hrun, Result.andThen]
  exact hK' _ _ (hK w' r1 r2)

theorem wpList_del_map (hg : o.guard = none) (m x : Operand) (hop : o.op = Op.call { callee := Callee.builtin Builtin.delete, args := #[m, x], argTypes := #[59, 9] }) (B n : Nat) (M : ByteArray → Option Nat) (hm : a.eval m = .map (some B)) (h : MapOf w B n M) (s : ByteArray) (hx : a.eval x = .string s) (hs : s.size ≤ maxLen)
    (hK : ∀ w', MapOf w' B n (delM M s) → w.mapTurned w' B → wpList Try.prog ops Q rest (a.put o.dst (.tuple #[])) w') : wpList Try.prog ops Q (o :: rest) a w := by
  refine wpList_plain hg fun K' hK' => ?_
  obtain ⟨w', hrun, r1, r2⟩ := h.drop hs o.type
  unfold Oper.wp
  simp [execOp, hop, resolve, invoke, builtin, hm, hx, hrun, Result.andThen]
  exact hK' _ _ (hK w' r1 r2)

end

end Go.Proofs.Ytakcmiijnckaaaa
