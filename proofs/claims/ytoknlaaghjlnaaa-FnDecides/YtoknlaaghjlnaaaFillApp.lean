/- 'append([]T{}, xs...)': a copy of a slice that may be empty or nil. -/
import Derived.Deep.AppendSrc
import Derived.Deep.AppendLies
import Derived.Test.YtoknlaaghjlnaaaDrawPol
namespace Go.Proofs.Ytoknlaaghjlnaaa
open Go Go.RowKit
set_option linter.unusedVariables false

theorem own_empty (W : World) (base : Nat) (e : TypeId) (size : Nat) (hs : 0 < size) (hb : base ≤ W.heap.size) : (W.alloc (.cells #[] e)).ownsRow base e size (.slice (some ⟨W.heap.size, 0, none⟩) 0 0) 0 [] := by
  refine ⟨by simp, .inr ⟨W.heap.size, 0, #[], rfl, hb, by unfold World.alloc; simp, ?_⟩⟩
  simp

theorem own_emptyAt (W : World) (base : Nat) (e : TypeId) (size h : Nat) (hh : h = W.heap.size) (hs : 0 < size) (hb : base ≤ W.heap.size) : (W.alloc (.cells #[] e)).ownsRow base e size (.slice (some ⟨h, 0, none⟩) 0 0) 0 [] := by
  subst hh; exact own_empty W base e size hs hb

theorem own_numsG {w : World} {base n g c : Nat} {zs : List Int} (h : w.ownsRow base 3 1 (.slice (some ⟨g, 0, none⟩) n c) n (zs.map (Value.int .i64))) (hn : zs.length = n) : Nums w (some ⟨g, 0, none⟩) zs ∧ base ≤ g := by
  obtain ⟨a, cap, e, h1, h2⟩ := own_nums h hn
  injection e with e1 e2 e3
  subst e1
  exact ⟨h1, (h2 g 0 none rfl).1⟩

theorem own_condsG {w : World} {base n g c : Nat} {cs : List CN} (h : w.ownsRow base 44 6 (.slice (some ⟨g, 0, none⟩) n c) n (flatC cs)) (hn : cs.length = n) : Conds w (some ⟨g, 0, none⟩) cs ∧ base ≤ g := by
  obtain ⟨a, cap, e, h1, h2⟩ := own_conds h hn
  injection e with e1 e2 e3
  subst e1
  exact ⟨h1, (h2 g 0 none rfl).1⟩

theorem nums_src {W : World} {a : Option Addr} {zs : List Int} (h : Nums W a zs) (hp : 0 < zs.length) : ∃ A, a = some A ∧ ∀ j u, (zs.map (Value.int .i64))[j]? = some u → W.cell? (A.add j) = some u := by
  obtain ⟨b, off, ha, hb, hc⟩ := h hp
  refine ⟨_, ha, fun j u hu => ?_⟩
  have hj : j < zs.length := by have h3 := (List.getElem?_eq_some_iff.1 hu).1; simpa using h3
  rw [Addr.add_lit, hc j hj]
  simp [hj] at hu
  simp [List.getD_eq_getElem?_getD, hj, hu]

theorem flatC_length (cs : List CN) : (flatC cs).length = cs.length * 6 := by
  induction cs with
  | nil => rfl
  | cons c cs ih =>
    simp only [flatC, List.flatMap_cons, List.length_append, List.length_cons] at ih ⊢
    rw [ih]
    simp [CN.l]; omega

theorem conds_src {W : World} {a : Option Addr} {cs : List CN} (h : Conds W a cs) (hp : 0 < cs.length) : ∃ A, a = some A ∧ ∀ j u, (flatC cs)[j]? = some u → W.cell? (A.add j) = some u := by
  obtain ⟨b, off, ha, hb, hc⟩ := h hp
  refine ⟨_, ha, fun j u hu => ?_⟩
  have hj : j < cs.length * 6 := by have h3 := (List.getElem?_eq_some_iff.1 hu).1; rw [flatC_length] at h3; exact h3
  have hjd : j / 6 < cs.length := by omega
  have hm : j % 6 < 6 := by omega
  obtain ⟨u', hu'⟩ : ∃ u', (cs.getD (j / 6) c0).l[j % 6]? = some u' := ⟨_, List.getElem?_eq_getElem (by simp [CN.l]; omega)⟩
  have e := flatC_at cs (j / 6) (j % 6) u' hjd hu'
  have ej : j / 6 * 6 + j % 6 = j := by omega
  rw [ej, hu] at e
  rw [Addr.add_lit]
  have := hc (j / 6) hjd (j % 6) u' hu'
  rw [show off + j = off + j / 6 * 6 + j % 6 by omega, this, e]

theorem flatC_one (cs : List CN) : ∀ u ∈ flatC cs, u.oneCell' = true := by
  intro u hu
  obtain ⟨c, _, hc⟩ := List.mem_flatMap.1 hu
  simp [CN.l] at hc
  rcases hc with rfl | rfl | rfl | rfl | rfl | rfl <;> rfl

section
variable {P : Program}

theorem run_append_fill (w : World) (t ty : TypeId) (base : Nat) (e : TypeId) (i : TypeInfo) (z : Value) (size bytes : Nat) (ht : P.underlying t = some (.slice e)) (hi : P.info? e = some i) (hz : i.zero = some z)
    (hsize : i.size = size) (hby : i.bytes = bytes) (hzs : z.cells.size = size) (hsz : 0 < size)
    (h0 : Nat) (hown : w.ownsRow base e size (.slice (some ⟨h0, 0, none⟩) 0 0) 0 [])
    (ad : Option Addr) (m c : Nat) (news : List Value) (hl : news.length = m * size) (hnews : 0 < m → ∃ A, ad = some A ∧ ∀ j u, news[j]? = some u → w.cell? (A.add j) = some u) (h1 : ∀ u ∈ news, u.oneCell' = true)
    (h63 : m ≤ maxLen) (hbytes : m * bytes ≤ 140737488355328) (hbase : base ≤ w.heap.size) :
    ∃ g cap w', (Builtin.append_ #[t, t] ty #[.slice (some ⟨h0, 0, none⟩) 0 0, .slice ad m c]).run P w = .ok (.slice (some ⟨g, 0, none⟩) m cap) w' ∧
      w'.ownsRow base e size (.slice (some ⟨g, 0, none⟩) m cap) m news ∧ w.grownBy w' (some h0) ∧ (g = h0 ∨ g = w.heap.size) ∧ g < w'.heap.size := by
  by_cases hm : 0 < m
  · obtain ⟨A, rfl, hn⟩ := hnews hm
    obtain ⟨g, cap, w', hr, h2, h3, h4, h5⟩ := run_append_lies (P := P) w t ty base e i z size bytes ht hi hz hsize hby hzs hsz _ 0 [] hown A m c news hl hn h1 hm (by omega) (by rw [Nat.zero_add]; exact hbytes) hbase _ rfl
    rw [Nat.zero_add] at hr h2
    refine ⟨g, cap, w', hr, h2, h3, ?_, h5⟩
    rcases h4 with h4 | h4
    · exact .inl (Option.some.inj h4).symm
    · exact .inr h4
  · obtain rfl : m = 0 := by omega
    have hn : news = [] := List.length_eq_zero_iff.1 (by simpa using hl)
    subst hn
    have hs : Src P i.size t (.slice ad 0 c) 0 [] w := by
      cases ad with
      | none => exact Src.ofNil w ht c
      | some A => exact Src.ofSlice w ht A 0 c [] (by simp) (fun j u hu => by simp at hu) (fun u hu => by simp at hu)
    have hr := run_append_room_src (P := P) w t t ty e i ht hi h0 0 0 0 (.slice ad 0 c) 0 [] hs (by omega) (fun j hj => by simp at hj) (fun j hj => by simp at hj)
    refine ⟨h0, 0, w, ?_, hown, ⟨rfl, rfl, rfl, Nat.le_refl _, fun _ _ _ => rfl⟩, .inl rfl, ?_⟩
    · rw [hr]
      simp [World.setCells]
    · rcases hown.2 with ⟨hv, _⟩ | ⟨g, cap, cur, hv, _, hg, _⟩
      · cases hv
      · obtain rfl : h0 = g := by injection hv with hv; injection hv with hv; injection hv
        exact (Array.getElem?_eq_some_iff.1 hg).1

theorem wpList_append_fill (w : World) {ops : Array Oper} {rest : List Oper} {o : Oper} {a : Act} {Q : Exit → Act → World → Prop} (hgd : o.guard = none) (s x : Operand) (t : TypeId)
    (ho : o.op = .call { callee := .builtin .append, args := #[s, x], argTypes := #[t, t] })
    (base : Nat) (e : TypeId) (i : TypeInfo) (z : Value) (size bytes : Nat) (ht : P.underlying t = some (.slice e)) (hi : P.info? e = some i) (hz : i.zero = some z)
    (hsize : i.size = size) (hby : i.bytes = bytes) (hzs : z.cells.size = size) (hsz : 0 < size)
    (h0 : Nat) (hs : a.eval s = .slice (some ⟨h0, 0, none⟩) 0 0) (hown : w.ownsRow base e size (.slice (some ⟨h0, 0, none⟩) 0 0) 0 [])
    (ad : Option Addr) (m c : Nat) (news : List Value) (hx : a.eval x = .slice ad m c) (hl : news.length = m * size) (hnews : 0 < m → ∃ A, ad = some A ∧ ∀ j u, news[j]? = some u → w.cell? (A.add j) = some u) (h1 : ∀ u ∈ news, u.oneCell' = true)
    (h63 : m ≤ maxLen) (hbytes : m * bytes ≤ 140737488355328) (hbase : base ≤ w.heap.size) (H : Nat) (hH : w.heap.size = H)
    (h : ∀ g cap w', w'.ownsRow base e size (.slice (some ⟨g, 0, none⟩) m cap) m news → w.grownBy w' (some h0) → (g = h0 ∨ g = H) → g < w'.heap.size → wpList P ops Q rest (a.put o.dst (.slice (some ⟨g, 0, none⟩) m cap)) w') : wpList P ops Q (o :: rest) a w :=
  wpList_plain hgd fun K hK => by
    obtain ⟨g, cap, w', hr, h2, h3, h4, h5⟩ := run_append_fill (P := P) w t o.type base e i z size bytes ht hi hz hsize hby hzs hsz h0 hown ad m c news hl hnews h1 h63 hbytes hbase
    unfold Oper.wp execOp
    simp only [ho, resolve, invoke, builtin, Sem.run_bind, Sem.run_pure, Result.andThen_ok, List.map_toArray, List.map_cons, List.map_nil, hs, hx, hr]
    exact hK _ _ (h g cap w' h2 h3 (by rw [← hH]; exact h4) h5)

end
end Go.Proofs.Ytoknlaaghjlnaaa
