/- What spec's DrawPolicyOk, DrawPolicy and DrawDecide answer. -/
import Derived.Deep.AppendSrc
import Derived.Deep.AppendLies
import Derived.Test.YtojaohdmfahpmaaGreatDoorPolPack18
/- 'append([]T{}, xs...)': a copy of a slice that may be empty or nil. -/
namespace Go.Proofs.YtojaohdmfahpmaaGreatDoor
open Go Go.RowKit
set_option linter.unusedVariables false

theorem own_empty (W : World) (base : Nat) (e : TypeId) (size : Nat) (hs : 0 < size) (hb : base ≤ W.heap.size) : (W.alloc (.cells #[] e)).ownsRow base e size (.slice (some ⟨W.heap.size, 0, none⟩) 0 0) 0 [] := by
  refine ⟨by simp, .inr ⟨W.heap.size, 0, #[], rfl, hb, by unfold World.alloc; simp, ?_⟩⟩
  simp

theorem own_emptyAt (W : World) (base : Nat) (e : TypeId) (size h : Nat) (hh : h = W.heap.size) (hs : 0 < size) (hb : base ≤ W.heap.size) : (W.alloc (.cells #[] e)).ownsRow base e size (.slice (some ⟨h, 0, none⟩) 0 0) 0 [] := by
  subst hh; exact own_empty W base e size hs hb

theorem own_numsG {w : World} {base n g c : Nat} {zs : List Int} (h : w.ownsRow base 3 1 (.slice (some ⟨g, 0, none⟩) n c) n (zs.map (Value.int .i64))) (hn : zs.length = n) : Nums w (some ⟨g, 0, none⟩) zs ∧ base ≤ g := by
  obtain ⟨a, cap, e, h1, h2⟩ := own_nums h hn
  injection e with e1 e2 e3
  subst e1
  exact ⟨h1, (h2 g 0 none rfl).1⟩

theorem own_condsG {w : World} {base n g c : Nat} {cs : List CN} (h : w.ownsRow base 78 6 (.slice (some ⟨g, 0, none⟩) n c) n (flatC cs)) (hn : cs.length = n) : Conds w (some ⟨g, 0, none⟩) cs ∧ base ≤ g := by
  obtain ⟨a, cap, e, h1, h2⟩ := own_conds h hn
  injection e with e1 e2 e3
  subst e1
  exact ⟨h1, (h2 g 0 none rfl).1⟩

theorem nums_src {W : World} {a : Option Addr} {zs : List Int} (h : Nums W a zs) (hp : 0 < zs.length) : ∃ A, a = some A ∧ ∀ j u, (zs.map (Value.int .i64))[j]? = some u → W.cell? (A.add j) = some u := by
  obtain ⟨b, off, ha, hb, hc⟩ := h hp
  refine ⟨_, ha, fun j u hu => ?_⟩
  have hj : j < zs.length := by have h3 := (List.getElem?_eq_some_iff.1 hu).1; simpa using h3
  rw [Addr.add_lit, hc j hj]
  simp [hj] at hu
  simp [List.getD_eq_getElem?_getD, hj, hu]

theorem flatC_length (cs : List CN) : (flatC cs).length = cs.length * 6 := by
  induction cs with
  | nil => rfl
  | cons c cs ih =>
    simp only [flatC, List.flatMap_cons, List.length_append, List.length_cons] at ih ⊢
    rw [ih]
    simp [CN.l]; omega

theorem conds_src {W : World} {a : Option Addr} {cs : List CN} (h : Conds W a cs) (hp : 0 < cs.length) : ∃ A, a = some A ∧ ∀ j u, (flatC cs)[j]? = some u → W.cell? (A.add j) = some u := by
  obtain ⟨b, off, ha, hb, hc⟩ := h hp
  refine ⟨_, ha, fun j u hu => ?_⟩
  have hj : j < cs.length * 6 := by have h3 := (List.getElem?_eq_some_iff.1 hu).1; rw [flatC_length] at h3; exact h3
  have hjd : j / 6 < cs.length := by omega
  have hm : j % 6 < 6 := by omega
  obtain ⟨u', hu'⟩ : ∃ u', (cs.getD (j / 6) c0).l[j % 6]? = some u' := ⟨_, List.getElem?_eq_getElem (by simp [CN.l]; omega)⟩
  have e := flatC_at cs (j / 6) (j % 6) u' hjd hu'
  have ej : j / 6 * 6 + j % 6 = j := by omega
  rw [ej, hu] at e
  rw [Addr.add_lit]
  have := hc (j / 6) hjd (j % 6) u' hu'
  rw [show off + j = off + j / 6 * 6 + j % 6 by omega, this, e]

theorem flatC_one (cs : List CN) : ∀ u ∈ flatC cs, u.oneCell' = true := by
  intro u hu
  obtain ⟨c, _, hc⟩ := List.mem_flatMap.1 hu
  simp [CN.l] at hc
  rcases hc with rfl | rfl | rfl | rfl | rfl | rfl <;> rfl

section
variable {P : Program}

theorem run_append_fill (w : World) (t ty : TypeId) (base : Nat) (e : TypeId) (i : TypeInfo) (z : Value) (size bytes : Nat) (ht : P.underlying t = some (.slice e)) (hi : P.info? e = some i) (hz : i.zero = some z)
    (hsize : i.size = size) (hby : i.bytes = bytes) (hzs : z.cells.size = size) (hsz : 0 < size)
    (h0 : Nat) (hown : w.ownsRow base e size (.slice (some ⟨h0, 0, none⟩) 0 0) 0 [])
    (ad : Option Addr) (m c : Nat) (news : List Value) (hl : news.length = m * size) (hnews : 0 < m → ∃ A, ad = some A ∧ ∀ j u, news[j]? = some u → w.cell? (A.add j) = some u) (h1 : ∀ u ∈ news, u.oneCell' = true)
    (h63 : m ≤ maxLen) (hbytes : m * bytes ≤ 140737488355328) (hbase : base ≤ w.heap.size) :
    ∃ g cap w', (Builtin.append_ #[t, t] ty #[.slice (some ⟨h0, 0, none⟩) 0 0, .slice ad m c]).run P w = .ok (.slice (some ⟨g, 0, none⟩) m cap) w' ∧
      w'.ownsRow base e size (.slice (some ⟨g, 0, none⟩) m cap) m news ∧ w.grownBy w' (some h0) ∧ (g = h0 ∨ g = w.heap.size) ∧ g < w'.heap.size := by
  by_cases hm : 0 < m
  · obtain ⟨A, rfl, hn⟩ := hnews hm
    obtain ⟨g, cap, w', hr, h2, h3, h4, h5⟩ := run_append_lies (P := P) w t ty base e i z size bytes ht hi hz hsize hby hzs hsz _ 0 [] hown A m c news hl hn h1 hm (by omega) (by rw [Nat.zero_add]; exact hbytes) hbase _ rfl
    rw [Nat.zero_add] at hr h2
    refine ⟨g, cap, w', hr, h2, h3, ?_, h5⟩
    rcases h4 with h4 | h4
    · exact .inl (Option.some.inj h4).symm
    · exact .inr h4
  · obtain rfl : m = 0 := by omega
    have hn : news = [] := List.length_eq_zero_iff.1 (by simpa using hl)
    subst hn
    have hs : Src P i.size t (.slice ad 0 c) 0 [] w := by
      cases ad with
      | none => exact Src.ofNil w ht c
      | some A => exact Src.ofSlice w ht A 0 c [] (by simp) (fun j u hu => by simp at hu) (fun u hu => by simp at hu)
    have hr := run_append_room_src (P := P) w t t ty e i ht hi h0 0 0 0 (.slice ad 0 c) 0 [] hs (by omega) (fun j hj => by simp at hj) (fun j hj => by simp at hj)
    refine ⟨h0, 0, w, ?_, hown, ⟨rfl, rfl, rfl, Nat.le_refl _, fun _ _ _ => rfl⟩, .inl rfl, ?_⟩
    · rw [hr]
      simp [World.setCells]
    · rcases hown.2 with ⟨hv, _⟩ | ⟨g, cap, cur, hv, _, hg, _⟩
      · cases hv
      · obtain rfl : h0 = g := by injection hv with hv; injection hv with hv; injection hv
        exact (Array.getElem?_eq_some_iff.1 hg).1

theorem wpList_append_fill (w : World) {ops : Array Oper} {rest : List Oper} {o : Oper} {a : Act} {Q : Exit → Act → World → Prop} (hgd : o.guard = none) (s x : Operand) (t : TypeId)
    (ho : o.op = .call { callee := .builtin .append, args := #[s, x], argTypes := #[t, t] })
    (base : Nat) (e : TypeId) (i : TypeInfo) (z : Value) (size bytes : Nat) (ht : P.underlying t = some (.slice e)) (hi : P.info? e = some i) (hz : i.zero = some z)
    (hsize : i.size = size) (hby : i.bytes = bytes) (hzs : z.cells.size = size) (hsz : 0 < size)
    (h0 : Nat) (hs : a.eval s = .slice (some ⟨h0, 0, none⟩) 0 0) (hown : w.ownsRow base e size (.slice (some ⟨h0, 0, none⟩) 0 0) 0 [])
    (ad : Option Addr) (m c : Nat) (news : List Value) (hx : a.eval x = .slice ad m c) (hl : news.length = m * size) (hnews : 0 < m → ∃ A, ad = some A ∧ ∀ j u, news[j]? = some u → w.cell? (A.add j) = some u) (h1 : ∀ u ∈ news, u.oneCell' = true)
    (h63 : m ≤ maxLen) (hbytes : m * bytes ≤ 140737488355328) (hbase : base ≤ w.heap.size) (H : Nat) (hH : w.heap.size = H)
    (h : ∀ g cap w', w'.ownsRow base e size (.slice (some ⟨g, 0, none⟩) m cap) m news → w.grownBy w' (some h0) → (g = h0 ∨ g = H) → g < w'.heap.size → wpList P ops Q rest (a.put o.dst (.slice (some ⟨g, 0, none⟩) m cap)) w') : wpList P ops Q (o :: rest) a w :=
  wpList_plain hgd fun K hK => by
    obtain ⟨g, cap, w', hr, h2, h3, h4, h5⟩ := run_append_fill (P := P) w t o.type base e i z size bytes ht hi hz hsize hby hzs hsz h0 hown ad m c news hl hnews h1 h63 hbytes hbase
    unfold Oper.wp execOp
    simp only [ho, resolve, invoke, builtin, Sem.run_bind, Sem.run_pure, Result.andThen_ok, List.map_toArray, List.map_cons, List.map_nil, hs, hx, hr]
    exact hK _ _ (h g cap w' h2 h3 (by rw [← hH]; exact h4) h5)

end
end Go.Proofs.YtojaohdmfahpmaaGreatDoor

/- What spec's l09Copy answers: a policy of as many rules, in memory of its own. -/
namespace Go.Proofs.YtojaohdmfahpmaaGreatDoor
open Go.RowKit
set_option linter.unusedVariables false

def AllSmall (ps : List (RN × List Value)) : Prop := ∀ q ∈ ps, Small q.1

/-- A copy under way: the rules that were appended lie in blocks below Z, none of them the row's own. -/
structure CInv (w : World) (Z : Nat) (ar ac da : Int) (a : Option Addr) (n cap : Nat) (ps : List (RN × List Value)) (k : Nat) (v1 : Value) (W : World) : Prop where
  ext : Ext w W
  box : Blk W w.heap.size [.int .i64 ar, .int .i64 ac, .int .i64 da, .slice a n cap] 26
  res : Blk W (w.heap.size + 1) [.int .i64 0, .int .i64 0, .int .i64 0, .slice none 0 0] 26
  out : Blk W (w.heap.size + 1 + 1) [.int .i64 ar, .int .i64 ac, .int .i64 da, v1] 26
  row : RowR (fun b => (w.heap.size + 3 ≤ b ∧ some b ≠ v1.ownBlock) ∧ b < Z) W ps
  own : W.ownsRow (w.heap.size + 3) 53 4 v1 k (flatR ps)
  old : ∀ x, v1.ownBlock = some x → x < Z
  low : w.heap.size + 3 ≤ Z
  high : Z ≤ W.heap.size

theorem Ext.grownE {w W W' : World} (h : Ext w W) {E : Nat} (hg : W.grownBy W' (some E)) (hE : w.heap.size ≤ E) : Ext w W' := h.grown hg h.size (fun k hk => by have := Option.some.inj hk; omega)

theorem CInv.grow {w : World} {Z : Nat} {ar ac da : Int} {a : Option Addr} {n cap : Nat} {ps : List (RN × List Value)} {k : Nat} {v1 : Value} {W W' : World} (h : CInv w Z ar ac da a n cap ps k v1 W) {E : Nat} (hg : W.grownBy W' (some E)) (hE : Z ≤ E) : CInv w Z ar ac da a n cap ps k v1 W' := by
  have hl := h.low
  exact ⟨h.ext.grownE hg (by omega), h.box.grownP hg (by omega), h.res.grownP hg (by omega), h.out.grownP hg (by omega), h.row.grown hg (fun b hb _ => ne_some (by have := hb.2; omega)), h.own.kept hg (.inr fun e => by have := h.old E e; omega), h.old, h.low, Nat.le_trans h.high hg.size⟩

theorem CInv.alloc {w : World} {Z : Nat} {ar ac da : Int} {a : Option Addr} {n cap : Nat} {ps : List (RN × List Value)} {k : Nat} {v1 : Value} {W : World} (h : CInv w Z ar ac da a n cap ps k v1 W) (o : Obj) : CInv w Z ar ac da a n cap ps k v1 (W.alloc o) :=
  h.grow (E := W.heap.size) (grown_alloc (grown_refl W _) o) h.high

theorem CInv.set {w : World} {Z : Nat} {ar ac da : Int} {a : Option Addr} {n cap : Nat} {ps : List (RN × List Value)} {k : Nat} {v1 : Value} {W : World} (h : CInv w Z ar ac da a n cap ps k v1 W) {E : Nat} (hE : Z ≤ E) (i : Nat) (v : Value) : CInv w Z ar ac da a n cap ps k v1 (W.setCell ⟨E, i, none⟩ v) :=
  h.grow (E := E) (grown_set) hE

theorem own_set9 {w : World} {base e size : Nat} {v : Value} {n : Nat} {xs : List Value} (h : w.ownsRow base e size v n xs) {k : Nat} (hk : k < base) (i : Nat) (u : Value) : (w.setCell ⟨k, i, none⟩ u).ownsRow base e size v n xs := ownsRow_setCell_below (a := ⟨k, i, none⟩) h hk u

set_option maxRecDepth 100000 in
set_option maxHeartbeats 6400000 in
theorem copy_any (ar ac da : Int) (a : Option Addr) (n cap : Nat) (rs : List RN) (w : World) (hn : n = rs.length) (hs : SmallR rs) (h : Rules w a rs) :
    Calls Tryz.prog 39 #[.agg #[.int .i64 ar, .int .i64 ac, .int .i64 da, .slice a n cap]] w fun e w' => ∃ (aR : Option Addr) (nR cR : Nat) (ps : List (RN × List Value)), e = .returned (.agg #[.int .i64 ar, .int .i64 ac, .int .i64 da, .slice aR nR cR]) ∧ ps.length = nR ∧ nR = n ∧ AllSmall ps ∧ w'.ownsRow w.heap.size 53 4 (.slice aR nR cR) nR (flatR ps) ∧ RowR (fun b => w.heap.size ≤ b ∧ some b ≠ (Value.slice aR nR cR).ownBlock) w' ps ∧ Ext w w' := by
  obtain ⟨i0, hi, hz0, hz1, hz2⟩ := info_parts Tryz.infoI
  obtain ⟨j0, ji, jz0, jz1, jz2⟩ := info_parts Tryz.infoCo
  obtain ⟨k0, ki, kz0, kz1, kz2⟩ := info_parts Tryz.infoRu
  have HN : Hid (n = rs.length ∧ ∀ k, k < rs.length → Small (rs.getD k r0)) := ⟨hn, hs.2⟩
  have HA : Hid (∀ W, Ext w W → Rules W a rs) := fun W hE => h.step hE
  have hl' : n ≤ 1048576 := by have := hs.1; omega
  clear h hn hs
  go_enter Tryz.func39, Tryz.ntmps39
  go_wp2_with fail
  go_loopw [4] (fun i wr => ∃ (k : Nat) (ps : List (RN × List Value)) (v1 : Value), i = .int .i64 k ∧ k ≤ n ∧ Hid (ps.length = k ∧ (∀ q ∈ ps, Small q.1) ∧ CInv w wr.heap.size ar ac da a n cap ps k v1 wr)) (fun i _ => n - (intOf i).toNat)
  case atStart =>
    refine ⟨0, [], .slice (some ⟨w.heap.size + 1 + 1 + 1, 0, none⟩) 0 0, rfl, by omega, rfl, fun q hq => by simp at hq, ?_⟩
    exact { ext := (((Ext.one w _).alloc _).alloc _).alloc _, box := (((Blk.new w _ _).alloc _).alloc _).alloc _, res := ((Blk.newAt _ _ _ _ (by simp)).alloc _).alloc _, out := (Blk.newAt _ _ _ _ (by simp)).alloc _, row := fun q hq => by simp at hq, own := own_emptyAt _ _ _ _ _ (by simp) (by omega) (by simp), old := fun x hx => by simp [Value.ownBlock] at hx; simp; omega, low := by simp, high := Nat.le_refl _ }
  case round =>
    obtain ⟨k, ps, v1, rfl, hk, HI⟩ := hrel
    have q3 := HI.out.2.2.box.cell 3 _ rfl
    by_cases hlt : k < n
    · have bk : (k : Int) < (n : Int) := by omega
      obtain ⟨b, off, l, rfl, ⟨hbl, hseg⟩, hL⟩ := (HA.out wr HI.out.2.2.ext).at (k := k) (by have := HN.out.1; omega)
      obtain ⟨a1, n1, c1, a2, n2, c2, rfl, e1, e2, hz, hq⟩ := hL
      have hsm := HN.out.2 k (by have := HN.out.1; omega)
      obtain ⟨r, hr⟩ : ∃ r, r = rs.getD k r0 := ⟨_, rfl⟩
      rw [← hr] at e1 e2 hz hq hsm hseg
      obtain ⟨p0, p1, p2, p3⟩ := hseg.four
      have HRR : Hid (n1 = r.nums.length ∧ n2 = r.conds.length ∧ Nums wr a1 r.nums ∧ Conds wr a2 r.conds ∧ Small r) := ⟨e1, e2, hz, hq, hsm⟩
      have m1 : n1 ≤ 1048576 := by rw [e1]; exact hsm.1
      have m2 : n2 ≤ 1048576 := by rw [e2]; exact hsm.2
      clear e1 e2 hz hq hsm hseg hr hbl
      generalize r.act = xc at *
      generalize r.data = xd at *
      have C1 := (HI.out.2.2.alloc (.cells #[.slice a1 n1 c1, .slice a2 n2 c2, .int .i64 xc, .int .i64 xd] 53)).alloc (.cells #[] 3)
      have y1 := (Blk.new wr [.slice a1 n1 c1, .slice a2 n2 c2, .int .i64 xc, .int .i64 xd] 53).alloc (.cells #[] 3)
      have HC1 : Hid (CInv w wr.heap.size ar ac da (some ⟨b, off, none⟩) n cap ps k v1 ((wr.alloc (.cells #[.slice a1 n1 c1, .slice a2 n2 c2, .int .i64 xc, .int .i64 xd] 53)).alloc (.cells #[] 3)) ∧ Blk ((wr.alloc (.cells #[.slice a1 n1 c1, .slice a2 n2 c2, .int .i64 xc, .int .i64 xd] 53)).alloc (.cells #[] 3)) wr.heap.size [.slice a1 n1 c1, .slice a2 n2 c2, .int .i64 xc, .int .i64 xd] 53) := ⟨C1, y1⟩
      have HPS : Hid (ps.length = k ∧ ∀ q ∈ ps, Small q.1) := ⟨HI.out.1, HI.out.2.1⟩
      have hlow : w.heap.size + 3 ≤ wr.heap.size := HI.out.2.2.low
      clear C1 y1 HI
      go_wp2_with (at_builtin; refine wpList_append_fill _ rfl _ _ 50 rfl (wr.heap.size + 1) 3 i0 (.int .i64 0) 1 8 Tryz.underlying50 hi hz0 hz1 hz2 rfl (by decide) (wr.heap.size + 1) rfl (own_emptyAt _ _ _ _ _ (by simp) (by omega) (by simp)) a1 n1 c1 (r.nums.map (Value.int .i64)) rfl ?c1 ?c2 ?c3 ?c4 ?c5 ?c6 (wr.heap.size + 1 + 1) (by simp) ?_)
      case c1 => simp [HRR.out.1]
      case c2 => exact fun hp => nums_src (((HRR.out.2.2.1).step (Ext.one _ _)).step (Ext.one _ _)) (by rw [← HRR.out.1]; exact hp)
      case c3 => intro u hu; obtain ⟨z, _, rfl⟩ := List.mem_map.1 hu; rfl
      case c4 => unfold maxLen; omega
      case c5 => omega
      case c6 => simp
      intro g1 cap1 w3 hown3 hgrow3 hat3 hlt3
      have HK1 : Hid (n1 ≤ cap1) := by have := own_cap hown3; unfold Hid; omega
      obtain ⟨hn3, hg3⟩ := own_numsG hown3 HRR.out.1.symm
      have C3 := HC1.out.1.grow hgrow3 (by omega)
      have y3 := HC1.out.2.grownP hgrow3 (by omega)
      have HC3 : Hid (CInv w wr.heap.size ar ac da (some ⟨b, off, none⟩) n cap ps k v1 w3 ∧ Blk w3 wr.heap.size [.slice a1 n1 c1, .slice a2 n2 c2, .int .i64 xc, .int .i64 xd] 53 ∧ Nums w3 (some ⟨g1, 0, none⟩) r.nums ∧ Conds w3 a2 r.conds) := ⟨C3, y3, hn3, HRR.out.2.2.2.1.step (((Ext.one wr _).alloc _).grownE hgrow3 (by omega))⟩
      obtain ⟨q0, q1, f0⟩ := (⟨y3.cell 0 _ rfl, y3.cell 1 _ rfl, y3.free⟩ : _ ∧ _ ∧ _)
      have hs3 : wr.heap.size < w3.heap.size := y3.lt
      clear hown3 hgrow3 hat3 hn3 C3 y3 HC1
      have hw3 : wr.heap.size ≤ w3.heap.size := by omega
      go_wp2_with (at_builtin; refine wpList_append_fill _ rfl _ _ 51 rfl w3.heap.size 78 j0 (.agg #[.int .i64 0, .int .i64 0, .int .i64 0, .int .i64 0, .int .i64 0, .int .i64 0]) 6 48 Tryz.underlying51 ji jz0 jz1 jz2 rfl (by decide) w3.heap.size rfl (own_emptyAt _ _ _ _ _ (by simp [World.size_setCell]) (by omega) (by simp [World.size_setCell])) a2 n2 c2 (flatC r.conds) rfl ?c1 ?c2 ?c3 ?c4 ?c5 ?c6 (w3.heap.size + 1) (by simp [World.size_setCell]) ?_)
      case c1 => rw [flatC_length, HRR.out.2.1]
      case c2 =>
        refine fun hp => conds_src ?_ (by rw [← HRR.out.2.1]; exact hp)
        have hcw := HRR.out.2.2.2.1
        have hc3 := HC3.out.2.2.2
        refine Conds.step (w := w3.setCell ⟨wr.heap.size, 0, none⟩ (.slice (some ⟨g1, 0, none⟩) n1 cap1)) ?_ (Ext.one _ _)
        intro hp2
        obtain ⟨b2, off2, ha2, hb2, _⟩ := hcw hp2
        subst ha2
        exact hc3.far _ (by omega) _ hp2
      case c3 => exact flatC_one _
      case c4 => unfold maxLen; omega
      case c5 => omega
      case c6 => simp [World.size_setCell]
      intro g2 cap2 w6 hown6 hgrow6 hat6 hlt6
      obtain ⟨hn6, hg6⟩ := own_condsG hown6 HRR.out.2.1.symm
      have C6 := ((HC3.out.1.set (Nat.le_refl _) 0 (.slice (some ⟨g1, 0, none⟩) n1 cap1)).alloc (.cells #[] 78)).grow hgrow6 (by omega)
      have y6 := ((HC3.out.2.1.set 0 (.slice (some ⟨g1, 0, none⟩) n1 cap1)).alloc (.cells #[] 78)).grownP hgrow6 (by omega)
      have n6 : Nums w6 (some ⟨g1, 0, none⟩) r.nums := ((HC3.out.2.2.1.far 0 (by omega) _).step (Ext.one _ _)).kept (fun b o he => hgrow6.block b (by injection he with he; injection he with e1 _; subst e1; simp [World.size_setCell]; omega) (ne_some (by injection he with he; injection he with e1 _; omega))) hgrow6.size
      have hs6 : w3.heap.size < w6.heap.size := by have := hgrow6.size; simp [World.size_setCell] at this; omega
      have HC6 : Hid (CInv w wr.heap.size ar ac da (some ⟨b, off, none⟩) n cap ps k v1 w6 ∧ Blk w6 wr.heap.size [.slice (some ⟨g1, 0, none⟩) n1 cap1, .slice a2 n2 c2, .int .i64 xc, .int .i64 xd] 53 ∧ Nums w6 (some ⟨g1, 0, none⟩) r.nums ∧ Conds w6 (some ⟨g2, 0, none⟩) r.conds) := ⟨C6, y6, n6, hn6⟩
      clear q0 q1 f0
      obtain ⟨q0, q1, q2, q4, f0⟩ := (⟨y6.cell 0 _ rfl, y6.cell 1 _ rfl, y6.cell 2 _ rfl, y6.cell 3 _ rfl, y6.free⟩ : _ ∧ _ ∧ _ ∧ _ ∧ _)
      have o3 := C6.out.cell 3 _ rfl
      have fo := C6.out.free
      clear hown6 hgrow6 hat6 hn6 C6 y6 n6 HC3
      have C8 := (HC6.out.1.set (Nat.le_refl _) 1 (.slice (some ⟨g2, 0, none⟩) n2 cap2)).alloc (.cells #[.slice (some ⟨g1, 0, none⟩) n1 cap1, .slice (some ⟨g2, 0, none⟩) n2 cap2, .int .i64 xc, .int .i64 xd] 53)
      have t8 := Blk.newAt (w6.setCell ⟨wr.heap.size, 1, none⟩ (.slice (some ⟨g2, 0, none⟩) n2 cap2)) [.slice (some ⟨g1, 0, none⟩) n1 cap1, .slice (some ⟨g2, 0, none⟩) n2 cap2, .int .i64 xc, .int .i64 xd] 53 w6.heap.size (by rw [World.size_setCell])
      have n8 : Nums ((w6.setCell ⟨wr.heap.size, 1, none⟩ (.slice (some ⟨g2, 0, none⟩) n2 cap2)).alloc (.cells #[.slice (some ⟨g1, 0, none⟩) n1 cap1, .slice (some ⟨g2, 0, none⟩) n2 cap2, .int .i64 xc, .int .i64 xd] 53)) (some ⟨g1, 0, none⟩) r.nums := (HC6.out.2.2.1.far 1 (by omega) _).step (Ext.one _ _)
      have d8 : Conds ((w6.setCell ⟨wr.heap.size, 1, none⟩ (.slice (some ⟨g2, 0, none⟩) n2 cap2)).alloc (.cells #[.slice (some ⟨g1, 0, none⟩) n1 cap1, .slice (some ⟨g2, 0, none⟩) n2 cap2, .int .i64 xc, .int .i64 xd] 53)) (some ⟨g2, 0, none⟩) r.conds := (HC6.out.2.2.2.far 1 (by omega) _).step (Ext.one _ _)
      obtain ⟨W8, hW8⟩ : ∃ W8, W8 = (w6.setCell ⟨wr.heap.size, 1, none⟩ (.slice (some ⟨g2, 0, none⟩) n2 cap2)).alloc (.cells #[.slice (some ⟨g1, 0, none⟩) n1 cap1, .slice (some ⟨g2, 0, none⟩) n2 cap2, .int .i64 xc, .int .i64 xd] 53) := ⟨_, rfl⟩
      have hsz8 : W8.heap.size = w6.heap.size + 1 := by rw [hW8]; simp [World.size_setCell]
      rw [← hW8] at C8 t8 n8 d8
      have HC8 : Hid (CInv w wr.heap.size ar ac da (some ⟨b, off, none⟩) n cap ps k v1 W8 ∧ Blk W8 w6.heap.size [.slice (some ⟨g1, 0, none⟩) n1 cap1, .slice (some ⟨g2, 0, none⟩) n2 cap2, .int .i64 xc, .int .i64 xd] 53 ∧ Nums W8 (some ⟨g1, 0, none⟩) r.nums ∧ Conds W8 (some ⟨g2, 0, none⟩) r.conds ∧ W8.heap.size = w6.heap.size + 1) := ⟨C8, t8, n8, d8, hsz8⟩
      have HW8 : Hid (W8 = (w6.setCell ⟨wr.heap.size, 1, none⟩ (.slice (some ⟨g2, 0, none⟩) n2 cap2)).alloc (.cells #[.slice (some ⟨g1, 0, none⟩) n1 cap1, .slice (some ⟨g2, 0, none⟩) n2 cap2, .int .i64 xc, .int .i64 xd] 53)) := hW8
      clear C8 t8 n8 d8 hsz8 hW8 HC6
      go_wp2_with (at_builtin; rw [← HW8.out]; refine wpList_append_lies _ rfl _ _ 24 rfl (w.heap.size + 3) 53 k0 (.agg #[.slice none 0 0, .slice none 0 0, .int .i64 0, .int .i64 0]) 4 64 Tryz.underlying24 ki kz0 kz1 kz2 rfl (by decide) _ _ _ rfl HC8.out.1.own ⟨w6.heap.size, 0, none⟩ 1 1 [.slice (some ⟨g1, 0, none⟩) n1 cap1, .slice (some ⟨g2, 0, none⟩) n2 cap2, .int .i64 xc, .int .i64 xd] rfl rfl ?c1 ?c2 (by omega) ?c3 ?c4 ?c5 (w6.heap.size + 1) HC8.out.2.2.2.2 ?_)
      case c1 => exact fun j u hu => by rw [Addr.add_lit, Nat.zero_add]; exact HC8.out.2.1.cell j u hu
      case c2 => simp [Value.oneCell']
      case c3 => unfold maxLen; omega
      case c4 => omega
      case c5 => have := HC8.out.2.2.2.2; omega
      intro g cap9 w9 hown9 hgrow9 hat9 hlt9
      obtain ⟨C8, _, n8, d8, hsz8⟩ := HC8.out
      have hv1 : ∀ x, v1.ownBlock = some x → w.heap.size + 3 ≤ x ∧ x < wr.heap.size := fun x hx => ⟨(own_lt9 C8.own hx).1, C8.old x hx⟩
      have gB : ∀ m, m < w.heap.size + 3 → some m ≠ v1.ownBlock := fun m hm e => by have := (hv1 m e.symm).1; omega
      have gY : ∀ m, wr.heap.size ≤ m → some m ≠ v1.ownBlock := fun m hm e => by have := (hv1 m e.symm).2; omega
      have hg1l : g1 < w6.heap.size := by omega
      have hg2l : g2 < w6.heap.size := hlt6
      have hgne : ∀ m, wr.heap.size ≤ m → m < w6.heap.size + 1 → m ≠ g := fun m h1 h2 e => by
        rcases hat9 with h | h
        · have := (hv1 g h).2; omega
        · omega
      have x9 := C8.out.grown hgrow9 (gB _ (by omega))
      have e9 : Ext w w9 := C8.ext.grown hgrow9 C8.ext.size (fun m hm => by have := (hv1 m hm).1; omega)
      have n9 : Nums w9 (some ⟨g1, 0, none⟩) r.nums := n8.kept (fun b2 o2 he => hgrow9.block b2 (by injection he with he; injection he with e1 _; omega) (gY _ (by injection he with he; injection he with e1 _; omega))) hgrow9.size
      have d9 : Conds w9 (some ⟨g2, 0, none⟩) r.conds := d8.kept (fun b2 o2 he => hgrow9.block b2 (by injection he with he; injection he with e1 _; omega) (gY _ (by injection he with he; injection he with e1 _; omega))) hgrow9.size
      have hs9 : w6.heap.size + 1 ≤ w9.heap.size := by have := hgrow9.size; omega
      have r9 : RowR (fun b => (w.heap.size + 3 ≤ b ∧ some b ≠ some g) ∧ b < w9.heap.size) w9 (ps ++ [(⟨r.nums, r.conds, xc, xd⟩, [.slice (some ⟨g1, 0, none⟩) n1 cap1, .slice (some ⟨g2, 0, none⟩) n2 cap2, .int .i64 xc, .int .i64 xd])]) := by
        have hI : ∀ b2, ((w.heap.size + 3 ≤ b2 ∧ some b2 ≠ v1.ownBlock) ∧ b2 < wr.heap.size) → b2 < w9.heap.size → ((w.heap.size + 3 ≤ b2 ∧ some b2 ≠ some g) ∧ b2 < w9.heap.size) := fun b2 hb2 hl2 => ⟨⟨hb2.1.1, fun e => by
          have e' := Option.some.inj e
          rcases hat9 with h | h
          · exact hb2.1.2 (by rw [e', h])
          · have := hb2.2; omega⟩, hl2⟩
        have hJ1 : FromP (fun b2 => (w.heap.size + 3 ≤ b2 ∧ some b2 ≠ some g) ∧ b2 < w9.heap.size) w9 (some ⟨g1, 0, none⟩) := fun b2 o2 s2 he => by
          injection he with he
          injection he with e1 _
          subst e1
          exact ⟨⟨⟨by omega, fun e => hgne g1 (by omega) (by omega) (Option.some.inj e)⟩, by omega⟩, by omega⟩
        have hJ2 : FromP (fun b2 => (w.heap.size + 3 ≤ b2 ∧ some b2 ≠ some g) ∧ b2 < w9.heap.size) w9 (some ⟨g2, 0, none⟩) := fun b2 o2 s2 he => by
          injection he with he
          injection he with e1 _
          subst e1
          exact ⟨⟨⟨by omega, fun e => hgne g2 (by omega) (by omega) (Option.some.inj e)⟩, by omega⟩, by omega⟩
        exact RowR.push ((C8.row.grown hgrow9 (fun b2 hb2 _ => hb2.1.2)).imp hI) ⟨some ⟨g1, 0, none⟩, n1, cap1, some ⟨g2, 0, none⟩, n2, cap2, rfl, HRR.out.1, HRR.out.2.1, n9, d9, hJ1, hJ2, HK1.out⟩
      have HF : Hid (CInv w (w9.setCell ⟨w.heap.size + 1 + 1, 3, none⟩ (.slice (some ⟨g, 0, none⟩) (k + 1) cap9)).heap.size ar ac da (some ⟨b, off, none⟩) n cap (ps ++ [(⟨r.nums, r.conds, xc, xd⟩, [.slice (some ⟨g1, 0, none⟩) n1 cap1, .slice (some ⟨g2, 0, none⟩) n2 cap2, .int .i64 xc, .int .i64 xd])]) (k + 1) (.slice (some ⟨g, 0, none⟩) (k + 1) cap9) (w9.setCell ⟨w.heap.size + 1 + 1, 3, none⟩ (.slice (some ⟨g, 0, none⟩) (k + 1) cap9))) := by
        have hszz : (w9.setCell ⟨w.heap.size + 1 + 1, 3, none⟩ (.slice (some ⟨g, 0, none⟩) (k + 1) cap9)).heap.size = w9.heap.size := World.size_setCell _ _ _
        refine { ext := e9.set (by omega) _ _, box := (C8.box.grown hgrow9 (gB _ (by omega))).other (by omega) _ _, res := (C8.res.grown hgrow9 (gB _ (by omega))).other (by omega) _ _, out := x9.set 3 _, row := ?_, own := ?_, old := fun x hx => ?_, low := by rw [hszz]; omega, high := Nat.le_refl _ }
        · rw [hszz]
          exact r9.set (fun b2 hb2 => by have := hb2.1.1; omega) _ _
        · rw [← flatR_push]
          exact ownsRow_setCell_below hown9 (by show w.heap.size + 1 + 1 < w.heap.size + 3; omega) _
        · rw [hszz]
          simp [Value.ownBlock] at hx
          omega
      have o9 := x9.cell 3 _ rfl
      have f9 := x9.free
      have HPS2 : Hid ((ps ++ [((⟨r.nums, r.conds, xc, xd⟩ : RN), ([.slice (some ⟨g1, 0, none⟩) n1 cap1, .slice (some ⟨g2, 0, none⟩) n2 cap2, .int .i64 xc, .int .i64 xd] : List Value))]).length = k + 1 ∧ ∀ q ∈ ps ++ [((⟨r.nums, r.conds, xc, xd⟩ : RN), ([.slice (some ⟨g1, 0, none⟩) n1 cap1, .slice (some ⟨g2, 0, none⟩) n2 cap2, .int .i64 xc, .int .i64 xd] : List Value))], Small q.1) := by
        refine ⟨by simp [HPS.out.1], fun q hq => ?_⟩
        rcases List.mem_append.1 hq with hq | hq
        · exact HPS.out.2 q hq
        · simp at hq; rw [hq]; exact HRR.out.2.2.2.2
      clear hown9 hgrow9 hat9 n8 d8 hsz8 hv1 gB gY hgne x9 e9 n9 d9 r9 HC8 HW8 q0 q1 q2 q4 f0 o3 fo C8
      go_wp2
      go_roundw
      case rel => exact ⟨k + 1, _, _, by go_num, by omega, HPS2.out.1, HPS2.out.2, HF.out⟩
      case measure => simp [intOf]; omega
    · have hkn : k = n := by omega
      have bk : ¬ ((k : Int) < (n : Int)) := by omega
      obtain ⟨aR, cR, hv⟩ : ∃ aR cR, v1 = .slice aR k cR := by
        rcases HI.out.2.2.own.2 with ⟨hv, h0⟩ | ⟨g, c, cur, hv, _⟩
        · exact ⟨none, 0, by rw [hv, h0]⟩
        · exact ⟨_, c, hv⟩
      subst hv
      obtain ⟨h1, h2, C⟩ := HI.out
      have HF : Hid (ps.length = k ∧ k = n ∧ (∀ q ∈ ps, Small q.1) ∧ wr.ownsRow (w.heap.size + 3) 53 4 (.slice aR k cR) k (flatR ps) ∧ RowR (fun b => w.heap.size + 3 ≤ b ∧ some b ≠ (Value.slice aR k cR).ownBlock) wr ps ∧ Ext w wr) := ⟨h1, hkn, h2, C.own, C.row.imp (fun b hb _ => hb.1), C.ext⟩
      obtain ⟨x0, x1, x2, x3, s0, s1, s2, s3⟩ := (⟨C.out.cell 0 _ rfl, C.out.cell 1 _ rfl, C.out.cell 2 _ rfl, C.out.cell 3 _ rfl, C.res.cell 0 _ rfl, C.res.cell 1 _ rfl, C.res.cell 2 _ rfl, C.res.cell 3 _ rfl⟩ : _ ∧ _ ∧ _ ∧ _ ∧ _ ∧ _ ∧ _ ∧ _)
      have fR := C.res.free
      have hlo := C.low
      have hhi := C.high
      clear h1 h2 C HI hkn
      go_wp2
      refine bodyPost_ret (v := .agg #[.int .i64 ar, .int .i64 ac, .int .i64 da, .slice aR k cR]) (by simp [results, Tryz.results39, go_sem, *]) rfl ?_
      refine ⟨aR, k, cR, rfl, ps, HF.out.1, HF.out.2.1, HF.out.2.2.1, ?_, ?_, ?_⟩
      · exact own_lower (own_set9 (own_set9 (own_set9 (own_set9 HF.out.2.2.2.1 (by omega) _ _) (by omega) _ _) (by omega) _ _) (by omega) _ _) (by omega)
      · exact ((((HF.out.2.2.2.2.1.set (fun b hb => by have := hb.1; omega) _ _).set (fun b hb => by have := hb.1; omega) _ _).set (fun b hb => by have := hb.1; omega) _ _).set (fun b hb => by have := hb.1; omega) _ _).imp (fun b hb _ => ⟨by have := hb.1; omega, hb.2⟩)
      · exact (((HF.out.2.2.2.2.2.set (by omega) _ _).set (by omega) _ _).set (by omega) _ _).set (by omega) _ _

theorem grown_ext {W W' : World} (h : Ext W W') (row : Option Nat) : W.grownBy W' row := ⟨h.os, h.tape, h.output, h.size, fun k hk _ => h.block k hk⟩

theorem AllSmall.push {ps : List (RN × List Value)} (h : AllSmall ps) {r : RN} {l : List Value} (hr : Small r) : AllSmall (ps ++ [(r, l)]) := fun q hq => by
  rcases List.mem_append.1 hq with hq | hq
  · exact h q hq
  · simp at hq; rw [hq]; exact hr

theorem own_rules2 {φ : Nat → Prop} {w : World} {base n : Nat} {v : Value} {ps : List (RN × List Value)} (h : w.ownsRow base 53 4 v n (flatR ps)) (hn : ps.length = n) (hr : RowR φ w ps) (hφ : ∀ b, base ≤ b → v.ownBlock = some b → φ b) : ∃ a cap, v = .slice a n cap ∧ RulesP φ w a (rulesOf ps) := by
  rcases h.2 with ⟨rfl, h0⟩ | ⟨g, cap, cur, rfl, hg, hh, hnc, hcp, hcs, htake⟩
  · subst h0
    refine ⟨none, 0, rfl, ⟨fun b o s e => (by cases e), fun hp => ?_⟩⟩
    simp [rulesOf] at hp
    rw [List.length_eq_zero_iff.1 hn] at hp
    exact absurd hp (by simp)
  · have hlt := (Array.getElem?_eq_some_iff.1 hh).1
    refine ⟨some ⟨g, 0, none⟩, cap, rfl, fun b o s e => by injection e with e; injection e with e1 e2 e3; subst e1; exact ⟨hφ _ hg rfl, hlt⟩, fun hp => ⟨g, 0, rfl, fun j hj => ?_⟩⟩
    have hj' : j < ps.length := by simpa [rulesOf] using hj
    have hq := hr (ps[j]) (List.getElem_mem hj')
    refine ⟨(ps[j]).2, fun i u hu => ?_, by rw [rulesOf_at ps j hj']; exact hq⟩
    have hi : i < 4 := by have h3 := (List.getElem?_eq_some_iff.1 hu).1; have := hq.four; omega
    have e1 := flatR_at ps j i u hj' (fun q hq => (hr q hq).four) hu
    rw [← htake, List.getElem?_take, if_pos (by omega)] at e1
    rw [Nat.zero_add, cell_of_row w g _ cur 53 _ hh]
    simpa using e1

theorem own_rules2S {φ : Nat → Prop} {w : World} {base n c : Nat} {a : Option Addr} {ps : List (RN × List Value)} (h : w.ownsRow base 53 4 (.slice a n c) n (flatR ps)) (hn : ps.length = n) (hr : RowR φ w ps) (hφ : ∀ b, base ≤ b → (Value.slice a n c).ownBlock = some b → φ b) : RulesP φ w a (rulesOf ps) := by
  obtain ⟨a', c', e, h1⟩ := own_rules2 h hn hr hφ
  injection e with e1 e2 e3
  subst e1
  exact h1

/-- Some rules of the slice's, all their memory from block B on. -/
def PolM (B : Nat) (w : World) (a : Option Addr) (n : Nat) : Prop := ∃ rs : List RN, n = rs.length ∧ SmallR rs ∧ RulesP (fun b => B ≤ b) w a rs

theorem PolM.mk {B : Nat} {φ : Nat → Prop} {w : World} {a : Option Addr} {n : Nat} {ps : List (RN × List Value)} (hn : ps.length = n) (hl : n ≤ 1048576) (hs : AllSmall ps) (h : RulesP φ w a (rulesOf ps)) (hφ : ∀ b, φ b → B ≤ b) : PolM B w a n :=
  ⟨rulesOf ps, by simp [rulesOf, hn], AllR.small hs (by omega), h.imp fun b hb _ => hφ b hb⟩

theorem RulesP.alloc {φ : Nat → Prop} {w : World} {a : Option Addr} {rs : List RN} (h : RulesP φ w a rs) (o : Obj) : RulesP φ (w.alloc o) a rs := h.kept (fun b _ hl => Below.heap_alloc _ _ _ hl) (by simp)

theorem RowR.alloc {φ : Nat → Prop} {w : World} {ps : List (RN × List Value)} (h : RowR φ w ps) (o : Obj) : RowR φ (w.alloc o) ps := h.kept (fun b _ hl => Below.heap_alloc _ _ _ hl) (by simp)

/-- Rules of noughts. -/
def zeroR (n : Nat) : List (RN × List Value) := List.replicate n (r0, [.slice none 0 0, .slice none 0 0, .int .i64 0, .int .i64 0])

theorem made_zeroR10 : (madeCells #[.slice none 0 0, .slice none 0 0, .int .i64 0, .int .i64 0] 40).toList = flatR (zeroR 10) := by
  simp [madeCells, flatR, zeroR, List.replicate, List.range, List.range.loop]

theorem made_zeroR11 : (madeCells #[.slice none 0 0, .slice none 0 0, .int .i64 0, .int .i64 0] 44).toList = flatR (zeroR 11) := by
  simp [madeCells, flatR, zeroR, List.replicate, List.range, List.range.loop]

theorem zeroR_row (φ : Nat → Prop) (w : World) (n : Nat) : RowR φ w (zeroR n) := fun q hq => by
  have e := (List.mem_replicate.1 hq).2
  subst e
  exact ⟨none, 0, 0, none, 0, 0, rfl, rfl, rfl, fun hp => absurd hp (by simp [r0]), fun hp => absurd hp (by simp [r0]), fun b o s e => (by cases e), fun b o s e => (by cases e), Nat.le_refl _⟩

theorem zeroR_small (n : Nat) : AllSmall (zeroR n) := fun q hq => by
  have e := (List.mem_replicate.1 hq).2
  subst e
  exact ⟨by simp [r0], by simp [r0]⟩

set_option maxRecDepth 100000 in
set_option maxHeartbeats 6400000 in
theorem any9_any (p : Nat) (a : Option Addr) (len cap : Nat) (w : World) (hC : Cur w p a len cap) :
    Calls Tryz.prog 37 #[.pointer (some ⟨p, 0, none⟩)] w fun e w' => ∃ (ar ac da : Int) (a1 : Option Addr) (n1 c1 : Nat), e = .returned (.agg #[.int .i64 ar, .int .i64 ac, .int .i64 da, .slice a1 n1 c1]) ∧ PolM w.heap.size w' a1 n1 ∧ Cur w' p a len cap ∧ w.grownBy w' (some p) := by
  obtain ⟨i0, hi, hz0, hz1, hz2⟩ := info_parts Tryz.infoRu
  have hp := hC.lt
  have HC : Hid (Cur w p a len cap) := hC
  clear hC
  go_enter Tryz.func37, Tryz.ntmps37
  go_wp2_with fail
  refine (below_any 12 p a len cap _ (HC.out.alloc _) (by omega)).mono ?_
  rintro e w1 ⟨k, hk, _, _, rfl, hc1, hg1⟩
  have hk12 := hk (by omega)
  have r1 := (Blk.new w [.int .i64 0, .int .i64 0, .int .i64 0, .slice none 0 0] 26).grownP hg1 (by omega)
  have HG1 : Hid (w.grownBy w1 (some p)) := grown_trans (grown_alloc (grown_refl w _) _) hg1
  have HC1 : Hid (Cur w1 p a len cap) := hc1
  clear hg1 hc1 hk
  go_wp2_with fail
  refine (below_any 60 p a len cap _ HC1.out (by omega)).mono ?_
  rintro e w2 ⟨y, hy, _, _, rfl, hc2, hg2⟩
  have hy60 := hy (by omega)
  have r2 := r1.grownP hg2 (by omega)
  have HG2 : Hid (w.grownBy w2 (some p)) := grown_trans HG1.out hg2
  have HC2 : Hid (Cur w2 p a len cap) := hc2
  have hs2 := r2.lt
  clear hg2 hc2 hy r1 HG1 HC1
  go_wp2_with fail
  refine (policy_any p a len cap _ HC2.out).mono ?_
  rintro e w3 ⟨pol, a1, n1, c1, ac, da, hpb, hps, rfl, hp1, hp2, hp3, hp4, hrp, hc3, hg3⟩
  have r3 := r2.grownP hg3 (by omega)
  have HG3 : Hid (w.grownBy w3 (some p)) := grown_trans HG2.out hg3
  have HC3 : Hid (Cur w3 p a len cap) := hc3
  have hs3 := r3.lt
  have HRP : Hid (SmallR pol.rules ∧ Rules w3 a1 pol.rules ∧ n1 = pol.rules.length) := ⟨hps, hrp.rules, hp4⟩
  have hn10 : n1 ≤ 10 := by
    have := hpb
    unfold policyB at this
    simp only [Bool.and_eq_true, decide_eq_true_eq] at this
    omega
  clear hg3 hc3 r2 HG2 HC2 hpb hps hp1 hp2 hp3 hp4 hrp
  go_wp2_with fail
  refine (copy_any 62 ac da a1 n1 c1 pol.rules _ HRP.out.2.2 HRP.out.1 HRP.out.2.1).mono ?_
  rintro e w4 ⟨aR, nR, cR, ps, rfl, hlen, hnn, hsm, hown, hrow, x4⟩
  have g4 := grown_trans HG3.out (grown_ext x4 (some p))
  have c4 : Cur w4 p a len cap := HC3.out.kept (grown_ext x4 none) (by simp) (fun _ _ _ _ => by simp)
  have hs4 : w3.heap.size ≤ w4.heap.size := x4.size
  have hp4 := c4.lt
  have hp3 := HC3.out.lt
  have r4 := r3.ext x4
  obtain ⟨s0, s1, s2, s3⟩ := (⟨r4.cell 0 _ rfl, r4.cell 1 _ rfl, r4.cell 2 _ rfl, r4.cell 3 _ rfl⟩ : _ ∧ _ ∧ _ ∧ _)
  have fR := r4.free
  have hRX : w.heap.size < w3.heap.size := by omega
  have hRX4 : w.heap.size < w4.heap.size := by omega
  have hR4 : Hid (Blk w4 w.heap.size [.int .i64 0, .int .i64 0, .int .i64 0, .slice none 0 0] 26) := r4
  have HF : Hid (ps.length = nR ∧ AllSmall ps ∧ RulesP (fun b => w3.heap.size ≤ b) w4 aR (rulesOf ps)) := ⟨hlen, hsm, own_rules2S hown hlen (hrow.imp (fun b hb _ => hb.1)) (fun b hb _ => hb)⟩
  have HCG : Hid (Cur w4 p a len cap ∧ w.grownBy w4 (some p)) := ⟨c4, g4⟩
  have HOW : Hid (w4.ownsRow w3.heap.size 53 4 (.slice aR nR cR) nR (flatR ps) ∧ RowR (fun b => w3.heap.size ≤ b ∧ some b ≠ (Value.slice aR nR cR).ownBlock) w4 ps) := ⟨hown, hrow⟩
  have hnR : nR ≤ 10 := by omega
  clear hlen hnn hsm hown hrow x4 g4 c4 r3 HG3 HC3 HRP r4
  by_cases k0 : (k : Int) = 0
  · have e0 : ((k : Int) == 0) = true := by simpa using k0
    clear k0
    have hy3 : (y : Int) % 3 = 0 ∨ (y : Int) % 3 = 1 ∨ (y : Int) % 3 = 2 := by omega
    rcases hy3 with hy3 | hy3 | hy3
    · go_wp2
      refine bodyPost_ret (v := .agg #[.int .i64 (-1), .int .i64 ac, .int .i64 da, .slice aR nR cR]) (by simp [results, Tryz.results37, go_sem, *]) rfl ⟨_, _, _, _, _, _, rfl, ?_, ?_, ?_⟩
      · exact PolM.mk HF.out.1 (by omega) HF.out.2.1 ((((((HF.out.2.2.set (fun b hb => by have := hb; omega) _ _).set (fun b hb => by have := hb; omega) _ _).set (fun b hb => by have := hb; omega) _ _).set (fun b hb => by have := hb; omega) _ _).alloc _).alloc _) (fun b hb => by have := hb; omega)
      · exact (((((HCG.out.1.store HC.out (by omega) _ _).store HC.out (by omega) _ _).store HC.out (by omega) _ _).store HC.out (by omega) _ _).alloc _).alloc _
      · exact grown_alloc (grown_alloc (grown_store (grown_store (grown_store (grown_store HCG.out.2 (by omega) _ _) (by omega) _ _) (by omega) _ _) (by omega) _ _) _) _
    · go_wp2
      refine bodyPost_ret (v := .agg #[.int .i64 4294967296, .int .i64 ac, .int .i64 da, .slice aR nR cR]) (by simp [results, Tryz.results37, go_sem, *]) rfl ⟨_, _, _, _, _, _, rfl, ?_, ?_, ?_⟩
      · exact PolM.mk HF.out.1 (by omega) HF.out.2.1 ((((((HF.out.2.2.set (fun b hb => by have := hb; omega) _ _).set (fun b hb => by have := hb; omega) _ _).set (fun b hb => by have := hb; omega) _ _).set (fun b hb => by have := hb; omega) _ _).alloc _).alloc _) (fun b hb => by have := hb; omega)
      · exact (((((HCG.out.1.store HC.out (by omega) _ _).store HC.out (by omega) _ _).store HC.out (by omega) _ _).store HC.out (by omega) _ _).alloc _).alloc _
      · exact grown_alloc (grown_alloc (grown_store (grown_store (grown_store (grown_store HCG.out.2 (by omega) _ _) (by omega) _ _) (by omega) _ _) (by omega) _ _) _) _
    · go_wp2
      refine bodyPost_ret (v := .agg #[.int .i64 0, .int .i64 ac, .int .i64 da, .slice aR nR cR]) (by simp [results, Tryz.results37, go_sem, *]) rfl ⟨_, _, _, _, _, _, rfl, ?_, ?_, ?_⟩
      · exact PolM.mk HF.out.1 (by omega) HF.out.2.1 ((((((HF.out.2.2.set (fun b hb => by have := hb; omega) _ _).set (fun b hb => by have := hb; omega) _ _).set (fun b hb => by have := hb; omega) _ _).set (fun b hb => by have := hb; omega) _ _).alloc _).alloc _) (fun b hb => by have := hb; omega)
      · exact (((((HCG.out.1.store HC.out (by omega) _ _).store HC.out (by omega) _ _).store HC.out (by omega) _ _).store HC.out (by omega) _ _).alloc _).alloc _
      · exact grown_alloc (grown_alloc (grown_store (grown_store (grown_store (grown_store HCG.out.2 (by omega) _ _) (by omega) _ _) (by omega) _ _) (by omega) _ _) _) _
  have e0 : ((k : Int) == 0) = false := by simpa using k0
  by_cases k1 : (k : Int) = 1
  · have e1 : ((k : Int) == 1) = true := by simpa using k1
    clear k0 k1
    go_wp2
    refine bodyPost_ret (v := .agg #[.int .i64 62, .int .i64 ((y : Int) % 8), .int .i64 da, .slice aR nR cR]) (by simp [results, Tryz.results37, go_sem, *]) rfl ⟨_, _, _, _, _, _, rfl, ?_, ?_, ?_⟩
    · exact PolM.mk HF.out.1 (by omega) HF.out.2.1 (((((HF.out.2.2.set (fun b hb => by have := hb; omega) _ _).set (fun b hb => by have := hb; omega) _ _).set (fun b hb => by have := hb; omega) _ _).set (fun b hb => by have := hb; omega) _ _).alloc _) (fun b hb => by have := hb; omega)
    · exact ((((HCG.out.1.store HC.out (by omega) _ _).store HC.out (by omega) _ _).store HC.out (by omega) _ _).store HC.out (by omega) _ _).alloc _
    · exact grown_alloc (grown_store (grown_store (grown_store (grown_store HCG.out.2 (by omega) _ _) (by omega) _ _) (by omega) _ _) (by omega) _ _) _
  have e1 : ((k : Int) == 1) = false := by simpa using k1
  by_cases k2 : (k : Int) = 2
  · have e2 : ((k : Int) == 2) = true := by simpa using k2
    clear k0 k1 k2
    obtain ⟨W7, hW7⟩ : ∃ W7, W7 = (((w4.alloc (.cells #[.int .i64 62, .int .i64 ac, .int .i64 da, .slice aR nR cR] 26)).alloc (.cells #[.int .i64 3, .int .i64 2] 3)).alloc (.cells #[.slice (some ⟨w4.heap.size + 1, 0, none⟩) 2 2, .slice none 0 0, .int .i64 0, .int .i64 0] 53)) := ⟨_, rfl⟩
    have x7 : Blk W7 w4.heap.size [.int .i64 62, .int .i64 ac, .int .i64 da, .slice aR nR cR] 26 := by rw [hW7]; exact ((Blk.new w4 _ _).alloc _).alloc _
    have r7 : Blk W7 w.heap.size [.int .i64 0, .int .i64 0, .int .i64 0, .slice none 0 0] 26 := by rw [hW7]; exact ((hR4.out.alloc _).alloc _).alloc _
    have l7 : Blk W7 (w4.heap.size + 1) [.int .i64 3, .int .i64 2] 3 := by rw [hW7]; exact (Blk.newAt _ _ _ _ (by simp)).alloc _
    have t7 : Blk W7 (w4.heap.size + 1 + 1) [.slice (some ⟨w4.heap.size + 1, 0, none⟩) 2 2, .slice none 0 0, .int .i64 0, .int .i64 0] 53 := by rw [hW7]; exact Blk.newAt _ _ _ _ (by simp)
    have o7 : W7.ownsRow w3.heap.size 53 4 (.slice aR nR cR) nR (flatR ps) := by rw [hW7]; exact own_below (own_below (own_below HOW.out.1 (Ext.one _ _)) (Ext.one _ _)) (Ext.one _ _)
    have w7 : RowR (fun b => (w3.heap.size ≤ b ∧ some b ≠ (Value.slice aR nR cR).ownBlock) ∧ b < w4.heap.size) W7 ps := by
      rw [hW7]
      exact (((HOW.out.2.imp (ψ := fun b => (w3.heap.size ≤ b ∧ some b ≠ (Value.slice aR nR cR).ownBlock) ∧ b < w4.heap.size) (fun b hb hl => ⟨hb, hl⟩)).alloc _).alloc _).alloc _
    have c7 : Cur W7 p a len cap := by rw [hW7]; exact ((HCG.out.1.alloc _).alloc _).alloc _
    have g7 : w.grownBy W7 (some p) := by rw [hW7]; exact grown_alloc (grown_alloc (grown_alloc HCG.out.2 _) _) _
    have hsz7 : W7.heap.size = w4.heap.size + 1 + 1 + 1 := by rw [hW7]; simp
    have H7 : Hid (Blk W7 w4.heap.size [.int .i64 62, .int .i64 ac, .int .i64 da, .slice aR nR cR] 26 ∧ Blk W7 w.heap.size [.int .i64 0, .int .i64 0, .int .i64 0, .slice none 0 0] 26 ∧ Blk W7 (w4.heap.size + 1) [.int .i64 3, .int .i64 2] 3 ∧ Blk W7 (w4.heap.size + 1 + 1) [.slice (some ⟨w4.heap.size + 1, 0, none⟩) 2 2, .slice none 0 0, .int .i64 0, .int .i64 0] 53 ∧ W7.ownsRow w3.heap.size 53 4 (.slice aR nR cR) nR (flatR ps) ∧ RowR (fun b => (w3.heap.size ≤ b ∧ some b ≠ (Value.slice aR nR cR).ownBlock) ∧ b < w4.heap.size) W7 ps ∧ Cur W7 p a len cap ∧ w.grownBy W7 (some p) ∧ W7.heap.size = w4.heap.size + 1 + 1 + 1) := ⟨x7, r7, l7, t7, o7, w7, c7, g7, hsz7⟩
    have HW7 : Hid (W7 = (((w4.alloc (.cells #[.int .i64 62, .int .i64 ac, .int .i64 da, .slice aR nR cR] 26)).alloc (.cells #[.int .i64 3, .int .i64 2] 3)).alloc (.cells #[.slice (some ⟨w4.heap.size + 1, 0, none⟩) 2 2, .slice none 0 0, .int .i64 0, .int .i64 0] 53))) := hW7
    have HV : Hid (∀ x, (Value.slice aR nR cR).ownBlock = some x → w3.heap.size ≤ x ∧ x < w4.heap.size) := fun x hx => own_lt9 HOW.out.1 hx
    have hs34 : w3.heap.size ≤ w4.heap.size := hs4
    clear hW7 x7 r7 l7 t7 o7 w7 c7 g7 hsz7
    go_wp2_with (at_builtin; rw [← HW7.out]; refine wpList_append_lies _ rfl _ _ 24 rfl w3.heap.size 53 i0 (.agg #[.slice none 0 0, .slice none 0 0, .int .i64 0, .int .i64 0]) 4 64 Tryz.underlying24 hi hz0 hz1 hz2 rfl (by decide) _ _ _ rfl H7.out.2.2.2.2.1 ⟨w4.heap.size + 1 + 1, 0, none⟩ 1 1 [.slice (some ⟨w4.heap.size + 1, 0, none⟩) 2 2, .slice none 0 0, .int .i64 0, .int .i64 0] rfl rfl ?c1 ?c2 (by omega) ?c3 ?c4 ?c5 (w4.heap.size + 1 + 1 + 1) H7.out.2.2.2.2.2.2.2.2 ?_)
    case c1 => exact fun j u hu => by rw [Addr.add_lit, Nat.zero_add]; exact H7.out.2.2.2.1.cell j u hu
    case c2 => simp [Value.oneCell']
    case c3 => unfold maxLen; omega
    case c4 => omega
    case c5 => have := H7.out.2.2.2.2.2.2.2.2; omega
    intro g cap9 w9 hown9 hgrow9 hat9 hlt9
    obtain ⟨x7, r7, l7, _, _, w7, c7, g7, hsz7⟩ := H7.out
    have gB : ∀ m, m < w3.heap.size → some m ≠ (Value.slice aR nR cR).ownBlock := fun m hm e => by have := (HV.out m e.symm).1; omega
    have gY : ∀ m, w4.heap.size ≤ m → some m ≠ (Value.slice aR nR cR).ownBlock := fun m hm e => by have := (HV.out m e.symm).2; omega
    have x9 := x7.grown hgrow9 (gY _ (Nat.le_refl _))
    have r9 := r7.grown hgrow9 (gB _ (by omega))
    have l9 := l7.grown hgrow9 (gY _ (by omega))
    have c9 : Cur w9 p a len cap := c7.kept hgrow9 (fun e => gB p (by omega) e.symm) (fun b off e hl => fun e2 => gB b (by have := HC.out.code b off e hl; omega) e2.symm)
    have g9 : w.grownBy w9 (some p) := grown_own g7 hgrow9 (fun x hx => by have := (HV.out x hx).1; omega)
    have hs9 : w4.heap.size + 1 + 1 + 1 ≤ w9.heap.size := by have := hgrow9.size; omega
    have hold : RowR (fun b => w3.heap.size ≤ b ∧ b ≠ w4.heap.size) w9 ps := (w7.grown hgrow9 (fun b hb _ => hb.1.2)).imp (fun b hb _ => ⟨hb.1.1, by have := hb.2; omega⟩)
    have hnew : RuleP (fun b => w3.heap.size ≤ b ∧ b ≠ w4.heap.size) w9 (⟨[3, 2], [], 0, 0⟩ : RN) [.slice (some ⟨w4.heap.size + 1, 0, none⟩) 2 2, .slice none 0 0, .int .i64 0, .int .i64 0] := ⟨some ⟨w4.heap.size + 1, 0, none⟩, 2, 2, none, 0, 0, rfl, rfl, rfl, fun _ => ⟨w4.heap.size + 1, 0, rfl, by omega, fun j hj => by
      have h2 : j = 0 ∨ j = 1 := by simp at hj; omega
      rcases h2 with rfl | rfl
      · exact l9.cell 0 _ rfl
      · exact l9.cell 1 _ rfl⟩, fun hp => absurd hp (by simp), fun b o s e => by injection e with e; injection e with e1 _; subst e1; exact ⟨⟨by omega, by omega⟩, by omega⟩, fun b o s e => (by cases e), Nat.le_refl _⟩
    have hrow9 : RowR (fun b => w3.heap.size ≤ b ∧ b ≠ w4.heap.size) w9 (ps ++ [((⟨[3, 2], [], 0, 0⟩ : RN), ([.slice (some ⟨w4.heap.size + 1, 0, none⟩) 2 2, .slice none 0 0, .int .i64 0, .int .i64 0] : List Value))]) := RowR.push hold hnew
    rw [flatR_push ps (⟨[3, 2], [], 0, 0⟩ : RN)] at hown9
    have hrp9 := own_rules2S hown9 (by simp [HF.out.1]) hrow9 (fun b hb e => ⟨hb, by
      simp [Value.ownBlock] at e
      rcases hat9 with h | h
      · have := (HV.out g h).2; omega
      · omega⟩)
    have H9 : Hid ((ps ++ [((⟨[3, 2], [], 0, 0⟩ : RN), ([.slice (some ⟨w4.heap.size + 1, 0, none⟩) 2 2, .slice none 0 0, .int .i64 0, .int .i64 0] : List Value))]).length = nR + 1 ∧ AllSmall (ps ++ [((⟨[3, 2], [], 0, 0⟩ : RN), ([.slice (some ⟨w4.heap.size + 1, 0, none⟩) 2 2, .slice none 0 0, .int .i64 0, .int .i64 0] : List Value))]) ∧ RulesP (fun b => w3.heap.size ≤ b ∧ b ≠ w4.heap.size) w9 (some ⟨g, 0, none⟩) (rulesOf (ps ++ [((⟨[3, 2], [], 0, 0⟩ : RN), ([.slice (some ⟨w4.heap.size + 1, 0, none⟩) 2 2, .slice none 0 0, .int .i64 0, .int .i64 0] : List Value))])) ∧ Cur w9 p a len cap ∧ w.grownBy w9 (some p)) := ⟨by simp [HF.out.1], HF.out.2.1.push (by refine ⟨?_, ?_⟩ <;> simp), hrp9, c9, g9⟩
    clear s0 s1 s2 s3 fR
    obtain ⟨s0, s1, s2, s3, q0, q1, q2, q3⟩ := (⟨r9.cell 0 _ rfl, r9.cell 1 _ rfl, r9.cell 2 _ rfl, r9.cell 3 _ rfl, x9.cell 0 _ rfl, x9.cell 1 _ rfl, x9.cell 2 _ rfl, x9.cell 3 _ rfl⟩ : _ ∧ _ ∧ _ ∧ _ ∧ _ ∧ _ ∧ _ ∧ _)
    have fR := r9.free
    have fX := x9.free
    have hne : w.heap.size ≠ w4.heap.size := by omega
    clear hown9 hgrow9 hat9 x7 r7 l7 w7 c7 g7 hsz7 gB gY x9 r9 l9 c9 g9 hold hnew hrow9 hrp9 H7 HW7
    go_wp2
    refine bodyPost_ret (v := .agg #[.int .i64 62, .int .i64 ac, .int .i64 da, .slice (some ⟨g, 0, none⟩) (nR + 1) cap9]) (by simp [results, Tryz.results37, go_sem, *]) rfl ⟨_, _, _, _, _, _, rfl, ?_, ?_, ?_⟩
    · exact PolM.mk H9.out.1 (by omega) H9.out.2.1 (((((H9.out.2.2.1.set (fun b hb => hb.2) _ _).set (fun b hb => by have := hb.1; omega) _ _).set (fun b hb => by have := hb.1; omega) _ _).set (fun b hb => by have := hb.1; omega) _ _).set (fun b hb => by have := hb.1; omega) _ _) (fun b hb => by have := hb.1; omega)
    · exact ((((H9.out.2.2.2.1.store HC.out (by omega) _ _).store HC.out (by omega) _ _).store HC.out (by omega) _ _).store HC.out (by omega) _ _).store HC.out (by omega) _ _
    · exact grown_store (grown_store (grown_store (grown_store (grown_store H9.out.2.2.2.2 (by omega) _ _) (by omega) _ _) (by omega) _ _) (by omega) _ _) (by omega) _ _
  have e2 : ((k : Int) == 2) = false := by simpa using k2
  by_cases k3 : (k : Int) = 3
  · have e3 : ((k : Int) == 3) = true := by simpa using k3
    clear k0 k1 k2 k3
    obtain ⟨W7, hW7⟩ : ∃ W7, W7 = (((w4.alloc (.cells #[.int .i64 62, .int .i64 ac, .int .i64 da, .slice aR nR cR] 26)).alloc (.cells #[.int .i64 ((y : Int) % 5), .int .i64 0, .int .i64 0, .int .i64 ((y : Int) % 8), .int .i64 0, .int .i64 0] 78)).alloc (.cells #[.slice none 0 0, .slice (some ⟨w4.heap.size + 1, 0, none⟩) 1 1, .int .i64 0, .int .i64 0] 53)) := ⟨_, rfl⟩
    have x7 : Blk W7 w4.heap.size [.int .i64 62, .int .i64 ac, .int .i64 da, .slice aR nR cR] 26 := by rw [hW7]; exact ((Blk.new w4 _ _).alloc _).alloc _
    have r7 : Blk W7 w.heap.size [.int .i64 0, .int .i64 0, .int .i64 0, .slice none 0 0] 26 := by rw [hW7]; exact ((hR4.out.alloc _).alloc _).alloc _
    have l7 : Blk W7 (w4.heap.size + 1) [.int .i64 ((y : Int) % 5), .int .i64 0, .int .i64 0, .int .i64 ((y : Int) % 8), .int .i64 0, .int .i64 0] 78 := by rw [hW7]; exact (Blk.newAt _ _ _ _ (by simp)).alloc _
    have t7 : Blk W7 (w4.heap.size + 1 + 1) [.slice none 0 0, .slice (some ⟨w4.heap.size + 1, 0, none⟩) 1 1, .int .i64 0, .int .i64 0] 53 := by rw [hW7]; exact Blk.newAt _ _ _ _ (by simp)
    have o7 : W7.ownsRow w3.heap.size 53 4 (.slice aR nR cR) nR (flatR ps) := by rw [hW7]; exact own_below (own_below (own_below HOW.out.1 (Ext.one _ _)) (Ext.one _ _)) (Ext.one _ _)
    have w7 : RowR (fun b => (w3.heap.size ≤ b ∧ some b ≠ (Value.slice aR nR cR).ownBlock) ∧ b < w4.heap.size) W7 ps := by
      rw [hW7]
      exact (((HOW.out.2.imp (ψ := fun b => (w3.heap.size ≤ b ∧ some b ≠ (Value.slice aR nR cR).ownBlock) ∧ b < w4.heap.size) (fun b hb hl => ⟨hb, hl⟩)).alloc _).alloc _).alloc _
    have c7 : Cur W7 p a len cap := by rw [hW7]; exact ((HCG.out.1.alloc _).alloc _).alloc _
    have g7 : w.grownBy W7 (some p) := by rw [hW7]; exact grown_alloc (grown_alloc (grown_alloc HCG.out.2 _) _) _
    have hsz7 : W7.heap.size = w4.heap.size + 1 + 1 + 1 := by rw [hW7]; simp
    have H7 : Hid (Blk W7 w4.heap.size [.int .i64 62, .int .i64 ac, .int .i64 da, .slice aR nR cR] 26 ∧ Blk W7 w.heap.size [.int .i64 0, .int .i64 0, .int .i64 0, .slice none 0 0] 26 ∧ Blk W7 (w4.heap.size + 1) [.int .i64 ((y : Int) % 5), .int .i64 0, .int .i64 0, .int .i64 ((y : Int) % 8), .int .i64 0, .int .i64 0] 78 ∧ Blk W7 (w4.heap.size + 1 + 1) [.slice none 0 0, .slice (some ⟨w4.heap.size + 1, 0, none⟩) 1 1, .int .i64 0, .int .i64 0] 53 ∧ W7.ownsRow w3.heap.size 53 4 (.slice aR nR cR) nR (flatR ps) ∧ RowR (fun b => (w3.heap.size ≤ b ∧ some b ≠ (Value.slice aR nR cR).ownBlock) ∧ b < w4.heap.size) W7 ps ∧ Cur W7 p a len cap ∧ w.grownBy W7 (some p) ∧ W7.heap.size = w4.heap.size + 1 + 1 + 1) := ⟨x7, r7, l7, t7, o7, w7, c7, g7, hsz7⟩
    have HW7 : Hid (W7 = (((w4.alloc (.cells #[.int .i64 62, .int .i64 ac, .int .i64 da, .slice aR nR cR] 26)).alloc (.cells #[.int .i64 ((y : Int) % 5), .int .i64 0, .int .i64 0, .int .i64 ((y : Int) % 8), .int .i64 0, .int .i64 0] 78)).alloc (.cells #[.slice none 0 0, .slice (some ⟨w4.heap.size + 1, 0, none⟩) 1 1, .int .i64 0, .int .i64 0] 53))) := hW7
    have HV : Hid (∀ x, (Value.slice aR nR cR).ownBlock = some x → w3.heap.size ≤ x ∧ x < w4.heap.size) := fun x hx => own_lt9 HOW.out.1 hx
    have hs34 : w3.heap.size ≤ w4.heap.size := hs4
    clear hW7 x7 r7 l7 t7 o7 w7 c7 g7 hsz7
    go_wp2_with (at_builtin; rw [← HW7.out]; refine wpList_append_lies _ rfl _ _ 24 rfl w3.heap.size 53 i0 (.agg #[.slice none 0 0, .slice none 0 0, .int .i64 0, .int .i64 0]) 4 64 Tryz.underlying24 hi hz0 hz1 hz2 rfl (by decide) _ _ _ rfl H7.out.2.2.2.2.1 ⟨w4.heap.size + 1 + 1, 0, none⟩ 1 1 [.slice none 0 0, .slice (some ⟨w4.heap.size + 1, 0, none⟩) 1 1, .int .i64 0, .int .i64 0] rfl rfl ?c1 ?c2 (by omega) ?c3 ?c4 ?c5 (w4.heap.size + 1 + 1 + 1) H7.out.2.2.2.2.2.2.2.2 ?_)
    case c1 => exact fun j u hu => by rw [Addr.add_lit, Nat.zero_add]; exact H7.out.2.2.2.1.cell j u hu
    case c2 => simp [Value.oneCell']
    case c3 => unfold maxLen; omega
    case c4 => omega
    case c5 => have := H7.out.2.2.2.2.2.2.2.2; omega
    intro g cap9 w9 hown9 hgrow9 hat9 hlt9
    obtain ⟨x7, r7, l7, _, _, w7, c7, g7, hsz7⟩ := H7.out
    have gB : ∀ m, m < w3.heap.size → some m ≠ (Value.slice aR nR cR).ownBlock := fun m hm e => by have := (HV.out m e.symm).1; omega
    have gY : ∀ m, w4.heap.size ≤ m → some m ≠ (Value.slice aR nR cR).ownBlock := fun m hm e => by have := (HV.out m e.symm).2; omega
    have x9 := x7.grown hgrow9 (gY _ (Nat.le_refl _))
    have r9 := r7.grown hgrow9 (gB _ (by omega))
    have l9 := l7.grown hgrow9 (gY _ (by omega))
    have c9 : Cur w9 p a len cap := c7.kept hgrow9 (fun e => gB p (by omega) e.symm) (fun b off e hl => fun e2 => gB b (by have := HC.out.code b off e hl; omega) e2.symm)
    have g9 : w.grownBy w9 (some p) := grown_own g7 hgrow9 (fun x hx => by have := (HV.out x hx).1; omega)
    have hs9 : w4.heap.size + 1 + 1 + 1 ≤ w9.heap.size := by have := hgrow9.size; omega
    have hold : RowR (fun b => w3.heap.size ≤ b ∧ b ≠ w4.heap.size) w9 ps := (w7.grown hgrow9 (fun b hb _ => hb.1.2)).imp (fun b hb _ => ⟨hb.1.1, by have := hb.2; omega⟩)
    have hnew : RuleP (fun b => w3.heap.size ≤ b ∧ b ≠ w4.heap.size) w9 (⟨[], [⟨(y : Int) % 5, 0, 0, (y : Int) % 8, 0, 0⟩], 0, 0⟩ : RN) [.slice none 0 0, .slice (some ⟨w4.heap.size + 1, 0, none⟩) 1 1, .int .i64 0, .int .i64 0] := ⟨none, 0, 0, some ⟨w4.heap.size + 1, 0, none⟩, 1, 1, rfl, rfl, rfl, fun hp => absurd hp (by simp), fun _ => ⟨w4.heap.size + 1, 0, rfl, by omega, fun j hj => by
      have h2 : j = 0 := by simp at hj; omega
      subst h2
      intro i v hv
      rw [show 0 + 0 * 6 + i = i by omega]
      exact l9.cell i v hv⟩, fun b o s e => (by cases e), (fun b o s e => by injection e with e; injection e with e1 _; subst e1; exact ⟨⟨by omega, by omega⟩, by omega⟩), Nat.le_refl _⟩
    have hrow9 : RowR (fun b => w3.heap.size ≤ b ∧ b ≠ w4.heap.size) w9 (ps ++ [((⟨[], [⟨(y : Int) % 5, 0, 0, (y : Int) % 8, 0, 0⟩], 0, 0⟩ : RN), ([.slice none 0 0, .slice (some ⟨w4.heap.size + 1, 0, none⟩) 1 1, .int .i64 0, .int .i64 0] : List Value))]) := RowR.push hold hnew
    rw [flatR_push ps (⟨[], [⟨(y : Int) % 5, 0, 0, (y : Int) % 8, 0, 0⟩], 0, 0⟩ : RN)] at hown9
    have hrp9 := own_rules2S hown9 (by simp [HF.out.1]) hrow9 (fun b hb e => ⟨hb, by
      simp [Value.ownBlock] at e
      rcases hat9 with h | h
      · have := (HV.out g h).2; omega
      · omega⟩)
    have H9 : Hid ((ps ++ [((⟨[], [⟨(y : Int) % 5, 0, 0, (y : Int) % 8, 0, 0⟩], 0, 0⟩ : RN), ([.slice none 0 0, .slice (some ⟨w4.heap.size + 1, 0, none⟩) 1 1, .int .i64 0, .int .i64 0] : List Value))]).length = nR + 1 ∧ AllSmall (ps ++ [((⟨[], [⟨(y : Int) % 5, 0, 0, (y : Int) % 8, 0, 0⟩], 0, 0⟩ : RN), ([.slice none 0 0, .slice (some ⟨w4.heap.size + 1, 0, none⟩) 1 1, .int .i64 0, .int .i64 0] : List Value))]) ∧ RulesP (fun b => w3.heap.size ≤ b ∧ b ≠ w4.heap.size) w9 (some ⟨g, 0, none⟩) (rulesOf (ps ++ [((⟨[], [⟨(y : Int) % 5, 0, 0, (y : Int) % 8, 0, 0⟩], 0, 0⟩ : RN), ([.slice none 0 0, .slice (some ⟨w4.heap.size + 1, 0, none⟩) 1 1, .int .i64 0, .int .i64 0] : List Value))])) ∧ Cur w9 p a len cap ∧ w.grownBy w9 (some p)) := ⟨by simp [HF.out.1], HF.out.2.1.push (by refine ⟨?_, ?_⟩ <;> simp), hrp9, c9, g9⟩
    clear s0 s1 s2 s3 fR
    obtain ⟨s0, s1, s2, s3, q0, q1, q2, q3⟩ := (⟨r9.cell 0 _ rfl, r9.cell 1 _ rfl, r9.cell 2 _ rfl, r9.cell 3 _ rfl, x9.cell 0 _ rfl, x9.cell 1 _ rfl, x9.cell 2 _ rfl, x9.cell 3 _ rfl⟩ : _ ∧ _ ∧ _ ∧ _ ∧ _ ∧ _ ∧ _ ∧ _)
    have fR := r9.free
    have fX := x9.free
    have hne : w.heap.size ≠ w4.heap.size := by omega
    clear hown9 hgrow9 hat9 x7 r7 l7 w7 c7 g7 hsz7 gB gY x9 r9 l9 c9 g9 hold hnew hrow9 hrp9 H7 HW7
    go_wp2
    refine bodyPost_ret (v := .agg #[.int .i64 62, .int .i64 ac, .int .i64 da, .slice (some ⟨g, 0, none⟩) (nR + 1) cap9]) (by simp [results, Tryz.results37, go_sem, *]) rfl ⟨_, _, _, _, _, _, rfl, ?_, ?_, ?_⟩
    · exact PolM.mk H9.out.1 (by omega) H9.out.2.1 (((((H9.out.2.2.1.set (fun b hb => hb.2) _ _).set (fun b hb => by have := hb.1; omega) _ _).set (fun b hb => by have := hb.1; omega) _ _).set (fun b hb => by have := hb.1; omega) _ _).set (fun b hb => by have := hb.1; omega) _ _) (fun b hb => by have := hb.1; omega)
    · exact ((((H9.out.2.2.2.1.store HC.out (by omega) _ _).store HC.out (by omega) _ _).store HC.out (by omega) _ _).store HC.out (by omega) _ _).store HC.out (by omega) _ _
    · exact grown_store (grown_store (grown_store (grown_store (grown_store H9.out.2.2.2.2 (by omega) _ _) (by omega) _ _) (by omega) _ _) (by omega) _ _) (by omega) _ _
  have e3 : ((k : Int) == 3) = false := by simpa using k3
  by_cases k4 : (k : Int) = 4
  · have e4 : ((k : Int) == 4) = true := by simpa using k4
    clear k0 k1 k2 k3 k4
    have hy2 : (y : Int) % 2 = 0 ∨ (y : Int) % 2 = 1 := by omega
    rcases hy2 with hy2 | hy2
    · go_wp2_with (at_make; refine wpList_make_full _ rfl _ _ 24 rfl w4.heap.size 53 i0 (.agg #[.slice none 0 0, .slice none 0 0, .int .i64 0, .int .i64 0]) 4 Tryz.underlying24 hi hz0 hz1 _ _ _ _ 10 rfl rfl (by omega) (by omega) (by rw [hz2]; omega) (by unfold maxLen; omega) (by simp) ?_)
      intro w0 hown0 hgrow0
      have o0 : w0.ownsRow w4.heap.size 53 4 (.slice (some ⟨w4.heap.size + 1, 0, none⟩) 10 10) 10 (flatR (zeroR 10)) := by rw [← made_zeroR10]; exact hown0
      have x9 := (Blk.new w4 [.int .i64 62, .int .i64 ac, .int .i64 da, .slice aR nR cR] 26).grown hgrow0 (by simp)
      have r9 := (hR4.out.alloc (.cells #[.int .i64 62, .int .i64 ac, .int .i64 da, .slice aR nR cR] 26)).grown hgrow0 (by simp)
      have c9 : Cur w0 p a len cap := (HCG.out.1.alloc _).kept hgrow0 (by simp) (fun _ _ _ _ => by simp)
      have g9 : w.grownBy w0 (some p) := grown_own (grown_alloc HCG.out.2 _) hgrow0 (fun x hx => by cases hx)
      have hs9 : w4.heap.size + 1 ≤ w0.heap.size := by have := hgrow0.size; simpa using this
      have hrp9 := own_rules2S o0 (by simp [zeroR]) (zeroR_row (fun b => w3.heap.size ≤ b ∧ b ≠ w4.heap.size) w0 10) (fun b hb e => ⟨by omega, by simp [Value.ownBlock] at e; omega⟩)
      have H9 : Hid ((zeroR 10).length = 10 ∧ AllSmall (zeroR 10) ∧ RulesP (fun b => w3.heap.size ≤ b ∧ b ≠ w4.heap.size) w0 (some ⟨w4.heap.size + 1, 0, none⟩) (rulesOf (zeroR 10)) ∧ Cur w0 p a len cap ∧ w.grownBy w0 (some p)) := ⟨by simp [zeroR], zeroR_small 10, hrp9, c9, g9⟩
      clear s0 s1 s2 s3 fR
      obtain ⟨s0, s1, s2, s3, q0, q1, q2, q3⟩ := (⟨r9.cell 0 _ rfl, r9.cell 1 _ rfl, r9.cell 2 _ rfl, r9.cell 3 _ rfl, x9.cell 0 _ rfl, x9.cell 1 _ rfl, x9.cell 2 _ rfl, x9.cell 3 _ rfl⟩ : _ ∧ _ ∧ _ ∧ _ ∧ _ ∧ _ ∧ _ ∧ _)
      have fR := r9.free
      have fX := x9.free
      have hne : w.heap.size ≠ w4.heap.size := by omega
      clear hown0 hgrow0 o0 x9 r9 c9 g9 hrp9
      go_wp2
      refine bodyPost_ret (v := .agg #[.int .i64 62, .int .i64 ac, .int .i64 da, .slice (some ⟨w4.heap.size + 1, 0, none⟩) 10 10]) (by simp [results, Tryz.results37, go_sem, *]) rfl ⟨_, _, _, _, _, _, rfl, ?_, ?_, ?_⟩
      · exact PolM.mk H9.out.1 (by omega) H9.out.2.1 (((((H9.out.2.2.1.set (fun b hb => hb.2) _ _).set (fun b hb => by have := hb.1; omega) _ _).set (fun b hb => by have := hb.1; omega) _ _).set (fun b hb => by have := hb.1; omega) _ _).set (fun b hb => by have := hb.1; omega) _ _) (fun b hb => by have := hb.1; omega)
      · exact ((((H9.out.2.2.2.1.store HC.out (by omega) _ _).store HC.out (by omega) _ _).store HC.out (by omega) _ _).store HC.out (by omega) _ _).store HC.out (by omega) _ _
      · exact grown_store (grown_store (grown_store (grown_store (grown_store H9.out.2.2.2.2 (by omega) _ _) (by omega) _ _) (by omega) _ _) (by omega) _ _) (by omega) _ _
    · go_wp2_with (at_make; refine wpList_make_full _ rfl _ _ 24 rfl w4.heap.size 53 i0 (.agg #[.slice none 0 0, .slice none 0 0, .int .i64 0, .int .i64 0]) 4 Tryz.underlying24 hi hz0 hz1 _ _ _ _ 11 rfl rfl (by omega) (by omega) (by rw [hz2]; omega) (by unfold maxLen; omega) (by simp) ?_)
      intro w0 hown0 hgrow0
      have o0 : w0.ownsRow w4.heap.size 53 4 (.slice (some ⟨w4.heap.size + 1, 0, none⟩) 11 11) 11 (flatR (zeroR 11)) := by rw [← made_zeroR11]; exact hown0
      have x9 := (Blk.new w4 [.int .i64 62, .int .i64 ac, .int .i64 da, .slice aR nR cR] 26).grown hgrow0 (by simp)
      have r9 := (hR4.out.alloc (.cells #[.int .i64 62, .int .i64 ac, .int .i64 da, .slice aR nR cR] 26)).grown hgrow0 (by simp)
      have c9 : Cur w0 p a len cap := (HCG.out.1.alloc _).kept hgrow0 (by simp) (fun _ _ _ _ => by simp)
      have g9 : w.grownBy w0 (some p) := grown_own (grown_alloc HCG.out.2 _) hgrow0 (fun x hx => by cases hx)
      have hs9 : w4.heap.size + 1 ≤ w0.heap.size := by have := hgrow0.size; simpa using this
      have hrp9 := own_rules2S o0 (by simp [zeroR]) (zeroR_row (fun b => w3.heap.size ≤ b ∧ b ≠ w4.heap.size) w0 11) (fun b hb e => ⟨by omega, by simp [Value.ownBlock] at e; omega⟩)
      have H9 : Hid ((zeroR 11).length = 11 ∧ AllSmall (zeroR 11) ∧ RulesP (fun b => w3.heap.size ≤ b ∧ b ≠ w4.heap.size) w0 (some ⟨w4.heap.size + 1, 0, none⟩) (rulesOf (zeroR 11)) ∧ Cur w0 p a len cap ∧ w.grownBy w0 (some p)) := ⟨by simp [zeroR], zeroR_small 11, hrp9, c9, g9⟩
      clear s0 s1 s2 s3 fR
      obtain ⟨s0, s1, s2, s3, q0, q1, q2, q3⟩ := (⟨r9.cell 0 _ rfl, r9.cell 1 _ rfl, r9.cell 2 _ rfl, r9.cell 3 _ rfl, x9.cell 0 _ rfl, x9.cell 1 _ rfl, x9.cell 2 _ rfl, x9.cell 3 _ rfl⟩ : _ ∧ _ ∧ _ ∧ _ ∧ _ ∧ _ ∧ _ ∧ _)
      have fR := r9.free
      have fX := x9.free
      have hne : w.heap.size ≠ w4.heap.size := by omega
      clear hown0 hgrow0 o0 x9 r9 c9 g9 hrp9
      go_wp2
      refine bodyPost_ret (v := .agg #[.int .i64 62, .int .i64 ac, .int .i64 da, .slice (some ⟨w4.heap.size + 1, 0, none⟩) 11 11]) (by simp [results, Tryz.results37, go_sem, *]) rfl ⟨_, _, _, _, _, _, rfl, ?_, ?_, ?_⟩
      · exact PolM.mk H9.out.1 (by omega) H9.out.2.1 (((((H9.out.2.2.1.set (fun b hb => hb.2) _ _).set (fun b hb => by have := hb.1; omega) _ _).set (fun b hb => by have := hb.1; omega) _ _).set (fun b hb => by have := hb.1; omega) _ _).set (fun b hb => by have := hb.1; omega) _ _) (fun b hb => by have := hb.1; omega)
      · exact ((((H9.out.2.2.2.1.store HC.out (by omega) _ _).store HC.out (by omega) _ _).store HC.out (by omega) _ _).store HC.out (by omega) _ _).store HC.out (by omega) _ _
      · exact grown_store (grown_store (grown_store (grown_store (grown_store H9.out.2.2.2.2 (by omega) _ _) (by omega) _ _) (by omega) _ _) (by omega) _ _) (by omega) _ _
  have e4 : ((k : Int) == 4) = false := by simpa using k4
  by_cases k5 : (k : Int) = 5
  · have e5 : ((k : Int) == 5) = true := by simpa using k5
    clear k0 k1 k2 k3 k4 k5
    go_wp2
    refine bodyPost_ret (v := .agg #[.int .i64 62, .int .i64 ac, .int .i64 65536, .slice aR nR cR]) (by simp [results, Tryz.results37, go_sem, *]) rfl ⟨_, _, _, _, _, _, rfl, ?_, ?_, ?_⟩
    · exact PolM.mk HF.out.1 (by omega) HF.out.2.1 (((((HF.out.2.2.set (fun b hb => by have := hb; omega) _ _).set (fun b hb => by have := hb; omega) _ _).set (fun b hb => by have := hb; omega) _ _).set (fun b hb => by have := hb; omega) _ _).alloc _) (fun b hb => by have := hb; omega)
    · exact ((((HCG.out.1.store HC.out (by omega) _ _).store HC.out (by omega) _ _).store HC.out (by omega) _ _).store HC.out (by omega) _ _).alloc _
    · exact grown_alloc (grown_store (grown_store (grown_store (grown_store HCG.out.2 (by omega) _ _) (by omega) _ _) (by omega) _ _) (by omega) _ _) _
  have e5 : ((k : Int) == 5) = false := by simpa using k5
  clear k0 k1 k2 k3 k4 k5
  go_wp2
  refine bodyPost_ret (v := .agg #[.int .i64 62, .int .i64 ac, .int .i64 da, .slice aR nR cR]) (by simp [results, Tryz.results37, go_sem, *]) rfl ⟨_, _, _, _, _, _, rfl, ?_, ?_, ?_⟩
  · exact PolM.mk HF.out.1 (by omega) HF.out.2.1 (((((HF.out.2.2.set (fun b hb => by have := hb; omega) _ _).set (fun b hb => by have := hb; omega) _ _).set (fun b hb => by have := hb; omega) _ _).set (fun b hb => by have := hb; omega) _ _).alloc _) (fun b hb => by have := hb; omega)
  · exact ((((HCG.out.1.store HC.out (by omega) _ _).store HC.out (by omega) _ _).store HC.out (by omega) _ _).store HC.out (by omega) _ _).alloc _
  · exact grown_alloc (grown_store (grown_store (grown_store (grown_store HCG.out.2 (by omega) _ _) (by omega) _ _) (by omega) _ _) (by omega) _ _) _

theorem ext_new {w w1 w2 : World} (h : Ext w w1) {p : Nat} (hp : w.heap.size ≤ p) (hg : w1.grownBy w2 (some p)) : Ext w w2 := h.grown hg h.size (fun k hk => by have := Option.some.inj hk; omega)

theorem PolM.kept {B : Nat} {w w' : World} {a : Option Addr} {n : Nat} (h : PolM B w a n) (hb : ∀ b, B ≤ b → b < w.heap.size → w'.heap[b]? = w.heap[b]?) (hs : w.heap.size ≤ w'.heap.size) : PolM B w' a n := by
  obtain ⟨rs, h1, h2, h3⟩ := h
  exact ⟨rs, h1, h2, h3.kept hb hs⟩

theorem PolM.lower {B C : Nat} {w : World} {a : Option Addr} {n : Nat} (hC : C ≤ B) (h : PolM B w a n) : PolM C w a n := by
  obtain ⟨rs, h1, h2, h3⟩ := h
  exact ⟨rs, h1, h2, h3.imp (fun b hb _ => by omega)⟩

theorem ext_of_none {W W' : World} (h : W.grownBy W' none) : Ext W W' := ⟨h.os, h.tape, h.output, h.size, fun k hk => h.block k hk (by simp)⟩

theorem PolM.set {B : Nat} {w : World} {a : Option Addr} {n : Nat} (h : PolM B w a n) {k : Nat} (hk : k < B) (i : Nat) (v : Value) : PolM B (w.setCell ⟨k, i, none⟩ v) a n :=
  h.kept (fun b h1 _ => Below.heap_setCell _ _ _ _ (by show b ≠ k; omega)) (by rw [World.size_setCell]; exact Nat.le_refl _)

/-- A right policy of arch 62. -/
theorem RulesP.rulesC {φ : Nat → Prop} {w : World} {a : Option Addr} {rs : List RN} (h : RulesP φ w a rs) : RulesC w a rs := by
  refine ⟨h.rules, fun b off j x n c ha hj hc => ?_⟩
  obtain ⟨b', off', e, hx⟩ := h.2 (by omega)
  rw [ha] at e
  injection e with e
  injection e with e1 e2
  subst e1 e2
  obtain ⟨l, s1, a1, n1, c1, a2, n2, c2, rfl, _, _, _, _, _, _, hk⟩ := hx j hj
  have := s1 0 _ rfl
  rw [Nat.add_zero, hc] at this
  injection this with this
  injection this with i1 i2 i3
  omega

def RightPol (w : World) (ac da : Int) (a : Option Addr) (n : Nat) : Prop := ∃ pol : PN, policyB pol = true ∧ SmallR pol.rules ∧ pol.arch = 62 ∧ pol.act = ac ∧ pol.data = da ∧ n = pol.rules.length ∧ RulesC w a pol.rules

def RightCall (w : World) (arch num : Int) (a : Option Addr) (n : Nat) : Prop := ∃ ws : List (Int × Int), callB arch num ws = true ∧ n = ws.length ∧ Wides w a ws

set_option maxRecDepth 100000 in
set_option maxHeartbeats 4000000 in
theorem drawPolicy_any (a : Option Addr) (len cap : Nat) (w : World) (hC : Came w a len) :
    Calls Tryz.prog 6 #[.slice a len cap] w fun e w' => ∃ (a1 : Option Addr) (n1 c1 : Nat) (ac da arch num : Int) (ca : Option Addr) (m1 cc : Nat), e = .returned (.tuple #[.agg #[.int .i64 62, .int .i64 ac, .int .i64 da, .slice a1 n1 c1], .agg #[.int .i64 arch, .int .i64 num, .slice ca m1 cc]]) ∧ RightPol w' ac da a1 n1 ∧ RightCall w' arch num ca m1 ∧ Ext w w' := by
  have HC : Hid (Came w a len) := hC
  clear hC
  go_enter Tryz.func6, Tryz.ntmps6
  go_wp2_with fail
  refine (new_any a len cap _ (HC.out.below ((Ext.one _ _).alloc _))).mono ?_
  rintro e w1 ⟨rfl, hc1, hb1⟩
  have r1 := ((Blk.new w [.int .i64 0, .int .i64 0, .int .i64 0, .slice none 0 0] 26).alloc (.cells #[.int .i64 0, .int .i64 0, .slice none 0 0] 29)).ext hb1
  have t1 : Blk w1 (w.heap.size + 1) [.int .i64 0, .int .i64 0, .slice none 0 0] 29 := (Blk.newAt (w.alloc (.cells #[.int .i64 0, .int .i64 0, .int .i64 0, .slice none 0 0] 26)) [.int .i64 0, .int .i64 0, .slice none 0 0] 29 (w.heap.size + 1) (by simp)).ext hb1
  have HE : Hid (Ext w w1) := ((Ext.one _ _).alloc _).trans hb1
  have hs1 : w.heap.size + 1 + 1 < w1.heap.size := by have := hc1.lt; simpa using this
  have HC1 : Hid (Cur w1 (w.heap.size + 1 + 1) a len cap) := by simpa [Hid] using hc1
  clear hc1 hb1
  go_wp2_with fail
  refine (policy_any (w.heap.size + 1 + 1) a len cap _ HC1.out).mono ?_
  rintro e w2 ⟨pol, a1, n1, c1, ac, da, hpb, hps, rfl, hp1, hp2, hp3, hp4, hrp, hc2, hg2⟩
  have x2 := Blk.new w2 [.int .i64 62, .int .i64 ac, .int .i64 da, .slice a1 n1 c1] 26
  have HI : Hid (policyB pol = true ∧ SmallR pol.rules ∧ pol.arch = 62 ∧ pol.act = ac ∧ pol.data = da ∧ n1 = pol.rules.length) := ⟨hpb, hps, hp1, hp2, hp3, hp4⟩
  have H2 : Hid (Cur (w2.alloc (.cells #[.int .i64 62, .int .i64 ac, .int .i64 da, .slice a1 n1 c1] 26)) (w.heap.size + 1 + 1) a len cap ∧ Ext w (w2.alloc (.cells #[.int .i64 62, .int .i64 ac, .int .i64 da, .slice a1 n1 c1] 26)) ∧ Blk (w2.alloc (.cells #[.int .i64 62, .int .i64 ac, .int .i64 da, .slice a1 n1 c1] 26)) w.heap.size [.int .i64 0, .int .i64 0, .int .i64 0, .slice none 0 0] 26 ∧ Blk (w2.alloc (.cells #[.int .i64 62, .int .i64 ac, .int .i64 da, .slice a1 n1 c1] 26)) (w.heap.size + 1) [.int .i64 0, .int .i64 0, .slice none 0 0] 29 ∧ Blk (w2.alloc (.cells #[.int .i64 62, .int .i64 ac, .int .i64 da, .slice a1 n1 c1] 26)) w2.heap.size [.int .i64 62, .int .i64 ac, .int .i64 da, .slice a1 n1 c1] 26 ∧ RulesP (fun b => w1.heap.size ≤ b) (w2.alloc (.cells #[.int .i64 62, .int .i64 ac, .int .i64 da, .slice a1 n1 c1] 26)) a1 pol.rules ∧ w1.heap.size < (w2.alloc (.cells #[.int .i64 62, .int .i64 ac, .int .i64 da, .slice a1 n1 c1] 26)).heap.size) :=
    ⟨hc2.alloc _, (ext_new HE.out (by omega) hg2).alloc _, (r1.grown hg2 (ne_some (by omega))).alloc _, (t1.grown hg2 (ne_some (by omega))).alloc _, x2, hrp.alloc _, by have := hg2.size; simp; omega⟩
  have hs2 : w1.heap.size ≤ w2.heap.size := hg2.size
  clear hpb hps hp1 hp2 hp3 hp4 hrp hc2 hg2 r1 t1 HE HC1 x2
  go_wp2_with fail
  generalize w2.alloc (.cells #[.int .i64 62, .int .i64 ac, .int .i64 da, .slice a1 n1 c1] 26) = W5 at *
  refine' wp_region_looset_tail 3 2 (.inl _ :: .inl _ :: .inr (fun v W => ∃ (arch num : Int) (ws : List (Int × Int)) (ca : Option Addr) (m1 cc : Nat), callB arch num ws = true ∧ v = .agg #[.int .i64 arch, .int .i64 num, .slice ca m1 cc] ∧ m1 = ws.length ∧ Wides W ca ws ∧ ∀ b off, ca = some ⟨b, off, none⟩ → w1.heap.size < b) :: []) (fun b W => Cur W (w.heap.size + 1 + 1) a len cap ∧ Ext w W ∧ Blk W w.heap.size [.int .i64 0, .int .i64 0, .int .i64 0, .slice none 0 0] 26 ∧ Blk W (w.heap.size + 1) [.int .i64 0, .int .i64 0, .slice none 0 0] 29 ∧ Blk W w2.heap.size [.int .i64 62, .int .i64 ac, .int .i64 da, .slice a1 n1 c1] 26 ∧ RulesP (fun b => w1.heap.size ≤ b) W a1 pol.rules ∧ w1.heap.size < W.heap.size) (fun j W W' => j ≠ 2 → W.grownBy W' none) (by kernel_rfl) (by kernel_rfl) (⟨H2.out.1, H2.out.2.1.drew, H2.out.2.2.1, H2.out.2.2.2.1, H2.out.2.2.2.2.1, H2.out.2.2.2.2.2.1.kept (w' := W5.drew) (fun _ _ _ => rfl) (Nat.le_refl _), H2.out.2.2.2.2.2.2⟩) (by decide) (fun h => by cases h) ?hAx ?hlx ?hMx
  case' hMx => skip
  simp only [List.take_succ_cons, List.take_zero, List.drop_succ_cons, List.drop_zero]
  apply wpLooseT_val rfl rfl (by decide)
  case hs =>
    intro b1 w1 hC hd Q1 hQ1
    dsimp only [bare]
    obtain ⟨q0, q1, q2, q3⟩ := (⟨hC.2.2.2.2.1.cell 0 _ rfl, hC.2.2.2.2.1.cell 1 _ rfl, hC.2.2.2.2.1.cell 2 _ rfl, hC.2.2.2.2.1.cell 3 _ rfl⟩ : _ ∧ _ ∧ _ ∧ _)
    clear hd
    have HCC : Hid _ := hC
    clear hC
    go_wp2
    exact ⟨HCC.out, fun _ => grown_refl _ _⟩
  case ha => rfl
  apply wpLooseT_val rfl rfl (by decide)
  case hs =>
    intro b1 w1 hC hd Q1 hQ1
    dsimp only [bare]
    obtain ⟨q0, q1, q2, q3⟩ := (⟨hC.2.2.2.2.1.cell 0 _ rfl, hC.2.2.2.2.1.cell 1 _ rfl, hC.2.2.2.2.1.cell 2 _ rfl, hC.2.2.2.2.1.cell 3 _ rfl⟩ : _ ∧ _ ∧ _ ∧ _)
    clear hd
    have HCC : Hid _ := hC
    clear hC
    go_wp2
    exact ⟨HCC.out, fun _ => grown_refl _ _⟩
  case ha => rfl
  refine wpLooseT_spec rfl rfl (by decide) ?_ (fun vx_2 => ?_)
  · intro w1 hC hd Q1 hQ1
    dsimp only [bare]
    clear hd
    have HCC : Hid _ := hC
    have HQ : Hid _ := hQ1
    clear hC hQ1
    go_wp2_with fail
    refine (call_any (w.heap.size + 1 + 1) a len cap _ HCC.out.1).mono ?_
    rintro e w7 ⟨arch, num, ws, v, hcb, rfl, ⟨av, cv, rfl, hcv, hw, hf, hz⟩, hc7, hg7⟩
    go_wp2_with fail
    obtain ⟨h1, h2, h3, h4, h5, h6, h7⟩ := HCC.out
    exact HQ.out _ _ ⟨⟨hc7, ext_new h2 (by omega) hg7, h3.grown hg7 (ne_some (by omega)), h4.grown hg7 (ne_some (by omega)), h5.grown hg7 (ne_some (by omega)), h6.kept (fun b hb hl => hg7.block b hl (ne_some (by omega))) hg7.size, Nat.lt_of_lt_of_le h7 hg7.size⟩, fun h => absurd rfl h, arch, num, ws, av, ws.length, cv, hcb, rfl, rfl, hw, fun b off e => by have := hf b off e; omega⟩
  refine wpLooseT_nil ?_
  intro wx hCx hFx
  obtain ⟨h1, h2, h3, h4, h5, h6, h7⟩ := hCx
  obtain ⟨arch, num, ws, ca, m1, cc, hcb, rfl, hm1, hw, hf⟩ := (hFx 2 _ rfl (by decide) (by simp [Act.put]) : ∃ (arch num : Int) (ws : List (Int × Int)) (ca : Option Addr) (m1 cc : Nat), callB arch num ws = true ∧ vx_2 = .agg #[.int .i64 arch, .int .i64 num, .slice ca m1 cc] ∧ m1 = ws.length ∧ Wides wx ca ws ∧ ∀ b off, ca = some ⟨b, off, none⟩ → w1.heap.size < b)
  have HF : Hid (callB arch num ws = true ∧ m1 = ws.length ∧ RulesP (fun b => w1.heap.size ≤ b) wx a1 pol.rules ∧ Wides wx ca ws ∧ (∀ b off, ca = some ⟨b, off, none⟩ → w1.heap.size < b) ∧ Ext w wx) := ⟨hcb, hm1, h6, hw, hf, h2⟩
  obtain ⟨q0, q1, q2, q3, t0, t1, t2⟩ := (⟨h3.cell 0 _ rfl, h3.cell 1 _ rfl, h3.cell 2 _ rfl, h3.cell 3 _ rfl, h4.cell 0 _ rfl, h4.cell 1 _ rfl, h4.cell 2 _ rfl⟩ : _ ∧ _ ∧ _ ∧ _ ∧ _ ∧ _ ∧ _)
  have f1 := h3.free
  have f2 := h4.free
  have hlt := h4.lt
  clear h1 h2 h3 h4 h5 h6 h7 hcb hm1 hw hf hFx H2
  go_wp2
  refine bodyPost_ret (v := .tuple #[.agg #[.int .i64 62, .int .i64 ac, .int .i64 da, .slice a1 n1 c1], .agg #[.int .i64 arch, .int .i64 num, .slice ca m1 cc]]) (by simp [results, Tryz.results6, go_sem, *]) rfl ⟨a1, n1, c1, ac, da, arch, num, ca, m1, cc, rfl, ⟨pol, HI.out.1, HI.out.2.1, HI.out.2.2.1, HI.out.2.2.2.1, HI.out.2.2.2.2.1, HI.out.2.2.2.2.2, ?_⟩, ⟨ws, HF.out.1, HF.out.2.1, ?_⟩, ?_⟩
  · exact RulesP.rulesC (φ := fun b => w1.heap.size ≤ b) (((((((HF.out.2.2.1.set (fun b hb => by omega) _ _).set (fun b hb => by omega) _ _).set (fun b hb => by omega) _ _).set (fun b hb => by omega) _ _).set (fun b hb => by omega) _ _).set (fun b hb => by omega) _ _).set (fun b hb => by omega) _ _)
  · exact ((((((HF.out.2.2.2.1.far (fun b off e => by have := HF.out.2.2.2.2.1 b off e; omega) _ _).far (fun b off e => by have := HF.out.2.2.2.2.1 b off e; omega) _ _).far (fun b off e => by have := HF.out.2.2.2.2.1 b off e; omega) _ _).far (fun b off e => by have := HF.out.2.2.2.2.1 b off e; omega) _ _).far (fun b off e => by have := HF.out.2.2.2.2.1 b off e; omega) _ _).far (fun b off e => by have := HF.out.2.2.2.2.1 b off e; omega) _ _).far (fun b off e => by have := HF.out.2.2.2.2.1 b off e; omega) _ _
  · exact ((((((HF.out.2.2.2.2.2.set (by omega) _ _).set (by omega) _ _).set (by omega) _ _).set (by omega) _ _).set (by omega) _ _).set (by omega) _ _).set (by omega) _ _
  case hAx => kernel_rfl
  case hlx => exact ⟨trivial, trivial, fun i hi v W W' ⟨arch, num, ws, ca, m1, cc, e1, e2, e3, e4, e5⟩ hT => ⟨arch, num, ws, ca, m1, cc, e1, e2, e3, e4.below (ext_of_none (hT hi)) (Nat.le_refl _), e5⟩, trivial⟩

end Go.Proofs.YtojaohdmfahpmaaGreatDoor
