/- What spec's l09Copy answers: a policy of as many rules, in memory of its own. -/
import Derived.Test.YtoknlaaghjlnaaaFillApp
namespace Go.Proofs.Ytoknlaaghjlnaaa
open Go.RowKit
set_option linter.unusedVariables false

def AllSmall (ps : List (RN × List Value)) : Prop := ∀ q ∈ ps, Small q.1

/-- A copy under way: the rules that were appended lie in blocks below Z, none of them the row's own. -/
structure CInv (w : World) (Z : Nat) (ar ac da : Int) (a : Option Addr) (n cap : Nat) (ps : List (RN × List Value)) (k : Nat) (v1 : Value) (W : World) : Prop where
  ext : Ext w W
  box : Blk W w.heap.size [.int .i64 ar, .int .i64 ac, .int .i64 da, .slice a n cap] 26
  res : Blk W (w.heap.size + 1) [.int .i64 0, .int .i64 0, .int .i64 0, .slice none 0 0] 26
  out : Blk W (w.heap.size + 1 + 1) [.int .i64 ar, .int .i64 ac, .int .i64 da, v1] 26
  row : RowR (fun b => (w.heap.size + 3 ≤ b ∧ some b ≠ v1.ownBlock) ∧ b < Z) W ps
  own : W.ownsRow (w.heap.size + 3) 37 4 v1 k (flatR ps)
  old : ∀ x, v1.ownBlock = some x → x < Z
  low : w.heap.size + 3 ≤ Z
  high : Z ≤ W.heap.size

theorem Ext.grownE {w W W' : World} (h : Ext w W) {E : Nat} (hg : W.grownBy W' (some E)) (hE : w.heap.size ≤ E) : Ext w W' := h.grown hg h.size (fun k hk => by have := Option.some.inj hk; omega)

theorem CInv.grow {w : World} {Z : Nat} {ar ac da : Int} {a : Option Addr} {n cap : Nat} {ps : List (RN × List Value)} {k : Nat} {v1 : Value} {W W' : World} (h : CInv w Z ar ac da a n cap ps k v1 W) {E : Nat} (hg : W.grownBy W' (some E)) (hE : Z ≤ E) : CInv w Z ar ac da a n cap ps k v1 W' := by
  have hl := h.low
  exact ⟨h.ext.grownE hg (by omega), h.box.grownP hg (by omega), h.res.grownP hg (by omega), h.out.grownP hg (by omega), h.row.grown hg (fun b hb _ => ne_some (by have := hb.2; omega)), h.own.kept hg (.inr fun e => by have := h.old E e; omega), h.old, h.low, Nat.le_trans h.high hg.size⟩

theorem CInv.alloc {w : World} {Z : Nat} {ar ac da : Int} {a : Option Addr} {n cap : Nat} {ps : List (RN × List Value)} {k : Nat} {v1 : Value} {W : World} (h : CInv w Z ar ac da a n cap ps k v1 W) (o : Obj) : CInv w Z ar ac da a n cap ps k v1 (W.alloc o) :=
  h.grow (E := W.heap.size) (grown_alloc (grown_refl W _) o) h.high

theorem CInv.set {w : World} {Z : Nat} {ar ac da : Int} {a : Option Addr} {n cap : Nat} {ps : List (RN × List Value)} {k : Nat} {v1 : Value} {W : World} (h : CInv w Z ar ac da a n cap ps k v1 W) {E : Nat} (hE : Z ≤ E) (i : Nat) (v : Value) : CInv w Z ar ac da a n cap ps k v1 (W.setCell ⟨E, i, none⟩ v) :=
  h.grow (E := E) (grown_set) hE

theorem own_set9 {w : World} {base e size : Nat} {v : Value} {n : Nat} {xs : List Value} (h : w.ownsRow base e size v n xs) {k : Nat} (hk : k < base) (i : Nat) (u : Value) : (w.setCell ⟨k, i, none⟩ u).ownsRow base e size v n xs := ownsRow_setCell_below (a := ⟨k, i, none⟩) h hk u

set_option maxRecDepth 100000 in
set_option maxHeartbeats 6400000 in
theorem copy_any (ar ac da : Int) (a : Option Addr) (n cap : Nat) (rs : List RN) (w : World) (hn : n = rs.length) (hs : SmallR rs) (h : Rules w a rs) :
    Calls Try.prog 85 #[.agg #[.int .i64 ar, .int .i64 ac, .int .i64 da, .slice a n cap]] w fun e w' => ∃ (aR : Option Addr) (nR cR : Nat) (ps : List (RN × List Value)), e = .returned (.agg #[.int .i64 ar, .int .i64 ac, .int .i64 da, .slice aR nR cR]) ∧ ps.length = nR ∧ nR = n ∧ AllSmall ps ∧ w'.ownsRow w.heap.size 37 4 (.slice aR nR cR) nR (flatR ps) ∧ RowR (fun b => w.heap.size ≤ b ∧ some b ≠ (Value.slice aR nR cR).ownBlock) w' ps ∧ Ext w w' := by
  obtain ⟨i0, hi, hz0, hz1, hz2⟩ := info_parts Try.infoI
  obtain ⟨j0, ji, jz0, jz1, jz2⟩ := info_parts Try.infoCo
  obtain ⟨k0, ki, kz0, kz1, kz2⟩ := info_parts Try.infoRu
  have HN : Hid (n = rs.length ∧ ∀ k, k < rs.length → Small (rs.getD k r0)) := ⟨hn, hs.2⟩
  have HA : Hid (∀ W, Ext w W → Rules W a rs) := fun W hE => h.step hE
  have hl' : n ≤ 1048576 := by have := hs.1; omega
  clear h hn hs
  go_enter Try.func85, Try.ntmps85
  go_wp2_with fail
  go_loopw [4] (fun i wr => ∃ (k : Nat) (ps : List (RN × List Value)) (v1 : Value), i = .int .i64 k ∧ k ≤ n ∧ Hid (ps.length = k ∧ (∀ q ∈ ps, Small q.1) ∧ CInv w wr.heap.size ar ac da a n cap ps k v1 wr)) (fun i _ => n - (intOf i).toNat)
  case atStart =>
    refine ⟨0, [], .slice (some ⟨w.heap.size + 1 + 1 + 1, 0, none⟩) 0 0, rfl, by omega, rfl, fun q hq => by simp at hq, ?_⟩
    exact { ext := (((Ext.one w _).alloc _).alloc _).alloc _, box := (((Blk.new w _ _).alloc _).alloc _).alloc _, res := ((Blk.newAt _ _ _ _ (by simp)).alloc _).alloc _, out := (Blk.newAt _ _ _ _ (by simp)).alloc _, row := fun q hq => by simp at hq, own := own_emptyAt _ _ _ _ _ (by simp) (by omega) (by simp), old := fun x hx => by simp [Value.ownBlock] at hx; simp; omega, low := by simp, high := Nat.le_refl _ }
  case round =>
    obtain ⟨k, ps, v1, rfl, hk, HI⟩ := hrel
    have q3 := HI.out.2.2.box.cell 3 _ rfl
    by_cases hlt : k < n
    · have bk : (k : Int) < (n : Int) := by omega
      obtain ⟨b, off, l, rfl, ⟨hbl, hseg⟩, hL⟩ := (HA.out wr HI.out.2.2.ext).at (k := k) (by have := HN.out.1; omega)
      obtain ⟨a1, n1, c1, a2, n2, c2, rfl, e1, e2, hz, hq⟩ := hL
      have hsm := HN.out.2 k (by have := HN.out.1; omega)
      obtain ⟨r, hr⟩ : ∃ r, r = rs.getD k r0 := ⟨_, rfl⟩
      rw [← hr] at e1 e2 hz hq hsm hseg
      obtain ⟨p0, p1, p2, p3⟩ := hseg.four
      have HRR : Hid (n1 = r.nums.length ∧ n2 = r.conds.length ∧ Nums wr a1 r.nums ∧ Conds wr a2 r.conds ∧ Small r) := ⟨e1, e2, hz, hq, hsm⟩
      have m1 : n1 ≤ 1048576 := by rw [e1]; exact hsm.1
      have m2 : n2 ≤ 1048576 := by rw [e2]; exact hsm.2
      clear e1 e2 hz hq hsm hseg hr hbl
      generalize r.act = xc at *
      generalize r.data = xd at *
      have C1 := (HI.out.2.2.alloc (.cells #[.slice a1 n1 c1, .slice a2 n2 c2, .int .i64 xc, .int .i64 xd] 37)).alloc (.cells #[] 3)
      have y1 := (Blk.new wr [.slice a1 n1 c1, .slice a2 n2 c2, .int .i64 xc, .int .i64 xd] 37).alloc (.cells #[] 3)
      have HC1 : Hid (CInv w wr.heap.size ar ac da (some ⟨b, off, none⟩) n cap ps k v1 ((wr.alloc (.cells #[.slice a1 n1 c1, .slice a2 n2 c2, .int .i64 xc, .int .i64 xd] 37)).alloc (.cells #[] 3)) ∧ Blk ((wr.alloc (.cells #[.slice a1 n1 c1, .slice a2 n2 c2, .int .i64 xc, .int .i64 xd] 37)).alloc (.cells #[] 3)) wr.heap.size [.slice a1 n1 c1, .slice a2 n2 c2, .int .i64 xc, .int .i64 xd] 37) := ⟨C1, y1⟩
      have HPS : Hid (ps.length = k ∧ ∀ q ∈ ps, Small q.1) := ⟨HI.out.1, HI.out.2.1⟩
      have hlow : w.heap.size + 3 ≤ wr.heap.size := HI.out.2.2.low
      clear C1 y1 HI
      go_wp2_with (at_builtin; refine wpList_append_fill _ rfl _ _ 34 rfl (wr.heap.size + 1) 3 i0 (.int .i64 0) 1 8 Try.underlying34 hi hz0 hz1 hz2 rfl (by decide) (wr.heap.size + 1) rfl (own_emptyAt _ _ _ _ _ (by simp) (by omega) (by simp)) a1 n1 c1 (r.nums.map (Value.int .i64)) rfl ?c1 ?c2 ?c3 ?c4 ?c5 ?c6 (wr.heap.size + 1 + 1) (by simp) ?_)
      case c1 => simp [HRR.out.1]
      case c2 => exact fun hp => nums_src (((HRR.out.2.2.1).step (Ext.one _ _)).step (Ext.one _ _)) (by rw [← HRR.out.1]; exact hp)
      case c3 => intro u hu; obtain ⟨z, _, rfl⟩ := List.mem_map.1 hu; rfl
      case c4 => unfold maxLen; omega
      case c5 => omega
      case c6 => simp
      intro g1 cap1 w3 hown3 hgrow3 hat3 hlt3
      obtain ⟨hn3, hg3⟩ := own_numsG hown3 HRR.out.1.symm
      have C3 := HC1.out.1.grow hgrow3 (by omega)
      have y3 := HC1.out.2.grownP hgrow3 (by omega)
      have HC3 : Hid (CInv w wr.heap.size ar ac da (some ⟨b, off, none⟩) n cap ps k v1 w3 ∧ Blk w3 wr.heap.size [.slice a1 n1 c1, .slice a2 n2 c2, .int .i64 xc, .int .i64 xd] 37 ∧ Nums w3 (some ⟨g1, 0, none⟩) r.nums ∧ Conds w3 a2 r.conds) := ⟨C3, y3, hn3, HRR.out.2.2.2.1.step (((Ext.one wr _).alloc _).grownE hgrow3 (by omega))⟩
      obtain ⟨q0, q1, f0⟩ := (⟨y3.cell 0 _ rfl, y3.cell 1 _ rfl, y3.free⟩ : _ ∧ _ ∧ _)
      have hs3 : wr.heap.size < w3.heap.size := y3.lt
      clear hown3 hgrow3 hat3 hn3 C3 y3 HC1
      have hw3 : wr.heap.size ≤ w3.heap.size := by omega
      go_wp2_with (at_builtin; refine wpList_append_fill _ rfl _ _ 35 rfl w3.heap.size 44 j0 (.agg #[.int .i64 0, .int .i64 0, .int .i64 0, .int .i64 0, .int .i64 0, .int .i64 0]) 6 48 Try.underlying35 ji jz0 jz1 jz2 rfl (by decide) w3.heap.size rfl (own_emptyAt _ _ _ _ _ (by simp [World.size_setCell]) (by omega) (by simp [World.size_setCell])) a2 n2 c2 (flatC r.conds) rfl ?c1 ?c2 ?c3 ?c4 ?c5 ?c6 (w3.heap.size + 1) (by simp [World.size_setCell]) ?_)
      case c1 => rw [flatC_length, HRR.out.2.1]
      case c2 =>
        refine fun hp => conds_src ?_ (by rw [← HRR.out.2.1]; exact hp)
        have hcw := HRR.out.2.2.2.1
        have hc3 := HC3.out.2.2.2
        refine Conds.step (w := w3.setCell ⟨wr.heap.size, 0, none⟩ (.slice (some ⟨g1, 0, none⟩) n1 cap1)) ?_ (Ext.one _ _)
        intro hp2
        obtain ⟨b2, off2, ha2, hb2, _⟩ := hcw hp2
        subst ha2
        exact hc3.far _ (by omega) _ hp2
      case c3 => exact flatC_one _
      case c4 => unfold maxLen; omega
      case c5 => omega
      case c6 => simp [World.size_setCell]
      intro g2 cap2 w6 hown6 hgrow6 hat6 hlt6
      obtain ⟨hn6, hg6⟩ := own_condsG hown6 HRR.out.2.1.symm
      have C6 := ((HC3.out.1.set (Nat.le_refl _) 0 (.slice (some ⟨g1, 0, none⟩) n1 cap1)).alloc (.cells #[] 44)).grow hgrow6 (by omega)
      have y6 := ((HC3.out.2.1.set 0 (.slice (some ⟨g1, 0, none⟩) n1 cap1)).alloc (.cells #[] 44)).grownP hgrow6 (by omega)
      have n6 : Nums w6 (some ⟨g1, 0, none⟩) r.nums := ((HC3.out.2.2.1.far 0 (by omega) _).step (Ext.one _ _)).kept (fun b o he => hgrow6.block b (by injection he with he; injection he with e1 _; subst e1; simp [World.size_setCell]; omega) (ne_some (by injection he with he; injection he with e1 _; omega))) hgrow6.size
      have hs6 : w3.heap.size < w6.heap.size := by have := hgrow6.size; simp [World.size_setCell] at this; omega
      have HC6 : Hid (CInv w wr.heap.size ar ac da (some ⟨b, off, none⟩) n cap ps k v1 w6 ∧ Blk w6 wr.heap.size [.slice (some ⟨g1, 0, none⟩) n1 cap1, .slice a2 n2 c2, .int .i64 xc, .int .i64 xd] 37 ∧ Nums w6 (some ⟨g1, 0, none⟩) r.nums ∧ Conds w6 (some ⟨g2, 0, none⟩) r.conds) := ⟨C6, y6, n6, hn6⟩
      clear q0 q1 f0
      obtain ⟨q0, q1, q2, q4, f0⟩ := (⟨y6.cell 0 _ rfl, y6.cell 1 _ rfl, y6.cell 2 _ rfl, y6.cell 3 _ rfl, y6.free⟩ : _ ∧ _ ∧ _ ∧ _ ∧ _)
      have o3 := C6.out.cell 3 _ rfl
      have fo := C6.out.free
      clear hown6 hgrow6 hat6 hn6 C6 y6 n6 HC3
      have C8 := (HC6.out.1.set (Nat.le_refl _) 1 (.slice (some ⟨g2, 0, none⟩) n2 cap2)).alloc (.cells #[.slice (some ⟨g1, 0, none⟩) n1 cap1, .slice (some ⟨g2, 0, none⟩) n2 cap2, .int .i64 xc, .int .i64 xd] 37)
      have t8 := Blk.newAt (w6.setCell ⟨wr.heap.size, 1, none⟩ (.slice (some ⟨g2, 0, none⟩) n2 cap2)) [.slice (some ⟨g1, 0, none⟩) n1 cap1, .slice (some ⟨g2, 0, none⟩) n2 cap2, .int .i64 xc, .int .i64 xd] 37 w6.heap.size (by rw [World.size_setCell])
      have n8 : Nums ((w6.setCell ⟨wr.heap.size, 1, none⟩ (.slice (some ⟨g2, 0, none⟩) n2 cap2)).alloc (.cells #[.slice (some ⟨g1, 0, none⟩) n1 cap1, .slice (some ⟨g2, 0, none⟩) n2 cap2, .int .i64 xc, .int .i64 xd] 37)) (some ⟨g1, 0, none⟩) r.nums := (HC6.out.2.2.1.far 1 (by omega) _).step (Ext.one _ _)
      have d8 : Conds ((w6.setCell ⟨wr.heap.size, 1, none⟩ (.slice (some ⟨g2, 0, none⟩) n2 cap2)).alloc (.cells #[.slice (some ⟨g1, 0, none⟩) n1 cap1, .slice (some ⟨g2, 0, none⟩) n2 cap2, .int .i64 xc, .int .i64 xd] 37)) (some ⟨g2, 0, none⟩) r.conds := (HC6.out.2.2.2.far 1 (by omega) _).step (Ext.one _ _)
      obtain ⟨W8, hW8⟩ : ∃ W8, W8 = (w6.setCell ⟨wr.heap.size, 1, none⟩ (.slice (some ⟨g2, 0, none⟩) n2 cap2)).alloc (.cells #[.slice (some ⟨g1, 0, none⟩) n1 cap1, .slice (some ⟨g2, 0, none⟩) n2 cap2, .int .i64 xc, .int .i64 xd] 37) := ⟨_, rfl⟩
      have hsz8 : W8.heap.size = w6.heap.size + 1 := by rw [hW8]; simp [World.size_setCell]
      rw [← hW8] at C8 t8 n8 d8
      have HC8 : Hid (CInv w wr.heap.size ar ac da (some ⟨b, off, none⟩) n cap ps k v1 W8 ∧ Blk W8 w6.heap.size [.slice (some ⟨g1, 0, none⟩) n1 cap1, .slice (some ⟨g2, 0, none⟩) n2 cap2, .int .i64 xc, .int .i64 xd] 37 ∧ Nums W8 (some ⟨g1, 0, none⟩) r.nums ∧ Conds W8 (some ⟨g2, 0, none⟩) r.conds ∧ W8.heap.size = w6.heap.size + 1) := ⟨C8, t8, n8, d8, hsz8⟩
      have HW8 : Hid (W8 = (w6.setCell ⟨wr.heap.size, 1, none⟩ (.slice (some ⟨g2, 0, none⟩) n2 cap2)).alloc (.cells #[.slice (some ⟨g1, 0, none⟩) n1 cap1, .slice (some ⟨g2, 0, none⟩) n2 cap2, .int .i64 xc, .int .i64 xd] 37)) := hW8
      clear C8 t8 n8 d8 hsz8 hW8 HC6
      go_wp2_with (at_builtin; rw [← HW8.out]; refine wpList_append_lies _ rfl _ _ 24 rfl (w.heap.size + 3) 37 k0 (.agg #[.slice none 0 0, .slice none 0 0, .int .i64 0, .int .i64 0]) 4 64 Try.underlying24 ki kz0 kz1 kz2 rfl (by decide) _ _ _ rfl HC8.out.1.own ⟨w6.heap.size, 0, none⟩ 1 1 [.slice (some ⟨g1, 0, none⟩) n1 cap1, .slice (some ⟨g2, 0, none⟩) n2 cap2, .int .i64 xc, .int .i64 xd] rfl rfl ?c1 ?c2 (by omega) ?c3 ?c4 ?c5 (w6.heap.size + 1) HC8.out.2.2.2.2 ?_)
      case c1 => exact fun j u hu => by rw [Addr.add_lit, Nat.zero_add]; exact HC8.out.2.1.cell j u hu
      case c2 => simp [Value.oneCell']
      case c3 => unfold maxLen; omega
      case c4 => omega
      case c5 => have := HC8.out.2.2.2.2; omega
      intro g cap9 w9 hown9 hgrow9 hat9 hlt9
      obtain ⟨C8, _, n8, d8, hsz8⟩ := HC8.out
      have hv1 : ∀ x, v1.ownBlock = some x → w.heap.size + 3 ≤ x ∧ x < wr.heap.size := fun x hx => ⟨(own_lt9 C8.own hx).1, C8.old x hx⟩
      have gB : ∀ m, m < w.heap.size + 3 → some m ≠ v1.ownBlock := fun m hm e => by have := (hv1 m e.symm).1; omega
      have gY : ∀ m, wr.heap.size ≤ m → some m ≠ v1.ownBlock := fun m hm e => by have := (hv1 m e.symm).2; omega
      have hg1l : g1 < w6.heap.size := by omega
      have hg2l : g2 < w6.heap.size := hlt6
      have hgne : ∀ m, wr.heap.size ≤ m → m < w6.heap.size + 1 → m ≠ g := fun m h1 h2 e => by
        rcases hat9 with h | h
        · have := (hv1 g h).2; omega
        · omega
      have x9 := C8.out.grown hgrow9 (gB _ (by omega))
      have e9 : Ext w w9 := C8.ext.grown hgrow9 C8.ext.size (fun m hm => by have := (hv1 m hm).1; omega)
      have n9 : Nums w9 (some ⟨g1, 0, none⟩) r.nums := n8.kept (fun b2 o2 he => hgrow9.block b2 (by injection he with he; injection he with e1 _; omega) (gY _ (by injection he with he; injection he with e1 _; omega))) hgrow9.size
      have d9 : Conds w9 (some ⟨g2, 0, none⟩) r.conds := d8.kept (fun b2 o2 he => hgrow9.block b2 (by injection he with he; injection he with e1 _; omega) (gY _ (by injection he with he; injection he with e1 _; omega))) hgrow9.size
      have hs9 : w6.heap.size + 1 ≤ w9.heap.size := by have := hgrow9.size; omega
      have r9 : RowR (fun b => (w.heap.size + 3 ≤ b ∧ some b ≠ some g) ∧ b < w9.heap.size) w9 (ps ++ [(⟨r.nums, r.conds, xc, xd⟩, [.slice (some ⟨g1, 0, none⟩) n1 cap1, .slice (some ⟨g2, 0, none⟩) n2 cap2, .int .i64 xc, .int .i64 xd])]) := by
        have hI : ∀ b2, ((w.heap.size + 3 ≤ b2 ∧ some b2 ≠ v1.ownBlock) ∧ b2 < wr.heap.size) → b2 < w9.heap.size → ((w.heap.size + 3 ≤ b2 ∧ some b2 ≠ some g) ∧ b2 < w9.heap.size) := fun b2 hb2 hl2 => ⟨⟨hb2.1.1, fun e => by
          have e' := Option.some.inj e
          rcases hat9 with h | h
          · exact hb2.1.2 (by rw [e', h])
          · have := hb2.2; omega⟩, hl2⟩
        have hJ1 : FromP (fun b2 => (w.heap.size + 3 ≤ b2 ∧ some b2 ≠ some g) ∧ b2 < w9.heap.size) w9 (some ⟨g1, 0, none⟩) := fun b2 o2 s2 he => by
          injection he with he
          injection he with e1 _
          subst e1
          exact ⟨⟨⟨by omega, fun e => hgne g1 (by omega) (by omega) (Option.some.inj e)⟩, by omega⟩, by omega⟩
        have hJ2 : FromP (fun b2 => (w.heap.size + 3 ≤ b2 ∧ some b2 ≠ some g) ∧ b2 < w9.heap.size) w9 (some ⟨g2, 0, none⟩) := fun b2 o2 s2 he => by
          injection he with he
          injection he with e1 _
          subst e1
          exact ⟨⟨⟨by omega, fun e => hgne g2 (by omega) (by omega) (Option.some.inj e)⟩, by omega⟩, by omega⟩
        exact RowR.push ((C8.row.grown hgrow9 (fun b2 hb2 _ => hb2.1.2)).imp hI) ⟨some ⟨g1, 0, none⟩, n1, cap1, some ⟨g2, 0, none⟩, n2, cap2, rfl, HRR.out.1, HRR.out.2.1, n9, d9, hJ1, hJ2⟩
      have HF : Hid (CInv w (w9.setCell ⟨w.heap.size + 1 + 1, 3, none⟩ (.slice (some ⟨g, 0, none⟩) (k + 1) cap9)).heap.size ar ac da (some ⟨b, off, none⟩) n cap (ps ++ [(⟨r.nums, r.conds, xc, xd⟩, [.slice (some ⟨g1, 0, none⟩) n1 cap1, .slice (some ⟨g2, 0, none⟩) n2 cap2, .int .i64 xc, .int .i64 xd])]) (k + 1) (.slice (some ⟨g, 0, none⟩) (k + 1) cap9) (w9.setCell ⟨w.heap.size + 1 + 1, 3, none⟩ (.slice (some ⟨g, 0, none⟩) (k + 1) cap9))) := by
        have hszz : (w9.setCell ⟨w.heap.size + 1 + 1, 3, none⟩ (.slice (some ⟨g, 0, none⟩) (k + 1) cap9)).heap.size = w9.heap.size := World.size_setCell _ _ _
        refine { ext := e9.set (by omega) _ _, box := (C8.box.grown hgrow9 (gB _ (by omega))).other (by omega) _ _, res := (C8.res.grown hgrow9 (gB _ (by omega))).other (by omega) _ _, out := x9.set 3 _, row := ?_, own := ?_, old := fun x hx => ?_, low := by rw [hszz]; omega, high := Nat.le_refl _ }
        · rw [hszz]
          exact r9.set (fun b2 hb2 => by have := hb2.1.1; omega) _ _
        · rw [← flatR_push]
          exact ownsRow_setCell_below hown9 (by show w.heap.size + 1 + 1 < w.heap.size + 3; omega) _
        · rw [hszz]
          simp [Value.ownBlock] at hx
          omega
      have o9 := x9.cell 3 _ rfl
      have f9 := x9.free
      have HPS2 : Hid ((ps ++ [((⟨r.nums, r.conds, xc, xd⟩ : RN), ([.slice (some ⟨g1, 0, none⟩) n1 cap1, .slice (some ⟨g2, 0, none⟩) n2 cap2, .int .i64 xc, .int .i64 xd] : List Value))]).length = k + 1 ∧ ∀ q ∈ ps ++ [((⟨r.nums, r.conds, xc, xd⟩ : RN), ([.slice (some ⟨g1, 0, none⟩) n1 cap1, .slice (some ⟨g2, 0, none⟩) n2 cap2, .int .i64 xc, .int .i64 xd] : List Value))], Small q.1) := by
        refine ⟨by simp [HPS.out.1], fun q hq => ?_⟩
        rcases List.mem_append.1 hq with hq | hq
        · exact HPS.out.2 q hq
        · simp at hq; rw [hq]; exact HRR.out.2.2.2.2
      clear hown9 hgrow9 hat9 n8 d8 hsz8 hv1 gB gY hgne x9 e9 n9 d9 r9 HC8 HW8 q0 q1 q2 q4 f0 o3 fo C8
      go_wp2
      go_roundw
      case rel => exact ⟨k + 1, _, _, by go_num, by omega, HPS2.out.1, HPS2.out.2, HF.out⟩
      case measure => simp [intOf]; omega
    · have hkn : k = n := by omega
      have bk : ¬ ((k : Int) < (n : Int)) := by omega
      obtain ⟨aR, cR, hv⟩ : ∃ aR cR, v1 = .slice aR k cR := by
        rcases HI.out.2.2.own.2 with ⟨hv, h0⟩ | ⟨g, c, cur, hv, _⟩
        · exact ⟨none, 0, by rw [hv, h0]⟩
        · exact ⟨_, c, hv⟩
      subst hv
      obtain ⟨h1, h2, C⟩ := HI.out
      have HF : Hid (ps.length = k ∧ k = n ∧ (∀ q ∈ ps, Small q.1) ∧ wr.ownsRow (w.heap.size + 3) 37 4 (.slice aR k cR) k (flatR ps) ∧ RowR (fun b => w.heap.size + 3 ≤ b ∧ some b ≠ (Value.slice aR k cR).ownBlock) wr ps ∧ Ext w wr) := ⟨h1, hkn, h2, C.own, C.row.imp (fun b hb _ => hb.1), C.ext⟩
      obtain ⟨x0, x1, x2, x3, s0, s1, s2, s3⟩ := (⟨C.out.cell 0 _ rfl, C.out.cell 1 _ rfl, C.out.cell 2 _ rfl, C.out.cell 3 _ rfl, C.res.cell 0 _ rfl, C.res.cell 1 _ rfl, C.res.cell 2 _ rfl, C.res.cell 3 _ rfl⟩ : _ ∧ _ ∧ _ ∧ _ ∧ _ ∧ _ ∧ _ ∧ _)
      have fR := C.res.free
      have hlo := C.low
      have hhi := C.high
      clear h1 h2 C HI hkn
      go_wp2
      refine bodyPost_ret (v := .agg #[.int .i64 ar, .int .i64 ac, .int .i64 da, .slice aR k cR]) (by simp [results, Try.results85, go_sem, *]) rfl ?_
      refine ⟨aR, k, cR, rfl, ps, HF.out.1, HF.out.2.1, HF.out.2.2.1, ?_, ?_, ?_⟩
      · exact own_lower (own_set9 (own_set9 (own_set9 (own_set9 HF.out.2.2.2.1 (by omega) _ _) (by omega) _ _) (by omega) _ _) (by omega) _ _) (by omega)
      · exact ((((HF.out.2.2.2.2.1.set (fun b hb => by have := hb.1; omega) _ _).set (fun b hb => by have := hb.1; omega) _ _).set (fun b hb => by have := hb.1; omega) _ _).set (fun b hb => by have := hb.1; omega) _ _).imp (fun b hb _ => ⟨by have := hb.1; omega, hb.2⟩)
      · exact (((HF.out.2.2.2.2.2.set (by omega) _ _).set (by omega) _ _).set (by omega) _ _).set (by omega) _ _

end Go.Proofs.Ytoknlaaghjlnaaa
