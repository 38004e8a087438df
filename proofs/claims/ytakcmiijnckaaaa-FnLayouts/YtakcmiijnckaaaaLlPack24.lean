/- What spec's l11Lines draws: lines that are right. (Written by mkdl.py.) -/
import Derived.Test.YtakcmiijnckaaaaLlPack22
import Derived.Test.YtakcmiijnckaaaaLlPack18
import Derived.Test.YtakcmiijnckaaaaLlPack9
import Derived.Deep.Cut
/- Rows of lines of the call's own; one line drawn. -/
namespace Go.Proofs.Ytakcmiijnckaaaa
open Go.RowKit
set_option linter.unusedVariables false

/-- A line's seven values. -/
def sev (l : Ln) : List Value := [.string l.lab, .int .i64 l.wd.1, .int .i64 l.wd.2.1, .int .i64 l.wd.2.2.1, .int .i64 l.wd.2.2.2, .string l.yes, .string l.no]

def flatL (ls : List Ln) : List Value := ls.flatMap sev

theorem flatL_append (l m : List Ln) : flatL (l ++ m) = flatL l ++ flatL m := by simp [flatL]

theorem flatL_at : ∀ (ls : List Ln) (j i : Nat), j < ls.length → i < 7 → (flatL ls)[j * 7 + i]? = (sev (ls.getD j zeroL))[i]?
  | l :: ls, 0, i, _, hi => by
    have hf : flatL (l :: ls) = sev l ++ flatL ls := by simp [flatL]
    rw [hf, Nat.zero_mul, Nat.zero_add, List.getElem?_append_left (by simp [sev]; omega)]
    rfl
  | l :: ls, j + 1, i, h, hi => by
    have hf : flatL (l :: ls) = sev l ++ flatL ls := by simp [flatL]
    rw [hf, List.getElem?_append_right (by simp [sev]; omega)]
    have e : (j + 1) * 7 + i - (sev l).length = j * 7 + i := by simp [sev]; omega
    rw [e, flatL_at ls j i (by simpa using h) hi]
    rfl

/-- These lines lie in a row of the call's own, not below B, which may be written. -/
def OwnL (w : World) (B : Nat) (v : Value) (ls : List Ln) : Prop := w.ownsRow B 37 7 v ls.length (flatL ls)

theorem OwnL.lns {w : World} {B : Nat} {v : Value} {ls : List Ln} (h : OwnL w B v ls) : ∃ a cap, v = .slice a ls.length cap ∧ ls.length ≤ cap ∧ Lns w a ls ∧ (0 < ls.length → ∃ g, a = some ⟨g, 0, none⟩ ∧ B ≤ g ∧ g < w.heap.size ∧ ∀ j, w.frozen? ⟨g, j, none⟩ = false) := by
  have hown : w.ownsRow B 37 7 v ls.length (flatL ls) := h
  rcases h.2 with ⟨rfl, h0⟩ | ⟨g, cap, cur, rfl, hg, hh, hnc, hcp, hcs, htake⟩
  · exact ⟨none, 0, by rw [h0], by omega, fun hp => by omega, fun hp => by omega⟩
  · refine ⟨_, cap, rfl, hnc, fun hp => ⟨g, 0, rfl, fun j hj => ?_⟩, fun hp => ⟨g, rfl, hg, (Array.getElem?_eq_some_iff.1 hh).1, fun j => frozen_of_row w g j cur 37 hh⟩⟩
    have cell : ∀ i v, i < 7 → (sev (ls.getD j zeroL))[i]? = some v → w.cell? ⟨g, j * 7 + i, none⟩ = some v := fun i v hi hv => by
      have hc := hown.cells (g := g) rfl (j * 7 + i) v (by rw [flatL_at ls j i hj hi]; exact hv)
      rwa [Addr.add_lit, Nat.zero_add] at hc
    rw [Nat.zero_add]
    exact ⟨cell 0 _ (by omega) rfl, cell 1 _ (by omega) rfl, cell 2 _ (by omega) rfl, cell 3 _ (by omega) rfl, cell 4 _ (by omega) rfl, cell 5 _ (by omega) rfl, cell 6 _ (by omega) rfl⟩

set_option maxRecDepth 100000 in
set_option maxHeartbeats 2000000 in
theorem word_any (o k : Int) (w : World) : Calls Try.prog 61 #[.int .i64 o, .int .i64 k] w fun e w' => e = .returned (.agg #[.string ⟨#[]⟩, .int .i64 o, .int .i64 k, .int .i64 0, .int .i64 0, .string ⟨#[]⟩, .string ⟨#[]⟩]) ∧ Ext w w' := by
  go_enter Try.func61, Try.ntmps61
  go_wp2
  refine bodyPost_ret (v := .agg #[.string ⟨#[]⟩, .int .i64 o, .int .i64 k, .int .i64 0, .int .i64 0, .string ⟨#[]⟩, .string ⟨#[]⟩]) (by simp [results, Try.results61, go_sem, *]) rfl ⟨rfl, ?_⟩
  go_grown

set_option maxRecDepth 100000 in
set_option maxHeartbeats 2000000 in
theorem asks_any (o k : Int) (yes no : ByteArray) (w : World) : Calls Try.prog 64 #[.int .i64 o, .int .i64 k, .string yes, .string no] w fun e w' => e = .returned (.agg #[.string ⟨#[]⟩, .int .i64 o, .int .i64 k, .int .i64 0, .int .i64 0, .string yes, .string no]) ∧ Ext w w' := by
  go_enter Try.func64, Try.ntmps64
  go_wp2
  refine bodyPost_ret (v := .agg #[.string ⟨#[]⟩, .int .i64 o, .int .i64 k, .int .i64 0, .int .i64 0, .string yes, .string no]) (by simp [results, Try.results64, go_sem, *]) rfl ⟨rfl, ?_⟩
  go_grown

theorem decS_small {i : Nat} (h : i < 4) : decS i = [UInt8.ofNat (48 + i)] := by
  have : i = 0 ∨ i = 1 ∨ i = 2 ∨ i = 3 := by omega
  rcases this with rfl | rfl | rfl | rfl <;> decide

/-- Lines drawn so far: a row of them, the cursor, what has turned. -/
def StD (w W : World) (p : Nat) (a : Option Addr) (len cap : Nat) (v : Value) (l : List Ln) : Prop := OwnL W w.heap.size v l ∧ Cur W p a len cap ∧ w.grownBy W (some p)

theorem grown_on {w W W' : World} {row : Option Nat} (h : w.grownBy W row) (hE : Ext W W') : w.grownBy W' row :=
  ⟨hE.os.trans h.os, hE.tape.trans h.tape, hE.output.trans h.output, Nat.le_trans h.size hE.size, fun i hi hne => (hE.block i (Nat.lt_of_lt_of_le hi h.size)).trans (h.block i hi hne)⟩

theorem own_grown {w w' : World} {base e size p : Nat} {v : Value} {n : Nat} {xs : List Value} (h : w.ownsRow base e size v n xs) (hg : w.grownBy w' (some p)) (hp : p < base) : w'.ownsRow base e size v n xs := by
  refine ⟨h.1, ?_⟩
  rcases h.2 with hn | ⟨g, cap, cur, rfl, hg2, hh, rest⟩
  · exact .inl hn
  · exact .inr ⟨g, cap, cur, rfl, hg2, (hg.block g (Array.getElem?_eq_some_iff.1 hh).1 (ne_some (by omega))).trans hh, rest⟩

theorem ext_grown {W W' : World} (h : Ext W W') : W.grownBy W' none := ⟨h.os, h.tape, h.output, h.size, fun i hi _ => h.block i hi⟩

theorem StD.ext {w W W' : World} {p : Nat} {a : Option Addr} {len cap : Nat} {v : Value} {l : List Ln} (h : StD w W p a len cap v l) (hE : Ext W W') : StD w W' p a len cap v l :=
  ⟨own_below h.1 hE, h.2.1.kept (ext_grown hE) (by simp) (fun _ _ _ _ => by simp), grown_on h.2.2 hE⟩

theorem StD.draw {w W W' : World} {p : Nat} {a : Option Addr} {len cap : Nat} {v : Value} {l : List Ln} (h : StD w W p a len cap v l) (hp : p < w.heap.size) (hc : Cur W' p a len cap) (hg : W.grownBy W' (some p)) : StD w W' p a len cap v l :=
  ⟨own_grown h.1 hg hp, hc, grown_trans h.2.2 hg⟩

theorem StD.push {w W W' : World} {p : Nat} {a : Option Addr} {len cap : Nat} {v v' : Value} {l m : List Ln} {o : Obj} (h : StD w W p a len cap v l) (hp : p < w.heap.size) (hco : ∀ b off, a = some ⟨b, off, none⟩ → 0 < len → b < w.heap.size)
    (hown : W'.ownsRow w.heap.size 37 7 v' (l.length + m.length) (flatL l ++ flatL m)) (hg : (W.alloc o).grownBy W' v.ownBlock) : StD w W' p a len cap v' (l ++ m) := by
  have hrow : ∀ x, v.ownBlock = some x → w.heap.size ≤ x := fun x hx => own_from h.1 hx
  refine ⟨?_, (h.2.1.alloc _).grown hg (B := w.heap.size) hp hco hrow, grown_own (grown_alloc h.2.2 _) hg hrow⟩
  unfold OwnL
  rw [List.length_append, flatL_append]
  exact hown

set_option maxRecDepth 100000 in
set_option maxHeartbeats 16000000 in
theorem drawnLines_any (p : Nat) (a : Option Addr) (len cap : Nat) (w : World) (hC : Cur w p a len cap) :
    Calls Try.prog 35 #[.pointer (some ⟨p, 0, none⟩)] w fun e w' => ∃ v l, e = .returned v ∧ StD w w' p a len cap v l ∧ linesP l ∧ l.length ≤ 106 ∧ ∀ j, j < l.length → shortL (l.getD j zeroL) := by
  obtain ⟨i0, hi, hz0, hz1, hz2⟩ := info_parts Try.infoLn
  have hp := hC.lt
  have HCO : Hid (∀ b off, a = some ⟨b, off, none⟩ → 0 < len → b < w.heap.size) := hC.code
  have HC : Hid (Cur w p a len cap) := hC
  clear hC
  go_enter Try.func35, Try.ntmps35
  go_wp2_with fail
  refine (word_any 1 0 _).mono ?_
  rintro e w1 ⟨rfl, e1⟩
  have HS1 : Hid (StD w (w1.alloc (.cells #[.string ⟨#[]⟩, .int .i64 1, .int .i64 0, .int .i64 0, .int .i64 0, .string ⟨#[]⟩, .string ⟨#[]⟩] 37)) p a len cap (.slice (some ⟨w1.heap.size, 0, none⟩) 1 1) [plainL 1 0]) :=
    ⟨World.ownsRow_lit (e := 37) (size := 7) w1 #[.string ⟨#[]⟩, .int .i64 1, .int .i64 0, .int .i64 0, .int .i64 0, .string ⟨#[]⟩, .string ⟨#[]⟩] 1 e1.size (by decide) rfl, (HC.out.kept (ext_grown e1) (by simp) (fun _ _ _ _ => by simp)).alloc _, grown_alloc (grown_on (grown_refl w (some p)) e1) _⟩
  clear e1
  go_wp2_with fail
  refine (below_any 4 p a len cap _ HS1.out.2.1 (by omega)).mono ?_
  rintro e w2 ⟨x, hx, _, _, rfl, hc2, hg2⟩
  have hx4 := hx (by omega)
  have HS2 : Hid (StD w w2 p a len cap (.slice (some ⟨w1.heap.size, 0, none⟩) 1 1) [plainL 1 0]) := HS1.out.draw hp hc2 hg2
  obtain ⟨n, hn⟩ : ∃ n, n = 1 + x := ⟨_, rfl⟩
  have en : (1 : Int) + (x : Int) = (n : Int) := by omega
  have hn4 : n ≤ 4 := by omega
  clear hc2 hg2 hx hx4 hn HS1 HC
  go_wp2
  go_loopw [3, 5] (fun v i wr => ∃ (k : Nat) (l : List Ln), i = .int .i64 k ∧ k ≤ n ∧ Hid (PreP k l ∧ StD w wr p a len cap v l)) (fun _ i _ => n - (intOf i).toNat)
  case atStart => exact ⟨0, _, rfl, by omega, PreP.start, HS2.out⟩
  case round =>
    obtain ⟨k, l, rfl, hk, HR⟩ := hrel
    clear HS2 en
    have hlen : l.length ≤ 105 := by have := HR.out.1.len; omega
    by_cases hlt : k < n
    · have bk : (k : Int) < (n : Int) := by omega
      have hk4 : k < 4 := by omega
      obtain ⟨D, hD⟩ : ∃ D : ByteArray, D = ⟨(decS k).toArray⟩ := ⟨_, rfl⟩
      obtain ⟨A, hA⟩ : ∃ A, A = labA k := ⟨_, rfl⟩
      obtain ⟨Bb, hBb⟩ : ∃ A, A = labB k := ⟨_, rfl⟩
      have HDE : Hid (∀ w, Calls Try.prog 63 #[.int .i64 (k : Int)] w fun e w' => e = .returned (.string D) ∧ Below w.heap.size w w') := fun w => by rw [hD]; exact sDec_nat k _ w rfl (by omega)
      have had1 : ∀ wx, (Op.stringOp .add ⟨#[97]⟩ D).run Try.prog wx = .ok (.string A) wx := fun wx => by
        rw [hD, hA, decS_small hk4]
        exact add_cons wx 97 [UInt8.ofNat (48 + k)] (by simp)
      have had2 : ∀ wx, (Op.stringOp .add ⟨#[98]⟩ D).run Try.prog wx = .ok (.string Bb) wx := fun wx => by
        rw [hD, hBb, decS_small hk4]
        exact add_cons wx 98 [UInt8.ofNat (48 + k)] (by simp)
      have HM0 : Hid (MidP k 0 l) := MidP.start HR.out.1
      have HS3 : Hid (StD w wr p a len cap u3 l) := HR.out.2
      have HAB : Hid (A = labA k ∧ Bb = labB k) := ⟨hA, hBb⟩
      clear hD hA hBb HR
      go_wp2_with fail
      refine (HDE.out _).mono ?_
      rintro e w2 ⟨rfl, e2⟩
      have HS4 : Hid (StD w w2 p a len cap u3 l) := HS3.out.ext e2
      clear e2 HS3
      go_wp2_with fail
      refine (HDE.out _).mono ?_
      rintro e w3 ⟨rfl, e3⟩
      have HS5 : Hid (StD w w3 p a len cap u3 l) := HS4.out.ext e3
      clear e3 HS4 HDE
      go_wp2_with fail
      refine (below_any 4 p a len cap _ HS5.out.2.1 (by omega)).mono ?_
      rintro e w4 ⟨x, hx, _, _, rfl, hc4, hg4⟩
      have hx4 := hx (by omega)
      have HS6 : Hid (StD w w4 p a len cap u3 l) := HS5.out.draw hp hc4 hg4
      obtain ⟨o, ho⟩ : ∃ o, o = 3 + x := ⟨_, rfl⟩
      have eo : (3 : Int) + (x : Int) = (o : Int) := by omega
      have ho6 : 3 ≤ o ∧ o ≤ 6 := by omega
      clear hc4 hg4 hx ho HS5 hx4
      go_wp2_with fail
      refine (half_any p a len cap _ HS6.out.2.1).mono ?_
      rintro e w5 ⟨z, hz, rfl, hc5, hg5⟩
      have HS7 : Hid (StD w w5 p a len cap u3 l) := HS6.out.draw hp hc5 hg5
      clear hc5 hg5 HS6 had1 had2
      go_wp2_with fail
      refine (asks_any (o : Int) (z : Int) A Bb _).mono ?_
      rintro e w6 ⟨rfl, e6⟩
      have HS8 : Hid (StD w w6 p a len cap u3 l) := HS7.out.ext e6
      have HMA : Hid (midL (labA k) (labB k) ⟨noText, ((o : Int), (z : Int), 0, 0), A, Bb⟩) := by rw [HAB.out.1, HAB.out.2]; exact mid_ask (by omega) (by omega)
      clear e6 HS7
      have hown : w6.ownsRow w.heap.size 37 7 u3 l.length (flatL l) := HS8.out.1
      have hz4 : w.heap.size ≤ w6.heap.size := HS8.out.2.2.size
      go_wp2_with (at_builtin; refine wpList_append_own _ rfl _ _ 24 rfl w.heap.size 37 i0 (.agg #[.string ⟨#[]⟩, .int .i64 0, .int .i64 0, .int .i64 0, .int .i64 0, .string ⟨#[]⟩, .string ⟨#[]⟩]) 7 80 Try.underlying24 hi hz0 hz1 hz2 rfl (by decide) _ l.length _ rfl (hown.alloc _) ⟨w6.heap.size, 0, none⟩ 1 1 ([.string ⟨#[]⟩, .int .i64 (o : Int), .int .i64 (z : Int), .int .i64 0, .int .i64 0, .string A, .string Bb]) rfl rfl ?c1 ?c2 ?c3 ?c4 ?c5 ?_)
      case c1 =>
        intro j u hu
        have := (CellsAt.new w6 ([.string ⟨#[]⟩, .int .i64 (o : Int), .int .i64 (z : Int), .int .i64 0, .int .i64 0, .string A, .string Bb]) 37).2 j u hu
        first
          | (rw [Addr.add_lit, Nat.zero_add]; exact this)
          | exact hu
          | simpa using hu
      case c2 => intro u hu; simp at hu; rcases hu with rfl | rfl | rfl | rfl | rfl | rfl | rfl <;> rfl
      case c3 => unfold maxLen; omega
      case c4 => omega
      case c5 => first | omega | (simp; omega)
      intro v' w8 hown8 hgrow8 _
      have HX8 : Hid (StD w w8 p a len cap v' (l ++ [⟨noText, ((o : Int), (z : Int), 0, 0), A, Bb⟩])) := HS8.out.push hp HCO.out (by exact hown8) hgrow8
      clear hgrow8 hown8 hown
      have HM1 : Hid (MidP k 1 (l ++ [⟨noText, ((o : Int), (z : Int), 0, 0), A, Bb⟩])) := HM0.out.push HMA.out
      generalize l ++ [⟨noText, ((o : Int), (z : Int), 0, 0), A, Bb⟩] = l1 at *
      clear HS8 HMA HM0 hz4 eo
      go_wp2_with fail
      go_loopw [3, 8] (fun v i wr => ∃ (q : Nat) (l : List Ln), i = .int .i64 q ∧ q ≤ 20 ∧ Hid (MidP k (1 + q) l ∧ StD w wr p a len cap v l)) (fun _ i _ => 21 - (intOf i).toNat)
      case atStart => exact ⟨0, l1, rfl, by omega, HM1.out, HX8.out⟩
      case round =>
        obtain ⟨q, l2, rfl, hq, HR2⟩ := hrel
        clear HM1 HX8
        have hlen2 : l2.length ≤ 105 := by have := HR2.out.1.len; omega
        go_wp2_with fail
        refine (pick_list [0, 1, 3, 14, 15, 16, 20] wr.heap.size p a len cap _ (HR2.out.2.2.1.alloc _) (Blk.new wr [.int .i64 0, .int .i64 1, .int .i64 3, .int .i64 14, .int .i64 15, .int .i64 16, .int .i64 20] 3) (by have h1 := HR2.out.2.2.2.size; have := Nat.lt_of_lt_of_le hp h1; omega) (by decide) (by decide)).mono ?_
        rintro e w9 ⟨zz, hzz, rfl, hc9, hg9⟩
        have hz20 : zz ≤ 20 := by simp at hzz; omega
        have HS9 : Hid (StD w w9 p a len cap u3 l2) := (HR2.out.2.ext (Ext.one _ _)).draw hp hc9 hg9
        have HM2 : Hid (MidP k (1 + q) l2) := HR2.out.1
        clear hzz hc9 hg9 HR2
        by_cases hqz : (q : Int) < zz
        · go_wp2_with fail
          refine (half_any p a len cap _ HS9.out.2.1).mono ?_
          rintro e w10 ⟨h1, hh1, rfl, hc10, hg10⟩
          have HS10 : Hid (StD w w10 p a len cap u3 l2) := HS9.out.draw hp hc10 hg10
          clear hc10 hg10 HS9
          go_wp2_with fail
          refine (word_any 2 (h1 : Int) _).mono ?_
          rintro e w11 ⟨rfl, e11⟩
          have HS11 : Hid (StD w w11 p a len cap u3 l2) := HS10.out.ext e11
          clear e11 HS10
          have hown : w11.ownsRow w.heap.size 37 7 u3 l2.length (flatL l2) := HS11.out.1
          have hz4 : w.heap.size ≤ w11.heap.size := HS11.out.2.2.size
          go_wp2_with (at_builtin; refine wpList_append_own _ rfl _ _ 24 rfl w.heap.size 37 i0 (.agg #[.string ⟨#[]⟩, .int .i64 0, .int .i64 0, .int .i64 0, .int .i64 0, .string ⟨#[]⟩, .string ⟨#[]⟩]) 7 80 Try.underlying24 hi hz0 hz1 hz2 rfl (by decide) _ l2.length _ rfl (hown.alloc _) ⟨w11.heap.size, 0, none⟩ 1 1 ([.string ⟨#[]⟩, .int .i64 2, .int .i64 (h1 : Int), .int .i64 0, .int .i64 0, .string ⟨#[]⟩, .string ⟨#[]⟩]) rfl rfl ?c1 ?c2 ?c3 ?c4 ?c5 ?_)
          case c1 =>
            intro j u hu
            have := (CellsAt.new w11 ([.string ⟨#[]⟩, .int .i64 2, .int .i64 (h1 : Int), .int .i64 0, .int .i64 0, .string ⟨#[]⟩, .string ⟨#[]⟩]) 37).2 j u hu
            first
              | (rw [Addr.add_lit, Nat.zero_add]; exact this)
              | exact hu
              | simpa using hu
          case c2 => intro u hu; simp at hu; rcases hu with rfl | rfl | rfl | rfl | rfl | rfl | rfl <;> rfl
          case c3 => unfold maxLen; omega
          case c4 => omega
          case c5 => first | omega | (simp; omega)
          intro v' w8 hown8 hgrow8 _
          have HX8 : Hid (StD w w8 p a len cap v' (l2 ++ [plainL 2 (h1 : Int)])) := HS11.out.push hp HCO.out (by exact hown8) hgrow8
          clear hgrow8 hown8 hown
          have HM3 : Hid (MidP k (1 + (q + 1)) (l2 ++ [plainL 2 (h1 : Int)])) := by have := HM2.out.push (mid_plain (k := (h1 : Int)) (by omega)); rw [show 1 + (q + 1) = 1 + q + 1 by omega]; exact this
          clear HM2 HS11 hz4
          go_wp2
          go_roundw
          case rel => exact ⟨q + 1, _, by go_num, by omega, HM3.out, HX8.out⟩
          case measure => simp [intOf]; omega
        · go_wp2_with fail
          refine (once_any 2 p a len cap _ HS9.out.2.1 (by omega)).mono ?_
          rintro e w10 ⟨bb, rfl, hc10, hg10⟩
          have HS10 : Hid (StD w w10 p a len cap u3 l2) := HS9.out.draw hp hc10 hg10
          have HM3 : Hid (MidP k (1 + q) l2) := HM2.out
          clear hc10 hg10 HS9 HM2 hqz hz20
          cases bb with
          | true =>
            go_wp2_with fail
            refine (asks_any 7 0 Bb ⟨#[]⟩ _).mono ?_
            rintro e w11 ⟨rfl, e11⟩
            have HS11 : Hid (StD w w11 p a len cap u3 l2) := HS10.out.ext e11
            clear e11 HS10
            have hown : w11.ownsRow w.heap.size 37 7 u3 l2.length (flatL l2) := HS11.out.1
            have hz4 : w.heap.size ≤ w11.heap.size := HS11.out.2.2.size
            go_wp2_with (at_builtin; refine wpList_append_own _ rfl _ _ 24 rfl w.heap.size 37 i0 (.agg #[.string ⟨#[]⟩, .int .i64 0, .int .i64 0, .int .i64 0, .int .i64 0, .string ⟨#[]⟩, .string ⟨#[]⟩]) 7 80 Try.underlying24 hi hz0 hz1 hz2 rfl (by decide) _ l2.length _ rfl (hown.alloc _) ⟨w11.heap.size, 0, none⟩ 1 1 ([.string ⟨#[]⟩, .int .i64 7, .int .i64 0, .int .i64 0, .int .i64 0, .string Bb, .string ⟨#[]⟩]) rfl rfl ?c1 ?c2 ?c3 ?c4 ?c5 ?_)
            case c1 =>
              intro j u hu
              have := (CellsAt.new w11 ([.string ⟨#[]⟩, .int .i64 7, .int .i64 0, .int .i64 0, .int .i64 0, .string Bb, .string ⟨#[]⟩]) 37).2 j u hu
              first
                | (rw [Addr.add_lit, Nat.zero_add]; exact this)
                | exact hu
                | simpa using hu
            case c2 => intro u hu; simp at hu; rcases hu with rfl | rfl | rfl | rfl | rfl | rfl | rfl <;> rfl
            case c3 => unfold maxLen; omega
            case c4 => omega
            case c5 => first | omega | (simp; omega)
            intro v' w8 hown8 hgrow8 _
            have HX8 : Hid (StD w w8 p a len cap v' (l2 ++ [⟨noText, (7, 0, 0, 0), Bb, noText⟩])) := HS11.out.push hp HCO.out (by exact hown8) hgrow8
            clear hgrow8 hown8 hown
            have HM4 : Hid (MidP k (1 + q + 1) (l2 ++ [⟨noText, (7, 0, 0, 0), Bb, noText⟩])) := HM3.out.push (by rw [HAB.out.2]; exact mid_jump)
            have hlen3 : (l2 ++ [Ln.mk noText (7, 0, 0, 0) Bb noText]).length ≤ 106 := by simp; omega
            generalize l2 ++ [⟨noText, (7, 0, 0, 0), Bb, noText⟩] = l3 at *
            have hqq : 1 + q + 1 ≤ 22 := by omega
            generalize 1 + q + 1 = kk at *
            generalize v' = u3 at *
            have HS12 : Hid (StD w w8 p a len cap u3 l3) := HX8.out
            clear HM3 HS11 hz4 HX8
            go_wp2_with fail
            refine (below_any 8 p a len cap _ HS12.out.2.1 (by omega)).mono ?_
            rintro e w13 ⟨ux, hux, _, _, rfl, hc13, hg13⟩
            have hu8 := hux (by omega)
            have HS13 : Hid (StD w w13 p a len cap u3 l3) := HS12.out.draw hp hc13 hg13
            clear hc13 hg13 hux HS12
            go_wp2_with fail
            refine (word_any 1 (ux : Int) _).mono ?_
            rintro e w14 ⟨rfl, e14⟩
            have HS14 : Hid (StD w w14 p a len cap u3 l3) := HS13.out.ext e14
            clear e14 HS13
            have hown : w14.ownsRow w.heap.size 37 7 u3 l3.length (flatL l3) := HS14.out.1
            have hz4 : w.heap.size ≤ w14.heap.size := HS14.out.2.2.size
            go_wp2_with (at_builtin; refine wpList_append_own _ rfl _ _ 24 rfl w.heap.size 37 i0 (.agg #[.string ⟨#[]⟩, .int .i64 0, .int .i64 0, .int .i64 0, .int .i64 0, .string ⟨#[]⟩, .string ⟨#[]⟩]) 7 80 Try.underlying24 hi hz0 hz1 hz2 rfl (by decide) _ l3.length _ rfl (hown.alloc _) ⟨w14.heap.size, 0, none⟩ 2 2 ([.string A, .int .i64 0, .int .i64 0, .int .i64 0, .int .i64 0, .string ⟨#[]⟩, .string ⟨#[]⟩, .string ⟨#[]⟩, .int .i64 1, .int .i64 (ux : Int), .int .i64 0, .int .i64 0, .string ⟨#[]⟩, .string ⟨#[]⟩]) rfl rfl ?c1 ?c2 ?c3 ?c4 ?c5 ?_)
            case c1 =>
              intro j u hu
              have := (CellsAt.new w14 ([.string A, .int .i64 0, .int .i64 0, .int .i64 0, .int .i64 0, .string ⟨#[]⟩, .string ⟨#[]⟩, .string ⟨#[]⟩, .int .i64 1, .int .i64 (ux : Int), .int .i64 0, .int .i64 0, .string ⟨#[]⟩, .string ⟨#[]⟩]) 37).2 j u hu
              first
                | (rw [Addr.add_lit, Nat.zero_add]; exact this)
                | exact hu
                | simpa using hu
            case c2 => intro u hu; simp at hu; rcases hu with rfl | rfl | rfl | rfl | rfl | rfl | rfl | rfl | rfl | rfl | rfl | rfl | rfl | rfl <;> rfl
            case c3 => unfold maxLen; omega
            case c4 => omega
            case c5 => first | omega | (simp; omega)
            intro v' w8 hown8 hgrow8 _
            have HX8 : Hid (StD w w8 p a len cap v' (l3 ++ [placeL A, plainL 1 (ux : Int)])) := HS14.out.push hp HCO.out (by exact hown8) hgrow8
            clear hgrow8 hown8 hown
            have hlen4 : (l3 ++ [placeL A, plainL 1 (ux : Int)]).length ≤ 108 := by simp; omega
            have HL4 : Hid (l3 ++ [placeL A, plainL 1 (ux : Int)] = l3 ++ [placeL A, plainL 1 (ux : Int)]) := rfl
            obtain ⟨l4, hl4⟩ : ∃ x, x = l3 ++ [placeL A, plainL 1 (ux : Int)] := ⟨_, rfl⟩
            rw [← hl4] at HX8 hlen4
            have HL5 : Hid (l4 = l3 ++ [placeL A, plainL 1 (ux : Int)]) := hl4
            clear hl4 HL4 HS14 hz4
            generalize v' = u3 at *
            go_wp2_with fail
            refine (half_any p a len cap _ HX8.out.2.1).mono ?_
            rintro e w15 ⟨vx, hvx, rfl, hc15, hg15⟩
            have HS15 : Hid (StD w w15 p a len cap u3 l4) := HX8.out.draw hp hc15 hg15
            clear hc15 hg15 HX8
            go_wp2_with fail
            refine (word_any 2 (vx : Int) _).mono ?_
            rintro e w16 ⟨rfl, e16⟩
            have HS16 : Hid (StD w w16 p a len cap u3 l4) := HS15.out.ext e16
            clear e16 HS15
            have hown : w16.ownsRow w.heap.size 37 7 u3 l4.length (flatL l4) := HS16.out.1
            have hz4 : w.heap.size ≤ w16.heap.size := HS16.out.2.2.size
            go_wp2_with (at_builtin; refine wpList_append_own _ rfl _ _ 24 rfl w.heap.size 37 i0 (.agg #[.string ⟨#[]⟩, .int .i64 0, .int .i64 0, .int .i64 0, .int .i64 0, .string ⟨#[]⟩, .string ⟨#[]⟩]) 7 80 Try.underlying24 hi hz0 hz1 hz2 rfl (by decide) _ l4.length _ rfl (hown.alloc _) ⟨w16.heap.size, 0, none⟩ 2 2 ([.string Bb, .int .i64 0, .int .i64 0, .int .i64 0, .int .i64 0, .string ⟨#[]⟩, .string ⟨#[]⟩, .string ⟨#[]⟩, .int .i64 2, .int .i64 (vx : Int), .int .i64 0, .int .i64 0, .string ⟨#[]⟩, .string ⟨#[]⟩]) rfl rfl ?c1 ?c2 ?c3 ?c4 ?c5 ?_)
            case c1 =>
              intro j u hu
              have := (CellsAt.new w16 ([.string Bb, .int .i64 0, .int .i64 0, .int .i64 0, .int .i64 0, .string ⟨#[]⟩, .string ⟨#[]⟩, .string ⟨#[]⟩, .int .i64 2, .int .i64 (vx : Int), .int .i64 0, .int .i64 0, .string ⟨#[]⟩, .string ⟨#[]⟩]) 37).2 j u hu
              first
                | (rw [Addr.add_lit, Nat.zero_add]; exact this)
                | exact hu
                | simpa using hu
            case c2 => intro u hu; simp at hu; rcases hu with rfl | rfl | rfl | rfl | rfl | rfl | rfl | rfl | rfl | rfl | rfl | rfl | rfl | rfl <;> rfl
            case c3 => unfold maxLen; omega
            case c4 => omega
            case c5 => first | omega | (simp; omega)
            intro v' w8 hown8 hgrow8 _
            have HX8 : Hid (StD w w8 p a len cap v' (l4 ++ [placeL Bb, plainL 2 (vx : Int)])) := HS16.out.push hp HCO.out (by exact hown8) hgrow8
            clear hgrow8 hown8 hown
            have HPE : Hid (PreP (k + 1) (l4 ++ [placeL Bb, plainL 2 (vx : Int)])) := by
              have := MidP.close hk4 HM4.out hqq (u := (ux : Int)) (v := (vx : Int)) (by omega) (by omega)
              rw [← HAB.out.1, ← HAB.out.2, ← HL5.out] at this
              exact this
            clear HS16 hz4
            go_wp2
            go_roundw
            case rel => exact ⟨k + 1, _, by go_num, by omega, HPE.out, HX8.out⟩
            case measure => simp [intOf]; omega
          | false =>
            have hlen3 : l2.length ≤ 106 := by omega
            have HM4 : Hid (MidP k (1 + q) l2) := HM3.out
            have hqq : 1 + q ≤ 22 := by omega
            generalize 1 + q = kk at *
            have HS12 : Hid (StD w w10 p a len cap u3 l2) := HS10.out
            clear HM3 HS10
            go_wp2_with fail
            refine (below_any 8 p a len cap _ HS12.out.2.1 (by omega)).mono ?_
            rintro e w13 ⟨ux, hux, _, _, rfl, hc13, hg13⟩
            have hu8 := hux (by omega)
            have HS13 : Hid (StD w w13 p a len cap u3 l2) := HS12.out.draw hp hc13 hg13
            clear hc13 hg13 hux HS12
            go_wp2_with fail
            refine (word_any 1 (ux : Int) _).mono ?_
            rintro e w14 ⟨rfl, e14⟩
            have HS14 : Hid (StD w w14 p a len cap u3 l2) := HS13.out.ext e14
            clear e14 HS13
            have hown : w14.ownsRow w.heap.size 37 7 u3 l2.length (flatL l2) := HS14.out.1
            have hz4 : w.heap.size ≤ w14.heap.size := HS14.out.2.2.size
            go_wp2_with (at_builtin; refine wpList_append_own _ rfl _ _ 24 rfl w.heap.size 37 i0 (.agg #[.string ⟨#[]⟩, .int .i64 0, .int .i64 0, .int .i64 0, .int .i64 0, .string ⟨#[]⟩, .string ⟨#[]⟩]) 7 80 Try.underlying24 hi hz0 hz1 hz2 rfl (by decide) _ l2.length _ rfl (hown.alloc _) ⟨w14.heap.size, 0, none⟩ 2 2 ([.string A, .int .i64 0, .int .i64 0, .int .i64 0, .int .i64 0, .string ⟨#[]⟩, .string ⟨#[]⟩, .string ⟨#[]⟩, .int .i64 1, .int .i64 (ux : Int), .int .i64 0, .int .i64 0, .string ⟨#[]⟩, .string ⟨#[]⟩]) rfl rfl ?c1 ?c2 ?c3 ?c4 ?c5 ?_)
            case c1 =>
              intro j u hu
              have := (CellsAt.new w14 ([.string A, .int .i64 0, .int .i64 0, .int .i64 0, .int .i64 0, .string ⟨#[]⟩, .string ⟨#[]⟩, .string ⟨#[]⟩, .int .i64 1, .int .i64 (ux : Int), .int .i64 0, .int .i64 0, .string ⟨#[]⟩, .string ⟨#[]⟩]) 37).2 j u hu
              first
                | (rw [Addr.add_lit, Nat.zero_add]; exact this)
                | exact hu
                | simpa using hu
            case c2 => intro u hu; simp at hu; rcases hu with rfl | rfl | rfl | rfl | rfl | rfl | rfl | rfl | rfl | rfl | rfl | rfl | rfl | rfl <;> rfl
            case c3 => unfold maxLen; omega
            case c4 => omega
            case c5 => first | omega | (simp; omega)
            intro v' w8 hown8 hgrow8 _
            have HX8 : Hid (StD w w8 p a len cap v' (l2 ++ [placeL A, plainL 1 (ux : Int)])) := HS14.out.push hp HCO.out (by exact hown8) hgrow8
            clear hgrow8 hown8 hown
            have hlen4 : (l2 ++ [placeL A, plainL 1 (ux : Int)]).length ≤ 108 := by simp; omega
            have HL4 : Hid (l2 ++ [placeL A, plainL 1 (ux : Int)] = l2 ++ [placeL A, plainL 1 (ux : Int)]) := rfl
            obtain ⟨l4, hl4⟩ : ∃ x, x = l2 ++ [placeL A, plainL 1 (ux : Int)] := ⟨_, rfl⟩
            rw [← hl4] at HX8 hlen4
            have HL5 : Hid (l4 = l2 ++ [placeL A, plainL 1 (ux : Int)]) := hl4
            clear hl4 HL4 HS14 hz4
            generalize v' = u3 at *
            go_wp2_with fail
            refine (half_any p a len cap _ HX8.out.2.1).mono ?_
            rintro e w15 ⟨vx, hvx, rfl, hc15, hg15⟩
            have HS15 : Hid (StD w w15 p a len cap u3 l4) := HX8.out.draw hp hc15 hg15
            clear hc15 hg15 HX8
            go_wp2_with fail
            refine (word_any 2 (vx : Int) _).mono ?_
            rintro e w16 ⟨rfl, e16⟩
            have HS16 : Hid (StD w w16 p a len cap u3 l4) := HS15.out.ext e16
            clear e16 HS15
            have hown : w16.ownsRow w.heap.size 37 7 u3 l4.length (flatL l4) := HS16.out.1
            have hz4 : w.heap.size ≤ w16.heap.size := HS16.out.2.2.size
            go_wp2_with (at_builtin; refine wpList_append_own _ rfl _ _ 24 rfl w.heap.size 37 i0 (.agg #[.string ⟨#[]⟩, .int .i64 0, .int .i64 0, .int .i64 0, .int .i64 0, .string ⟨#[]⟩, .string ⟨#[]⟩]) 7 80 Try.underlying24 hi hz0 hz1 hz2 rfl (by decide) _ l4.length _ rfl (hown.alloc _) ⟨w16.heap.size, 0, none⟩ 2 2 ([.string Bb, .int .i64 0, .int .i64 0, .int .i64 0, .int .i64 0, .string ⟨#[]⟩, .string ⟨#[]⟩, .string ⟨#[]⟩, .int .i64 2, .int .i64 (vx : Int), .int .i64 0, .int .i64 0, .string ⟨#[]⟩, .string ⟨#[]⟩]) rfl rfl ?c1 ?c2 ?c3 ?c4 ?c5 ?_)
            case c1 =>
              intro j u hu
              have := (CellsAt.new w16 ([.string Bb, .int .i64 0, .int .i64 0, .int .i64 0, .int .i64 0, .string ⟨#[]⟩, .string ⟨#[]⟩, .string ⟨#[]⟩, .int .i64 2, .int .i64 (vx : Int), .int .i64 0, .int .i64 0, .string ⟨#[]⟩, .string ⟨#[]⟩]) 37).2 j u hu
              first
                | (rw [Addr.add_lit, Nat.zero_add]; exact this)
                | exact hu
                | simpa using hu
            case c2 => intro u hu; simp at hu; rcases hu with rfl | rfl | rfl | rfl | rfl | rfl | rfl | rfl | rfl | rfl | rfl | rfl | rfl | rfl <;> rfl
            case c3 => unfold maxLen; omega
            case c4 => omega
            case c5 => first | omega | (simp; omega)
            intro v' w8 hown8 hgrow8 _
            have HX8 : Hid (StD w w8 p a len cap v' (l4 ++ [placeL Bb, plainL 2 (vx : Int)])) := HS16.out.push hp HCO.out (by exact hown8) hgrow8
            clear hgrow8 hown8 hown
            have HPE : Hid (PreP (k + 1) (l4 ++ [placeL Bb, plainL 2 (vx : Int)])) := by
              have := MidP.close hk4 HM4.out hqq (u := (ux : Int)) (v := (vx : Int)) (by omega) (by omega)
              rw [← HAB.out.1, ← HAB.out.2, ← HL5.out] at this
              exact this
            clear HS16 hz4
            go_wp2
            go_roundw
            case rel => exact ⟨k + 1, _, by go_num, by omega, HPE.out, HX8.out⟩
            case measure => simp [intOf]; omega
    · have bk : ¬ ((k : Int) < (n : Int)) := by omega
      have HP : Hid (PreP k l) := HR.out.1
      have HS3 : Hid (StD w wr p a len cap u3 l) := HR.out.2
      clear HR hlt
      go_wp2_with fail
      refine (below_any 6 p a len cap _ HS3.out.2.1 (by omega)).mono ?_
      rintro e w2 ⟨y2, hy2, _, _, rfl, hc2, hg2⟩
      have b2 := hy2 (by omega)
      have HS4 : Hid (StD w w2 p a len cap u3 l) := HS3.out.draw hp hc2 hg2
      clear hc2 hg2 hy2 HS3
      go_wp2_with fail
      refine (below_any 4 p a len cap _ HS4.out.2.1 (by omega)).mono ?_
      rintro e w3 ⟨y3, hy3, _, _, rfl, hc3, hg3⟩
      have b3 := hy3 (by omega)
      have HS5 : Hid (StD w w3 p a len cap u3 l) := HS4.out.draw hp hc3 hg3
      obtain ⟨K, hK⟩ : ∃ K, K = 65536 * y2 + y3 := ⟨_, rfl⟩
      have HRS : Hid (∀ w, Calls Try.prog 68 #[.int .i64 (y2 : Int), .int .i64 (y3 : Int)] w fun e w' => e = .returned (.int .i64 (K : Int)) ∧ w = w') := fun w => by rw [hK]; exact sRes_any y2 y3 w (by omega) (by omega)
      have hKb : K ≤ 4294967295 := by omega
      clear hc3 hg3 hy3 HS4 hK
      go_wp2_with fail
      refine (HRS.out _).mono ?_
      rintro e w4 ⟨rfl, rfl⟩
      go_wp2_with fail
      refine (word_any 8 (K : Int) _).mono ?_
      rintro e w5 ⟨rfl, e5⟩
      have HS6 : Hid (StD w w5 p a len cap u3 l) := HS5.out.ext e5
      clear e5 HS5
      have hown : w5.ownsRow w.heap.size 37 7 u3 l.length (flatL l) := HS6.out.1
      have hz4 : w.heap.size ≤ w5.heap.size := HS6.out.2.2.size
      go_wp2_with (at_builtin; refine wpList_append_own _ rfl _ _ 24 rfl w.heap.size 37 i0 (.agg #[.string ⟨#[]⟩, .int .i64 0, .int .i64 0, .int .i64 0, .int .i64 0, .string ⟨#[]⟩, .string ⟨#[]⟩]) 7 80 Try.underlying24 hi hz0 hz1 hz2 rfl (by decide) _ l.length _ rfl (hown.alloc _) ⟨w5.heap.size, 0, none⟩ 1 1 ([.string ⟨#[]⟩, .int .i64 8, .int .i64 (K : Int), .int .i64 0, .int .i64 0, .string ⟨#[]⟩, .string ⟨#[]⟩]) rfl rfl ?c1 ?c2 ?c3 ?c4 ?c5 ?_)
      case c1 =>
        intro j u hu
        have := (CellsAt.new w5 ([.string ⟨#[]⟩, .int .i64 8, .int .i64 (K : Int), .int .i64 0, .int .i64 0, .string ⟨#[]⟩, .string ⟨#[]⟩]) 37).2 j u hu
        first
          | (rw [Addr.add_lit, Nat.zero_add]; exact this)
          | exact hu
          | simpa using hu
      case c2 => intro u hu; simp at hu; rcases hu with rfl | rfl | rfl | rfl | rfl | rfl | rfl <;> rfl
      case c3 => unfold maxLen; omega
      case c4 => omega
      case c5 => first | omega | (simp; omega)
      intro v' w8 hown8 hgrow8 _
      have HX8 : Hid (StD w w8 p a len cap v' (l ++ [plainL 8 (K : Int)])) := HS6.out.push hp HCO.out (by exact hown8) hgrow8
      clear hgrow8 hown8 hown
      obtain ⟨d1, d2, d3⟩ := HP.out.done (k := (K : Int)) (by omega) (by omega)
      have HD : Hid (linesP (l ++ [plainL 8 (K : Int)]) ∧ (l ++ [plainL 8 (K : Int)]).length ≤ 106 ∧ ∀ j, j < (l ++ [plainL 8 (K : Int)]).length → shortL ((l ++ [plainL 8 (K : Int)]).getD j zeroL)) := ⟨d1, d2, d3⟩
      clear d1 d2 d3
      go_wp2
      go_ret
      exact ⟨_, _, rfl, HX8.out, HD.out⟩

end Go.Proofs.Ytakcmiijnckaaaa
