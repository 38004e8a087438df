/- What impl's SignsOf answers of every text: its signs, in memory of its own. -/
import Derived.Test.YtojaohdmfahpmaaGreatDoorPiecesI
namespace Go.Proofs.YtojaohdmfahpmaaGreatDoor
open Go.RowKit
set_option linter.unusedVariables false

/-- The cells of signs in a row. -/
def sg3 (p : Sg) : List Value := [.int .i64 p.1, .string (txt p.2.1), .int .i64 p.2.2]

def flatG (ps : List Sg) : List Value := ps.flatMap sg3

theorem flatG_push (ps : List Sg) (p : Sg) : flatG ps ++ sg3 p = flatG (ps ++ [p]) := by simp [flatG]

theorem flatG_at : ∀ (ps : List Sg) (j : Nat), j < ps.length → (flatG ps)[j * 3]? = some (.int .i64 (ps.getD j zeroG).1) ∧ (flatG ps)[j * 3 + 1]? = some (.string (txt (ps.getD j zeroG).2.1)) ∧ (flatG ps)[j * 3 + 2]? = some (.int .i64 (ps.getD j zeroG).2.2)
  | p :: ps, 0, _ => by simp [flatG, sg3]
  | p :: ps, j + 1, h => by
    have ih := flatG_at ps j (by simpa using h)
    have e : ∀ i, (flatG (p :: ps))[(j + 1) * 3 + i]? = (flatG ps)[j * 3 + i]? := fun i => by
      have hf : flatG (p :: ps) = sg3 p ++ flatG ps := by simp [flatG]
      rw [hf, List.getElem?_append_right (by simp [sg3]; omega)]
      congr 1
      simp [sg3]
      omega
    rw [e 1, e 2, ← Nat.add_zero ((j + 1) * 3), e 0]
    exact ih

theorem Tryz.infoG : (Tryz.prog.info? 98).map (fun i => (i.zero, i.size, i.bytes)) = some (some (.agg #[.int .i64 0, .string ⟨#[]⟩, .int .i64 0]), 3, 32) := by kernel_rfl

/-- These signs lie in a row of their own, not below B, which may be written. -/
def Own3 (w : World) (B : Nat) (v : Value) (ps : List Sg) : Prop := w.ownsRow B 98 3 v ps.length (flatG ps)

theorem Own3.ext {w w' : World} {B : Nat} {v : Value} {ps : List Sg} (h : Own3 w B v ps) (hE : Ext w w') : Own3 w' B v ps := own_below h hE

theorem Own3.nil (w : World) (B : Nat) : Own3 w B (.slice none 0 0) [] := World.ownsRow_nil _ _ _ _

theorem Own3.lit (w : World) (B : Nat) (hB : B ≤ w.heap.size) : Own3 (w.alloc (.cells #[] 98)) B (.slice (some ⟨w.heap.size, 0, none⟩) 0 0) [] := World.ownsRow_lit (e := 98) (size := 3) w #[] 0 hB (by decide) rfl

/-- A text's signs, or that it has none. -/
def signsR (l : List UInt8) : Option (List Sg) := if 1200 < l.length then none else SG l

theorem own_slice8 {w : World} {B e size : Nat} {v : Value} {n : Nat} {xs : List Value} (h : w.ownsRow B e size v n xs) : ∃ a c, v = .slice a n c ∧ (0 < n → ∃ g, a = some ⟨g, 0, none⟩) := by
  rcases h.2 with ⟨rfl, h0⟩ | ⟨g, cap, _, rfl, _⟩
  · exact ⟨none, 0, by rw [h0], by omega⟩
  · exact ⟨_, _, rfl, fun _ => ⟨g, rfl⟩⟩

theorem SP_take_blank {P : List (Nat × List UInt8)} {k : Nat} {t : List UInt8} {out : List Sg} (h : SP (P.take k) = some out) (hk : P[k]? = some (0, t)) : SP (P.take (k + 1)) = some out := by
  rw [List.take_add_one, hk, SP_append, h]
  simp [SP, behind]

theorem SP_take_some {P : List (Nat × List UInt8)} {k q : Nat} {t : List UInt8} {out : List Sg} {s : Sg} (h : SP (P.take k) = some out) (hk : P[k]? = some (q, t)) (hq : ¬ q = 0) (hs : signOf q t = some s) : SP (P.take (k + 1)) = some (out ++ [s]) := by
  rw [List.take_add_one, hk, SP_append, h]
  simp [SP, behind, hq, hs]

theorem SP_take_none {P : List (Nat × List UInt8)} {k q : Nat} {t : List UInt8} {out : List Sg} (h : SP (P.take k) = some out) (hk : P[k]? = some (q, t)) (hq : ¬ q = 0) (hs : signOf q t = none) : SP P = none := by
  have h1 : SP (P.take (k + 1)) = none := by
    rw [List.take_add_one, hk, SP_append, h]
    simp [SP, behind, hq, hs]
  rw [← List.take_append_drop (k + 1) P, SP_append, h1]
  rfl

set_option maxRecDepth 100000 in
set_option maxHeartbeats 2000000 in
theorem iSigns_any (s : ByteArray) (w : World) :
    Calls Tryz.prog 26 #[.string s] w fun e w' => ∃ v, e = .returned (.tuple #[v, .bool (signsR s.data.toList).isSome]) ∧ Own3 w' w.heap.size v ((signsR s.data.toList).getD []) ∧ Ext w w' := by
  obtain ⟨i0, hi, hz0, hz1, hz2⟩ := info_parts Tryz.infoG
  obtain ⟨r, hr⟩ : ∃ r, r = signsR s.data.toList := ⟨_, rfl⟩
  rw [← hr]
  have hlen : s.data.toList.length = s.size := by simp
  by_cases hbig : 1200 < s.size
  · have HR : Hid (r = none) := by rw [hr]; unfold signsR; rw [if_pos (by omega)]; rfl
    clear hr hlen
    go_enter Tryz.func26, Tryz.ntmps26
    go_wp2
    go_ret2
    exact ⟨_, by rw [HR.out]; rfl, by rw [HR.out]; exact Own3.nil _ _, Ext.refl _⟩
  have HR : Hid (r = SG s.data.toList) := by rw [hr]; unfold signsR; rw [if_neg (by omega)]; rfl
  clear hr hlen
  have hs : s.size ≤ 1200 := by omega
  go_enter Tryz.func26, Tryz.ntmps26
  go_wp2_with fail
  refine (pieces_any s _ hs).mono ?_
  rintro e w1 ⟨vp, P, rfl, hownP, hSG, hall, hPl, e1⟩
  have HS : Hid (r = SP P) := by rw [HR.out, hSG]; rfl
  have HA : Hid (∀ p ∈ P, p.1 ≤ 3 ∧ p.2.length ≤ 1200) := hall
  have HO : Hid (w1.ownsRow w.heap.size 96 2 vp P.length (flatP P)) := hownP
  have E1 : Hid (Ext w w1) := e1
  obtain ⟨ap, cp, rfl, hap⟩ := own_slice8 hownP
  obtain ⟨n, hn⟩ : ∃ n, n = P.length := ⟨_, rfl⟩
  rw [← hn] at hap HO hPl ⊢
  have HN : Hid (n = P.length) := hn
  clear hownP hSG hall e1 hn HR
  go_wp2_with fail
  go_loopw [4, 15] (fun v i wr => ∃ (k : Nat) (out : List Sg), i = .int .i64 k ∧ k ≤ n ∧ out.length ≤ k ∧ Hid (SP (P.take k) = some out) ∧ wr.ownsRow w1.heap.size 98 3 v out.length (flatG out) ∧ Ext w1 wr) (fun _ i _ => n - (intOf i).toNat)
  case atStart => exact ⟨0, [], rfl, by omega, by simp, by simp [Hid, SP], World.ownsRow_nil _ _ _ _, Ext.refl _⟩
  case round =>
    obtain ⟨k, out, rfl, hk, hol, HP, hown, hE⟩ := hrel
    by_cases hlt : k < n
    · have bk : (k : Int) < (n : Int) := by omega
      obtain ⟨g, rfl⟩ := hap (by omega)
      obtain ⟨⟨q, t⟩, hp⟩ : ∃ p, p = P.getD k (0, []) := ⟨_, rfl⟩
      have hkP : k < P.length := by have := HN.out; omega
      have hpk : P[k]? = some (q, t) := by rw [List.getElem?_eq_getElem hkP]; rw [List.getD_eq_getElem?_getD, List.getElem?_eq_getElem hkP] at hp; rw [hp]; rfl
      have hpm := HA.out _ (List.mem_of_getElem? hpk)
      have HT : Hid (P[k]? = some (q, t)) := hpk
      have hof := own_below HO.out hE
      obtain ⟨f0, f1⟩ := flatP_at P k hkP
      rw [← hp] at f0 f1
      have d0 : wr.cell? ⟨g, k * 2, none⟩ = some (.int .i64 (q : Int)) := by
        have := hof.cells (g := g) rfl (k * 2) _ f0
        rwa [Addr.add_lit, Nat.zero_add] at this
      have d1 : wr.cell? ⟨g, k * 2 + 1, none⟩ = some (.string (txt t)) := by
        have := hof.cells (g := g) rfl (k * 2 + 1) _ f1
        rwa [Addr.add_lit, Nat.zero_add] at this
      have hq3 : q ≤ 3 := hpm.1
      obtain ⟨T, hTT⟩ : ∃ T, T = txt t := ⟨_, rfl⟩
      have hTl : T.data.toList = t := by rw [hTT]; simp [txt]
      have hTs : T.size ≤ 1200 := by
        have h1 := hpm.2
        have h2 : T.data.toList.length = T.size := by simp
        rw [hTl] at h2
        simp only at h1
        omega
      rw [← hTT] at d1
      have HC : Hid (T.data.toList = t) := hTl
      have hz3 := hE.size
      clear hof f0 f1 hp hpk hpm hTT hTl
      by_cases hq0 : q = 0
      · subst hq0
        have HN2 : Hid (SP (P.take (k + 1)) = some out) := SP_take_blank HP.out HT.out
        clear HP
        go_wp2
        go_roundw
        case rel => exact ⟨k + 1, out, by go_num, by omega, by omega, HN2, hown.alloc _, hE.alloc _⟩
        case measure => simp [intOf]; omega
      · have dq : ((q : Int) == 0) = false := by simp; omega
        have HG : Hid (∀ w : World, Calls Tryz.prog 60 #[.agg #[.int .i64 (q : Int), .string T]] w fun e w' => ∃ p : Sg, e = .returned (.tuple #[sgV p, .bool (signOf q t).isSome]) ∧ (∀ s, signOf q t = some s → p = s) ∧ Ext w w') := fun w => by
          have := sign_any q T w (by omega) (by omega)
          rw [HC.out] at this
          exact this
        have HO2 : Hid (wr.ownsRow w1.heap.size 98 3 u4 out.length (flatG out)) := hown
        have HE : Hid (Ext w1 wr) := hE
        have hq0' : Hid (¬ q = 0) := hq0
        clear hown hE hq0
        go_wp2_with fail
        refine (HG.out _).mono ?_
        rintro e w2 ⟨⟨pk, pt, pn⟩, rfl, hps, e2⟩
        unfold sgV
        have hx2 : Ext wr w2 := (Ext.one _ _).trans e2
        have E2 : Hid (Ext w1 w2) := HE.out.trans hx2
        have hown2 := own_below HO2.out hx2
        have hz4 := E2.out.size
        have HPS : Hid (∀ s, signOf q t = some s → (pk, pt, pn) = s) := hps
        clear e2 hx2 hps HO2 HE HG d0 d1
        obtain ⟨tx, htx⟩ : ∃ tx, tx = txt pt := ⟨_, rfl⟩
        have HTX : Hid (tx = txt pt) := htx
        simp only
        rw [← htx]
        clear htx
        cases hsg : signOf q t with
        | none =>
          have HT2 : Hid (r = none) := by rw [HS.out]; exact SP_take_none HP.out HT.out hq0'.out hsg
          have E3 : Hid (Ext w w2) := E1.out.trans E2.out
          clear hsg HPS hown2
          simp only [Option.isSome_none]
          go_wp2
          go_ret2
          exact ⟨_, by rw [HT2.out]; rfl, by rw [HT2.out]; exact Own3.nil _ _, E3.out.alloc _⟩
        | some sg =>
          have hsge : (pk, pt, pn) = sg := HPS.out sg hsg
          have HN2 : Hid (SP (P.take (k + 1)) = some (out ++ [(pk, pt, pn)])) := SP_take_some HP.out HT.out hq0'.out (by rw [hsge]; exact hsg)
          clear hsg HPS hsge HP
          simp only [Option.isSome_some]
          go_wp2_with (at_builtin; refine wpList_append_own _ rfl _ _ 55 rfl w1.heap.size 98 i0 (.agg #[.int .i64 0, .string ⟨#[]⟩, .int .i64 0]) 3 32 Tryz.underlying55 hi hz0 hz1 hz2 rfl (by decide) _ out.length _ rfl ((hown2.alloc _).alloc _) ⟨w2.heap.size + 1, 0, none⟩ 1 1 [.int .i64 pk, .string tx, .int .i64 pn] rfl rfl ?c1 ?c2 ?c3 ?c4 ?c5 ?_)
          case c1 =>
            intro j u hu
            have := (CellsAt.new' (w2.alloc (.cells #[.int .i64 pk, .string tx, .int .i64 pn] 98)) [.int .i64 pk, .string tx, .int .i64 pn] 98 (w2.heap.size + 1) (by simp)).2 j u hu
            rw [Addr.add_lit, Nat.zero_add]
            exact this
          case c2 => intro u hu; simp at hu; rcases hu with rfl | rfl | rfl <;> rfl
          case c3 => unfold maxLen; omega
          case c4 => omega
          case c5 => simp; omega
          · intro v' w3 hown3 hgrow _
            have O3 : Hid (w3.ownsRow w1.heap.size 98 3 v' (out ++ [(pk, pt, pn)]).length (flatG (out ++ [(pk, pt, pn)]))) := by
              have e : flatG out ++ [.int .i64 pk, .string tx, .int .i64 pn] = flatG (out ++ [(pk, pt, pn)]) := by rw [HTX.out]; exact flatG_push out (pk, pt, pn)
              rw [e] at hown3
              rw [List.length_append]
              exact hown3
            have E3 : Hid (Ext w1 w3) := Below.grown ((E2.out.alloc _).alloc _) hgrow (by simp; omega) (fun x hx => (hown2.lt x hx).1)
            clear hgrow hown2 hown3 E2
            go_wp2
            go_roundw
            case rel => exact ⟨k + 1, out ++ [(pk, pt, pn)], by go_num, by omega, by simp; omega, HN2, O3.out, E3.out⟩
            case measure => simp [intOf]; omega
    · have bk : ¬ ((k : Int) < (n : Int)) := by omega
      have HT : Hid (r = some out) := by
        have h1 := HP.out
        rw [List.take_of_length_le (by have := HN.out; omega)] at h1
        rw [HS.out, h1]
        rfl
      have E2 : Hid (Ext w wr) := E1.out.trans hE
      have O2 : Hid (Own3 wr w.heap.size u4 out) := own8_base hown E1.out.size
      obtain ⟨a4, c4, rfl, _⟩ := own_slice8 hown
      clear hown hE HP
      go_wp2
      go_ret2
      exact ⟨_, by rw [HT.out]; rfl, by rw [HT.out]; exact O2.out, E2.out⟩

end Go.Proofs.YtojaohdmfahpmaaGreatDoor
