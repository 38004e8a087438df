/- Proved: at every code the law FnPrograms answers true: a drawn right program comes back from impl.ProgramText by ReadProgram; drawn texts, words and programs, right or not, are read and written by impl as by spec, and what impl reads it writes again as it was; no condition. -/
import Derived.Test.YtefiafaokfabiaaSameIns
import Derived.Test.YtefiafaokfabiaaSeqW
import Derived.WalkKit
import Derived.ProofKit
import Derived.OpenShut
import Derived.ShutString
import Derived.ChangeOld
import Derived.Below
import Derived.Deep.RegionHeld3
import Derived.Deep.RegionWith
namespace Go.Proofs.Ytefiafaokfabiaa.FnPrograms
open Go.ChangeShapes Go.WideShapes Go.ChangeAt Go.RowKit
open Go.ChangeMaps (open_string shut_string)
set_option linter.unusedVariables false

theorem own : ownKnob Try.prog.godebug = none := by kernel_rfl
theorem laidOut : laidOutB Try.prog = true := by kernel_rfl

theorem text_list (l : List UInt8) : (⟨l.toArray⟩ : ByteArray).data.toList = l := by simp

set_option maxRecDepth 100000 in
set_option maxHeartbeats 20000000 in
theorem walk (a : Option Addr) (len cap : Nat) (w : World) (raw : Raw w a len) : Calls Try.prog 3 #[.slice a len cap] w fun e w' => e = .returned (.bool true) ∧ Below w.heap.size w w' := by
  by_cases hbig : 1048576 < len
  · go_enter Try.func3, Try.ntmps3
    go_wp2_with (go_at_call 9; refine (big_yes _ _ _ _ hbig).mono ?_; rintro e w' ⟨rfl, rfl⟩)
    go_ret
    exact ⟨rfl, Below.refl _ _⟩
  have HC : Hid (Came w a len) := ⟨by omega, raw⟩
  have hl : len ≤ 1048576 := by omega
  clear raw hbig
  go_enter Try.func3, Try.ntmps3
  go_wp2_with fail
  refine (big_no a len cap _ hl).mono ?_
  rintro e w' ⟨rfl, rfl⟩
  go_wp2_with fail
  refine (drawProg_any a len cap _ HC.out).mono ?_
  rintro e w1 ⟨v1, ws, rfl, hown1, hall, h2, h13, e1⟩
  have E1 : Hid (Ext w w1) := e1
  obtain ⟨a1, c1, hv1, _, wd1, _⟩ := hown1.words
  obtain ⟨S1, hS1⟩ : ∃ S1 : ByteArray, S1 = ⟨(bytesP ws).toArray⟩ := ⟨_, rfl⟩
  have htp : textP ws = some (bytesP ws) := by unfold textP; rw [if_pos ⟨by omega, by omega, hall⟩]
  have hrp : readP (bytesP ws) = some ws := readP_text htp
  have hs1 : S1.size ≤ 1048576 := by rw [hS1]; show (bytesP ws).toArray.size ≤ _; rw [List.size_toArray, bytesP_length]; omega
  have I3 : Hid (Calls Try.prog 11 #[v1] w1 fun e w' => e = .returned (.tuple #[.string S1, .bool true]) ∧ Ext w1 w') := by
    have h := iProgText_any a1 c1 ws w1 (by omega) wd1
    rw [htp] at h
    rw [hv1, hS1]
    exact h
  have I4 : Hid (∀ w, Calls Try.prog 12 #[.string S1] w fun e w' => ∃ v, e = .returned (.tuple #[v, .bool true]) ∧ Own4 w' w.heap.size v ws ∧ Ext w w') := fun w => by
    have h := iReadProg_any S1 w hs1
    rw [hS1, text_list, hrp] at h
    rw [hS1]
    exact h
  have W1 : Hid (Words w1 a1 ws ∧ v1 = .slice a1 ws.length c1 ∧ ws.length ≤ 1048576) := ⟨wd1, hv1, by omega⟩
  clear e1 hown1 hall h2 h13 hv1 wd1 hS1 htp hrp hs1
  go_wp2_with fail
  refine (I3.out).mono ?_
  rintro e w3 ⟨rfl, e3⟩
  have E3 : Hid (Ext w1 w3) := e3
  clear e3 I3
  go_wp2_with fail
  refine (I4.out _).mono ?_
  rintro e w4 ⟨v4, rfl, hown4, e4⟩
  have E4 : Hid (Ext w1 w4) := E3.out.trans e4
  have SM4 : Hid (∀ w', Ext w4 w' → Calls Try.prog 22 #[v4, v1] w' fun e w'' => e = .returned (.bool true) ∧ Ext w' w'') := fun w' hE => by
    obtain ⟨a4, c4, hv4, _, wd4, _⟩ := hown4.words
    rw [hv4, W1.out.2.1]
    exact sameIns_same a4 a1 c4 c1 ws w' W1.out.2.2 (wd4.ext hE) (W1.out.1.ext (E4.out.trans hE))
  have F4 : Hid (Ext w w4) := E1.out.trans E4.out
  clear e4 hown4 I4 E1 E3 E4 W1
  go_wp2_with fail
  refine (drawReadProg_any a len cap _ (HC.out.below F4.out)).mono ?_
  rintro e w5 ⟨u, hu, rfl, e5⟩
  have F5 : Hid (Ext w w5) := F4.out.trans e5
  have G5 : Hid (Ext w4 w5) := e5
  obtain ⟨may, hmay⟩ : ∃ may, may = (readP u.data.toList).isSome := ⟨_, rfl⟩
  obtain ⟨wy, hwy⟩ : ∃ wy, wy = (readP u.data.toList).getD [] := ⟨_, rfl⟩
  have I6 : Hid (∀ w, Calls Try.prog 12 #[.string u] w fun e w' => ∃ v, e = .returned (.tuple #[v, .bool may]) ∧ Own4 w' w.heap.size v wy ∧ Ext w w') := fun w => by rw [hmay, hwy]; exact iReadProg_any u w (by omega)
  have I7 : Hid (∀ w, Calls Try.prog 14 #[.string u] w fun e w' => ∃ v, e = .returned (.tuple #[v, .bool may]) ∧ Own4 w' w.heap.size v wy ∧ Ext w w') := fun w => by rw [hmay, hwy]; exact sReadProg_any u w (by omega)
  obtain ⟨A, hA⟩ : ∃ A : ByteArray, A = ⟨((textP wy).getD []).toArray⟩ := ⟨_, rfl⟩
  have HA : Hid (may = true → A = u) := fun hm => by
    rw [hmay] at hm
    obtain ⟨ws', hws'⟩ := Option.isSome_iff_exists.1 hm
    rw [hA, hwy, hws', Option.getD_some, textP_read hws', Option.getD_some]
  have hwyl : wy.length ≤ 1048576 := by
    rw [hwy]
    unfold readP
    split
    · simp only [Option.getD_some, headW_length]; omega
    · simp
  obtain ⟨z8, hz8⟩ : ∃ z8, z8 = (textP wy).isSome := ⟨_, rfl⟩
  have I8 : Hid (∀ a c w, Words w a wy → Calls Try.prog 11 #[.slice a wy.length c] w fun e w' => e = .returned (.tuple #[.string A, .bool z8]) ∧ Ext w w') := fun a c w h => by rw [hA, hz8]; exact iProgText_any a c wy w hwyl h
  clear e5 hmay hwy hA hwyl F4 hu hz8
  go_wp2_with fail
  refine (I6.out _).mono ?_
  rintro e w6 ⟨v6, rfl, hown6, e6⟩
  have F6 : Hid (Ext w w6) := F5.out.trans e6
  have G6 : Hid (Ext w4 w6) := G5.out.trans e6
  have O6 : Hid (Own4 w6 w5.heap.size v6 wy) := hown6
  clear e6 hown6 F5 G5 I6
  go_wp2_with fail
  refine (I7.out _).mono ?_
  rintro e w7 ⟨v7, rfl, _, e7⟩
  have F7 : Hid (Ext w w7) := F6.out.trans e7
  have G7 : Hid (Ext w4 w7) := G6.out.trans e7
  have J8 : Hid (Calls Try.prog 11 #[v6] w7 fun e w' => e = .returned (.tuple #[.string A, .bool z8]) ∧ Ext w7 w') := by
    obtain ⟨a6, c6, hv6, _, wd6, _⟩ := O6.out.words
    rw [hv6]
    exact I8.out a6 c6 w7 (wd6.ext e7)
  clear e7 F6 G6 I7 I8 O6
  go_wp2_with fail
  refine (J8.out).mono ?_
  rintro e w8 ⟨rfl, e8⟩
  have F8 : Hid (Ext w w8) := F7.out.trans e8
  have G8 : Hid (Ext w4 w8) := G7.out.trans e8
  clear e8 F7 G7 J8
  go_wp2_with fail
  refine (drawInsText_any a len cap _ (HC.out.below F8.out)).mono ?_
  rintro e w9 ⟨⟨o, k, y, n⟩, rfl, e9⟩
  have F9 : Hid (Ext w w9) := F8.out.trans e9
  have G9 : Hid (Ext w4 w9) := G8.out.trans e9
  simp only [Wd.val]
  obtain ⟨one, hone⟩ : ∃ one, one = (textW (o, k, y, n)).isSome := ⟨_, rfl⟩
  obtain ⟨TI, hTI⟩ : ∃ TI : ByteArray, TI = ⟨((textW (o, k, y, n)).getD []).toArray⟩ := ⟨_, rfl⟩
  have hTl : TI.size ≤ 1000 := by rw [hTI]; exact textW_size _
  have hone' : one = okW (o, k, y, n) := by
    rw [hone]
    cases h : okW (o, k, y, n)
    · rw [textW_none h]; rfl
    · rw [textW_some h]; rfl
  have I10 : Hid (∀ w, Calls Try.prog 16 #[.agg #[.int .i64 o, .int .i64 k, .int .i64 y, .int .i64 n]] w fun e w' => e = .returned (.tuple #[.string TI, .bool one]) ∧ Ext w w') := fun w => by rw [hone, hTI]; exact iInsText_any (o, k, y, n) w
  obtain ⟨back, hback⟩ : ∃ back, back = (readW TI.data.toList).isSome := ⟨_, rfl⟩
  obtain ⟨⟨qo, qk, qy, qn⟩, hq⟩ : ∃ q, q = (readW TI.data.toList).getD zeroW := ⟨_, rfl⟩
  have I11 : Hid (∀ w, Calls Try.prog 17 #[.string TI] w fun e w' => e = .returned (.tuple #[.agg #[.int .i64 qo, .int .i64 qk, .int .i64 qy, .int .i64 qn], .bool back]) ∧ Ext w w') := fun w => by
    have h := iReadIns_any TI w (by omega)
    rw [← hback, ← hq] at h
    exact h
  have HB : Hid (one = true → back = true ∧ (qo, qk, qy, qn) = (o, k, y, n)) := fun h1 => by
    have hok : okW (o, k, y, n) = true := by rw [← hone']; exact h1
    have hr : readW TI.data.toList = some (o, k, y, n) := by rw [hTI, textW_some hok, Option.getD_some, text_list]; exact readW_bytes hok
    rw [hr] at hback hq
    exact ⟨hback, hq⟩
  have SOK : Hid (∀ w, Calls Try.prog 23 #[.agg #[.int .i64 o, .int .i64 k, .int .i64 y, .int .i64 n]] w fun e w' => e = .returned (.bool one) ∧ Ext w w') := fun w => by rw [hone']; exact sInsOk_any o k y n w
  have IOK : Hid (∀ w, Calls Try.prog 24 #[.agg #[.int .i64 o, .int .i64 k, .int .i64 y, .int .i64 n]] w fun e w' => e = .returned (.bool one) ∧ Ext w w') := fun w => by rw [hone']; exact iInsOk_any o k y n w
  have HEQ : Hid (∀ w, (Op.equalIn 10000 32 (.agg #[.int .i64 o, .int .i64 k, .int .i64 y, .int .i64 n]) (.agg #[.int .i64 o, .int .i64 k, .int .i64 y, .int .i64 n])).run Try.prog w = .ok true w) := fun w => by rw [eq_ins]; simp
  obtain ⟨b9, hb9⟩ : ∃ b9, b9 = w9.heap.size := ⟨_, rfl⟩
  have hc9 : CellsAt (w9.alloc (.cells #[.int .i64 o, .int .i64 k, .int .i64 y, .int .i64 n] 32)) b9 [.int .i64 o, .int .i64 k, .int .i64 y, .int .i64 n] := CellsAt.new' w9 [.int .i64 o, .int .i64 k, .int .i64 y, .int .i64 n] 32 b9 hb9
  have HB9 : Hid (b9 = w9.heap.size) := hb9
  have C9a : Hid (CellsAt (w9.alloc (.cells #[.int .i64 o, .int .i64 k, .int .i64 y, .int .i64 n] 32)) b9 [.int .i64 o, .int .i64 k, .int .i64 y, .int .i64 n]) := hc9
  clear e9 F8 G8 hone hTI hTl hone' hback hq hb9 hc9
  go_wp2_with fail
  rw [← HB9.out]
  refine (I10.out _).mono ?_
  rintro e w10 ⟨rfl, e10⟩
  have F10 : Hid (Ext w w10) := (F9.out.alloc _).trans e10
  have G10 : Hid (Ext w4 w10) := (G9.out.alloc _).trans e10
  have C9b : Hid (CellsAt w10 b9 [.int .i64 o, .int .i64 k, .int .i64 y, .int .i64 n]) := C9a.out.step e10
  clear e10 F9 G9 I10 C9a
  go_wp2_with fail
  refine (I11.out _).mono ?_
  rintro e w11 ⟨rfl, e11⟩
  have F11 : Hid (Ext w w11) := F10.out.trans e11
  have G11 : Hid (Ext w4 w11) := G10.out.trans e11
  have C9c : Hid (CellsAt w11 b9 [.int .i64 o, .int .i64 k, .int .i64 y, .int .i64 n]) := C9b.out.step e11
  obtain ⟨b11, hb11⟩ : ∃ b11, b11 = w11.heap.size := ⟨_, rfl⟩
  have C11a : Hid (CellsAt (w11.alloc (.cells #[.int .i64 qo, .int .i64 qk, .int .i64 qy, .int .i64 qn] 32)) b11 [.int .i64 qo, .int .i64 qk, .int .i64 qy, .int .i64 qn]) := CellsAt.new' w11 [.int .i64 qo, .int .i64 qk, .int .i64 qy, .int .i64 qn] 32 b11 hb11
  have HB11 : Hid (b11 = w11.heap.size) := hb11
  clear e11 F10 G10 I11 C9b hb11
  go_wp2_with fail
  rw [← HB11.out]
  refine (drawReadIns_any a len cap _ (HC.out.below (F11.out.alloc _))).mono ?_
  rintro e w12 ⟨t, ht, rfl, e12⟩
  have F12 : Hid (Ext w w12) := (F11.out.alloc _).trans e12
  have G12 : Hid (Ext w4 w12) := (G11.out.alloc _).trans e12
  have C9d : Hid (CellsAt w12 b9 [.int .i64 o, .int .i64 k, .int .i64 y, .int .i64 n]) := (C9c.out.step (Ext.one _ _)).step e12
  have C11b : Hid (CellsAt w12 b11 [.int .i64 qo, .int .i64 qk, .int .i64 qy, .int .i64 qn]) := C11a.out.step e12
  obtain ⟨could, hcould⟩ : ∃ could, could = (readW t.data.toList).isSome := ⟨_, rfl⟩
  obtain ⟨r, hr⟩ : ∃ r, r = (readW t.data.toList).getD zeroW := ⟨_, rfl⟩
  obtain ⟨TW, hTW⟩ : ∃ TW : ByteArray, TW = ⟨((textW r).getD []).toArray⟩ := ⟨_, rfl⟩
  have HV : Hid (could = true → TW = t) := fun hc => by
    rw [hcould] at hc
    obtain ⟨p', hp'⟩ := Option.isSome_iff_exists.1 hc
    obtain ⟨_, hok, _, hby⟩ := readW_some hp'
    rw [hTW, hr, hp', Option.getD_some, textW_some hok, Option.getD_some, hby]
  obtain ⟨ro, rk, ry, rn⟩ := r
  have I13 : Hid (∀ w, Calls Try.prog 17 #[.string t] w fun e w' => e = .returned (.tuple #[.agg #[.int .i64 ro, .int .i64 rk, .int .i64 ry, .int .i64 rn], .bool could]) ∧ Ext w w') := fun w => by
    have h := iReadIns_any t w (by omega)
    rw [← hcould, ← hr] at h
    exact h
  have I14 : Hid (∀ w, Calls Try.prog 19 #[.string t] w fun e w' => e = .returned (.tuple #[.agg #[.int .i64 ro, .int .i64 rk, .int .i64 ry, .int .i64 rn], .bool could]) ∧ Ext w w') := fun w => by
    have h := sReadIns_any t w (by omega)
    rw [← hcould, ← hr] at h
    exact h
  obtain ⟨z15, hz15⟩ : ∃ z15, z15 = (textW (ro, rk, ry, rn)).isSome := ⟨_, rfl⟩
  have I15 : Hid (∀ w, Calls Try.prog 16 #[.agg #[.int .i64 ro, .int .i64 rk, .int .i64 ry, .int .i64 rn]] w fun e w' => e = .returned (.tuple #[.string TW, .bool z15]) ∧ Ext w w') := fun w => by rw [hTW, hz15]; exact iInsText_any (ro, rk, ry, rn) w
  clear e12 F11 G11 hcould hr hTW ht C9c C11a hz15
  go_wp2_with fail
  refine (I13.out _).mono ?_
  rintro e w13 ⟨rfl, e13⟩
  have F13 : Hid (Ext w w13) := F12.out.trans e13
  have G13 : Hid (Ext w4 w13) := G12.out.trans e13
  have C9e : Hid (CellsAt w13 b9 [.int .i64 o, .int .i64 k, .int .i64 y, .int .i64 n]) := C9d.out.step e13
  have C11c : Hid (CellsAt w13 b11 [.int .i64 qo, .int .i64 qk, .int .i64 qy, .int .i64 qn]) := C11b.out.step e13
  obtain ⟨b13, hb13⟩ : ∃ b13, b13 = w13.heap.size := ⟨_, rfl⟩
  have C13a : Hid (CellsAt (w13.alloc (.cells #[.int .i64 ro, .int .i64 rk, .int .i64 ry, .int .i64 rn] 32)) b13 [.int .i64 ro, .int .i64 rk, .int .i64 ry, .int .i64 rn]) := CellsAt.new' w13 [.int .i64 ro, .int .i64 rk, .int .i64 ry, .int .i64 rn] 32 b13 hb13
  have HB13 : Hid (b13 = w13.heap.size) := hb13
  clear e13 F12 G12 C9d C11b I13 hb13
  go_wp2_with fail
  rw [← HB13.out]
  refine (I14.out _).mono ?_
  rintro e w14 ⟨rfl, e14⟩
  have F14 : Hid (Ext w w14) := (F13.out.alloc _).trans e14
  have G14 : Hid (Ext w4 w14) := (G13.out.alloc _).trans e14
  have C9f : Hid (CellsAt w14 b9 [.int .i64 o, .int .i64 k, .int .i64 y, .int .i64 n]) := (C9e.out.step (Ext.one _ _)).step e14
  have C11d : Hid (CellsAt w14 b11 [.int .i64 qo, .int .i64 qk, .int .i64 qy, .int .i64 qn]) := (C11c.out.step (Ext.one _ _)).step e14
  have c13 := C13a.out.step e14
  obtain ⟨s0, s1, s2, s3⟩ := (⟨c13.2 0 _ rfl, c13.2 1 _ rfl, c13.2 2 _ rfl, c13.2 3 _ rfl⟩ : _ ∧ _ ∧ _ ∧ _)
  have hlt := c13.1
  clear e14 F13 G13 C9e C11c C13a I14 c13
  go_wp2_with fail
  refine (I15.out _).mono ?_
  rintro e w15 ⟨rfl, e15⟩
  have F15 : Hid (Ext w w15) := (F14.out.alloc _).trans e15
  have G15 : Hid (Ext w4 w15) := (G14.out.alloc _).trans e15
  have C9g : Hid (CellsAt w15 b9 [.int .i64 o, .int .i64 k, .int .i64 y, .int .i64 n]) := (C9f.out.step (Ext.one _ _)).step e15
  have C11e : Hid (CellsAt w15 b11 [.int .i64 qo, .int .i64 qk, .int .i64 qy, .int .i64 qn]) := (C11d.out.step (Ext.one _ _)).step e15
  clear e15 F14 G14 C9f C11d I15 s0 s1 s2 s3 hlt
  go_wp2_with fail
  refine (drawProgText_any a len cap _ (HC.out.below F15.out)).mono ?_
  rintro e w16 ⟨g, m, c, wd, rfl, hwl, hm13, hwd, e16⟩
  have F16 : Hid (Ext w w16) := F15.out.trans e16
  have G16 : Hid (Ext w4 w16) := G15.out.trans e16
  have C9h : Hid (CellsAt w16 b9 [.int .i64 o, .int .i64 k, .int .i64 y, .int .i64 n]) := C9g.out.step e16
  have C11f : Hid (CellsAt w16 b11 [.int .i64 qo, .int .i64 qk, .int .i64 qy, .int .i64 qn]) := C11e.out.step e16
  obtain ⟨X, hX⟩ : ∃ X : ByteArray, X = ⟨((textP wd).getD []).toArray⟩ := ⟨_, rfl⟩
  obtain ⟨good, hgood⟩ : ∃ good, good = (textP wd).isSome := ⟨_, rfl⟩
  have I17 : Hid (Calls Try.prog 11 #[.slice (some ⟨g, 0, none⟩) m c] w16 fun e w' => e = .returned (.tuple #[.string X, .bool good]) ∧ Ext w16 w') := by
    have h := iProgText_any (some ⟨g, 0, none⟩) c wd w16 (by omega) hwd
    rw [hwl] at h
    rw [hX, hgood]
    exact h
  have I18 : Hid (∀ w', Ext w16 w' → Calls Try.prog 21 #[.slice (some ⟨g, 0, none⟩) m c] w' fun e w'' => e = .returned (.tuple #[.string X, .bool good]) ∧ Ext w' w'') := fun w' hE => by
    have h := sProgText_any (some ⟨g, 0, none⟩) c wd w' (by omega) (hwd.ext hE)
    rw [hwl] at h
    rw [hX, hgood]
    exact h
  clear e16 F15 G15 C9g C11e hX hgood hwl hm13 hwd
  go_wp2_with fail
  refine (I17.out).mono ?_
  rintro e w17 ⟨rfl, e17⟩
  have F17 : Hid (Ext w w17) := F16.out.trans e17
  have G17 : Hid (Ext w4 w17) := G16.out.trans e17
  have C9i : Hid (CellsAt w17 b9 [.int .i64 o, .int .i64 k, .int .i64 y, .int .i64 n]) := C9h.out.step e17
  have C11g : Hid (CellsAt w17 b11 [.int .i64 qo, .int .i64 qk, .int .i64 qy, .int .i64 qn]) := C11f.out.step e17
  have J18 : Hid (Calls Try.prog 21 #[.slice (some ⟨g, 0, none⟩) m c] w17 fun e w' => e = .returned (.tuple #[.string X, .bool good]) ∧ Ext w17 w') := I18.out w17 e17
  clear e17 F16 G16 C9h C11f I17 I18
  go_wp2_with fail
  refine (J18.out).mono ?_
  rintro e w18 ⟨rfl, e18⟩
  have E19 : Hid (Ext w w18) := F17.out.trans e18
  have EW : Hid (Ext w4 w18) := G17.out.trans e18
  have C9 : Hid (CellsAt w18 b9 [.int .i64 o, .int .i64 k, .int .i64 y, .int .i64 n]) := C9i.out.step e18
  have C11 : Hid (CellsAt w18 b11 [.int .i64 qo, .int .i64 qk, .int .i64 qy, .int .i64 qn]) := C11g.out.step e18
  have SM := SM4
  clear e18 F17 G17 C9i C11g J18 SM4 HC
  iterate 22 (first | go_values | go_skip | go_guarded | go_step | go_upon | go_back | go_simp)
  dsimp only [List.append]
  apply wpSeq_val rfl
  case hs =>
    intro Q1 hQ1
    dsimp only [bare]
    go_wp2
    exact rfl
  apply wpSeq_val rfl
  case hs =>
    intro Q1 hQ1
    dsimp only [bare]
    go_wp2
    exact rfl
  apply wpSeq_val rfl
  case hs =>
    intro Q1 hQ1
    dsimp only [bare]
    go_wp2
    exact rfl
  apply wpSeq_val rfl
  case hs =>
    intro Q1 hQ1
    dsimp only [bare]
    go_wp2
    exact rfl
  apply wpSeq_val rfl
  case hs =>
    intro Q1 hQ1
    dsimp only [bare]
    go_wp2
    exact rfl
  apply wpSeq_val rfl
  case hs =>
    intro Q1 hQ1
    dsimp only [bare]
    go_wp2
    exact rfl
  apply wpSeq_val rfl
  case hs =>
    intro Q1 hQ1
    dsimp only [bare]
    go_wp2
    exact rfl
  apply wpSeq_call (Ext w18) rfl
  case hs =>
    intro Q1 hQ1
    dsimp only [bare]
    go_wp2_with fail
    refine (SM.out _ EW.out).mono ?_
    rintro e w9x ⟨rfl, hb⟩
    go_wp2_with fail
    exact hb
  intro w19 e19
  have F19 : Hid (Ext w w19) := E19.out.trans e19
  have c9 := C9.out.step e19
  obtain ⟨s0, s1, s2, s3⟩ := (⟨c9.2 0 _ rfl, c9.2 1 _ rfl, c9.2 2 _ rfl, c9.2 3 _ rfl⟩ : _ ∧ _ ∧ _ ∧ _)
  have K9 : Hid (CellsAt w19 b9 [.int .i64 o, .int .i64 k, .int .i64 y, .int .i64 n]) := c9
  have K11 : Hid (CellsAt w19 b11 [.int .i64 qo, .int .i64 qk, .int .i64 qy, .int .i64 qn]) := C11.out.step e19
  clear e19 c9 C9 C11 SM EW E19
  apply wpSeq_val rfl
  case hs =>
    intro Q1 hQ1
    dsimp only [bare]
    go_wp2
    exact rfl
  apply wpSeq_val rfl
  case hs =>
    intro Q1 hQ1
    dsimp only [bare]
    go_wp2
    exact rfl
  apply wpSeq_val rfl
  case hs =>
    intro Q1 hQ1
    dsimp only [bare]
    go_wp2
    exact rfl
  apply wpSeq_val rfl
  case hs =>
    intro Q1 hQ1
    dsimp only [bare]
    go_wp2
    exact rfl
  apply wpSeq_val rfl
  case hs =>
    intro Q1 hQ1
    dsimp only [bare]
    go_wp2
    exact rfl
  apply wpSeq_val rfl
  case hs =>
    intro Q1 hQ1
    dsimp only [bare]
    go_wp2
    exact rfl
  apply wpSeq_val rfl
  case hs =>
    intro Q1 hQ1
    dsimp only [bare]
    go_wp2
    exact rfl
  apply wpSeq_val rfl
  case hs =>
    intro Q1 hQ1
    dsimp only [bare]
    go_wp2
    exact rfl
  apply wpSeq_val rfl
  case hs =>
    intro Q1 hQ1
    dsimp only [bare]
    go_wp2
    exact rfl
  apply wpSeq_val rfl
  case hs =>
    intro Q1 hQ1
    dsimp only [bare]
    go_wp2
    exact rfl
  refine wpSeq_rel (fun v => v = cond may (.string u) undef) ?_ ?_ (fun x18 hx18 => ?_)
  · intro hw Q1 hQ1
    cases may
    · clear hQ1
      cases (hw.symm.trans rfl : true = false)
    · clear hw
      obtain rfl := HA.out rfl
      have HQ2 : Hid _ := hQ1 _ rfl
      clear hQ1
      dsimp only [bare]
      go_wp2
      exact HQ2.out
  · intro hw
    cases may
    · rfl
    · 
      cases (hw.symm.trans rfl : false = true)
  have X18 : Hid (x18 = cond may (.string u) undef) := hx18
  clear hx18
  simp only [Act.put, List.setIfInBounds_toArray, List.set_cons_succ, List.set_cons_zero]
  refine wpSeq_rel (fun v => v = cond may (.string u) undef) ?_ ?_ (fun x19 hx19 => ?_)
  · intro hw Q1 hQ1
    cases may
    · clear hQ1
      cases (hw.symm.trans rfl : true = false)
    · clear hw
      have HQ2 : Hid _ := hQ1 _ rfl
      clear hQ1
      dsimp only [bare]
      go_wp2
      exact HQ2.out
  · intro hw
    cases may
    · rfl
    · 
      cases (hw.symm.trans rfl : false = true)
  have X19 : Hid (x19 = cond may (.string u) undef) := hx19
  clear hx19
  simp only [Act.put, List.setIfInBounds_toArray, List.set_cons_succ, List.set_cons_zero]
  refine wpSeq_rel (fun v => v = cond may (.bool true) undef) ?_ ?_ (fun x20 hx20 => ?_)
  · intro hw Q1 hQ1
    cases may
    · clear hQ1
      obtain rfl := X18.out
      obtain rfl := X19.out
      cases (hw.symm.trans rfl : true = false)
    · clear hw
      obtain rfl := X18.out
      obtain rfl := X19.out
      have HQ2 : Hid _ := hQ1 _ rfl
      clear hQ1
      dsimp only [bare]
      go_wp2
      exact HQ2.out
  · intro hw
    cases may
    · rfl
    · 
      obtain rfl := X18.out
      obtain rfl := X19.out
      cases (hw.symm.trans rfl : false = true)
  have X20 : Hid (x20 = cond may (.bool true) undef) := hx20
  clear hx20
  simp only [Act.put, List.setIfInBounds_toArray, List.set_cons_succ, List.set_cons_zero]
  refine wpSeq_rel (fun v => v = .bool true) ?_ ?_ (fun x21 hx21 => ?_)
  · intro hw Q1 hQ1
    cases may
    · clear hw
      obtain rfl := X18.out
      obtain rfl := X19.out
      obtain rfl := X20.out
      have HQ2 : Hid _ := hQ1 _ rfl
      clear hQ1
      dsimp only [bare]
      go_wp2
      exact HQ2.out
    · clear hw
      obtain rfl := X18.out
      obtain rfl := X19.out
      obtain rfl := X20.out
      have HQ2 : Hid _ := hQ1 _ rfl
      clear hQ1
      dsimp only [bare]
      go_wp2
      exact HQ2.out
  · intro hw
    cases (hw.symm.trans rfl : false = true)
  subst hx21
  simp only [Act.put, List.setIfInBounds_toArray, List.set_cons_succ, List.set_cons_zero]
  apply wpSeq_val rfl
  case hs =>
    intro Q1 hQ1
    dsimp only [bare]
    go_wp2
    exact rfl
  apply wpSeq_val rfl
  case hs =>
    intro Q1 hQ1
    dsimp only [bare]
    go_wp2
    exact rfl
  apply wpSeq_val rfl
  case hs =>
    intro Q1 hQ1
    dsimp only [bare]
    go_wp2
    exact rfl
  apply wpSeq_val rfl
  case hs =>
    intro Q1 hQ1
    dsimp only [bare]
    go_wp2
    exact rfl
  apply wpSeq_call (Ext w19) rfl
  case hs =>
    intro Q1 hQ1
    dsimp only [bare]
    go_wp2_with fail
    refine (SOK.out _).mono ?_
    rintro e w9x ⟨rfl, hb⟩
    go_wp2_with fail
    exact hb
  intro w20 e20
  have F20 : Hid (Ext w w20) := F19.out.trans e20
  have c9 := K9.out.step e20
  clear s0 s1 s2 s3
  obtain ⟨s0, s1, s2, s3⟩ := (⟨c9.2 0 _ rfl, c9.2 1 _ rfl, c9.2 2 _ rfl, c9.2 3 _ rfl⟩ : _ ∧ _ ∧ _ ∧ _)
  have M9 : Hid (CellsAt w20 b9 [.int .i64 o, .int .i64 k, .int .i64 y, .int .i64 n]) := c9
  have M11 : Hid (CellsAt w20 b11 [.int .i64 qo, .int .i64 qk, .int .i64 qy, .int .i64 qn]) := K11.out.step e20
  clear e20 c9 F19 K9 K11 SOK
  apply wpSeq_val rfl
  case hs =>
    intro Q1 hQ1
    dsimp only [bare]
    go_wp2
    exact rfl
  apply wpSeq_val rfl
  case hs =>
    intro Q1 hQ1
    dsimp only [bare]
    go_wp2
    exact rfl
  apply wpSeq_val rfl
  case hs =>
    intro Q1 hQ1
    dsimp only [bare]
    go_wp2
    exact rfl
  apply wpSeq_val rfl
  case hs =>
    intro Q1 hQ1
    dsimp only [bare]
    go_wp2
    exact rfl
  apply wpSeq_call (Ext w20) rfl
  case hs =>
    intro Q1 hQ1
    dsimp only [bare]
    go_wp2_with fail
    refine (IOK.out _).mono ?_
    rintro e w9x ⟨rfl, hb⟩
    go_wp2_with fail
    exact hb
  intro w21 e21
  have F21 : Hid (Ext w w21) := F20.out.trans e21
  have c9 := M9.out.step e21
  have c11 := M11.out.step e21
  clear s0 s1 s2 s3
  obtain ⟨s0, s1, s2, s3⟩ := (⟨c9.2 0 _ rfl, c9.2 1 _ rfl, c9.2 2 _ rfl, c9.2 3 _ rfl⟩ : _ ∧ _ ∧ _ ∧ _)
  obtain ⟨t0, t1, t2, t3⟩ := (⟨c11.2 0 _ rfl, c11.2 1 _ rfl, c11.2 2 _ rfl, c11.2 3 _ rfl⟩ : _ ∧ _ ∧ _ ∧ _)
  clear e21 c9 c11 F20 IOK M9 M11
  apply wpSeq_val rfl
  case hs =>
    intro Q1 hQ1
    dsimp only [bare]
    go_wp2
    exact rfl
  apply wpSeq_val rfl
  case hs =>
    intro Q1 hQ1
    dsimp only [bare]
    go_wp2
    exact rfl
  apply wpSeq_val rfl
  case hs =>
    intro Q1 hQ1
    dsimp only [bare]
    go_wp2
    exact rfl
  apply wpSeq_val rfl
  case hs =>
    intro Q1 hQ1
    dsimp only [bare]
    go_wp2
    exact rfl
  apply wpSeq_val rfl
  case hs =>
    intro Q1 hQ1
    dsimp only [bare]
    go_wp2
    exact rfl
  apply wpSeq_val rfl
  case hs =>
    intro Q1 hQ1
    dsimp only [bare]
    go_wp2
    exact rfl
  apply wpSeq_val rfl
  case hs =>
    intro Q1 hQ1
    dsimp only [bare]
    go_wp2
    exact rfl
  refine wpSeq_rel (fun v => v = cond one (.bool true) undef) ?_ ?_ (fun x39 hx39 => ?_)
  · intro hw Q1 hQ1
    cases one
    · clear hQ1
      cases (hw.symm.trans rfl : true = false)
    · clear hw
      obtain ⟨rfl, _⟩ := HB.out rfl
      have HQ2 : Hid _ := hQ1 _ rfl
      clear hQ1
      dsimp only [bare]
      go_wp2
      exact HQ2.out
  · intro hw
    cases one
    · rfl
    · 
      cases (hw.symm.trans rfl : false = true)
  have X39 : Hid (x39 = cond one (.bool true) undef) := hx39
  clear hx39
  simp only [Act.put, List.setIfInBounds_toArray, List.set_cons_succ, List.set_cons_zero]
  refine wpSeq_rel (fun v => v = cond one (.bool true) undef) ?_ ?_ (fun x40 hx40 => ?_)
  · intro hw Q1 hQ1
    cases one
    · clear hQ1
      obtain rfl := X39.out
      cases (hw.symm.trans rfl : true = false)
    · clear hw
      obtain rfl := X39.out
      have HQ2 : Hid _ := hQ1 _ rfl
      clear hQ1
      dsimp only [bare]
      go_wp2
      exact HQ2.out
  · intro hw
    cases one
    · rfl
    · 
      obtain rfl := X39.out
      cases (hw.symm.trans rfl : false = true)
  have X40 : Hid (x40 = cond one (.bool true) undef) := hx40
  clear hx40
  simp only [Act.put, List.setIfInBounds_toArray, List.set_cons_succ, List.set_cons_zero]
  refine wpSeq_rel (fun v => v = cond one (.agg #[.int .i64 o, .int .i64 k, .int .i64 y, .int .i64 n]) undef) ?_ ?_ (fun x41 hx41 => ?_)
  · intro hw Q1 hQ1
    cases one
    · clear hQ1
      obtain rfl := X40.out
      cases (hw.symm.trans rfl : true = false)
    · clear hw
      obtain rfl := X40.out
      obtain ⟨hbk, hq⟩ := HB.out rfl
      clear hbk
      simp only [Prod.mk.injEq] at hq
      obtain ⟨rfl, rfl, rfl, rfl⟩ := hq
      have HQ2 : Hid _ := hQ1 _ rfl
      clear hQ1
      dsimp only [bare]
      go_wp2
      exact HQ2.out
  · intro hw
    cases one
    · rfl
    · 
      obtain rfl := X40.out
      cases (hw.symm.trans rfl : false = true)
  have X41 : Hid (x41 = cond one (.agg #[.int .i64 o, .int .i64 k, .int .i64 y, .int .i64 n]) undef) := hx41
  clear hx41
  simp only [Act.put, List.setIfInBounds_toArray, List.set_cons_succ, List.set_cons_zero]
  refine wpSeq_rel (fun v => v = cond one (.agg #[.int .i64 o, .int .i64 k, .int .i64 y, .int .i64 n]) undef) ?_ ?_ (fun x42 hx42 => ?_)
  · intro hw Q1 hQ1
    cases one
    · clear hQ1
      obtain rfl := X40.out
      cases (hw.symm.trans rfl : true = false)
    · clear hw
      obtain rfl := X40.out
      have HQ2 : Hid _ := hQ1 _ rfl
      clear hQ1
      dsimp only [bare]
      go_wp2
      exact HQ2.out
  · intro hw
    cases one
    · rfl
    · 
      obtain rfl := X40.out
      cases (hw.symm.trans rfl : false = true)
  have X42 : Hid (x42 = cond one (.agg #[.int .i64 o, .int .i64 k, .int .i64 y, .int .i64 n]) undef) := hx42
  clear hx42
  simp only [Act.put, List.setIfInBounds_toArray, List.set_cons_succ, List.set_cons_zero]
  refine wpSeq_rel (fun v => v = cond one (.bool true) undef) ?_ ?_ (fun x43 hx43 => ?_)
  · intro hw Q1 hQ1
    cases one
    · clear hQ1
      obtain rfl := X40.out
      obtain rfl := X41.out
      obtain rfl := X42.out
      cases (hw.symm.trans rfl : true = false)
    · clear hw
      obtain rfl := X40.out
      obtain rfl := X41.out
      obtain rfl := X42.out
      have hEq := HEQ.out
      have HQ2 : Hid _ := hQ1 _ rfl
      clear hQ1
      dsimp only [bare]
      go_wp2
      exact HQ2.out
  · intro hw
    cases one
    · rfl
    · 
      obtain rfl := X40.out
      obtain rfl := X41.out
      obtain rfl := X42.out
      cases (hw.symm.trans rfl : false = true)
  have X43 : Hid (x43 = cond one (.bool true) undef) := hx43
  clear hx43
  simp only [Act.put, List.setIfInBounds_toArray, List.set_cons_succ, List.set_cons_zero]
  refine wpSeq_rel (fun v => v = cond one (.bool true) undef) ?_ ?_ (fun x44 hx44 => ?_)
  · intro hw Q1 hQ1
    cases one
    · clear hQ1
      obtain rfl := X40.out
      obtain rfl := X43.out
      cases (hw.symm.trans rfl : true = false)
    · clear hw
      obtain rfl := X40.out
      obtain rfl := X43.out
      have HQ2 : Hid _ := hQ1 _ rfl
      clear hQ1
      dsimp only [bare]
      go_wp2
      exact HQ2.out
  · intro hw
    cases one
    · rfl
    · 
      obtain rfl := X40.out
      obtain rfl := X43.out
      cases (hw.symm.trans rfl : false = true)
  have X44 : Hid (x44 = cond one (.bool true) undef) := hx44
  clear hx44
  simp only [Act.put, List.setIfInBounds_toArray, List.set_cons_succ, List.set_cons_zero]
  refine wpSeq_rel (fun v => v = .bool true) ?_ ?_ (fun x45 hx45 => ?_)
  · intro hw Q1 hQ1
    cases one
    · clear hw
      obtain rfl := X44.out
      have HQ2 : Hid _ := hQ1 _ rfl
      clear hQ1
      dsimp only [bare]
      go_wp2
      exact HQ2.out
    · clear hw
      obtain rfl := X44.out
      have HQ2 : Hid _ := hQ1 _ rfl
      clear hQ1
      dsimp only [bare]
      go_wp2
      exact HQ2.out
  · intro hw
    cases (hw.symm.trans rfl : false = true)
  subst hx45
  simp only [Act.put, List.setIfInBounds_toArray, List.set_cons_succ, List.set_cons_zero]
  apply wpSeq_val rfl
  case hs =>
    intro Q1 hQ1
    dsimp only [bare]
    go_wp2
    exact rfl
  apply wpSeq_val rfl
  case hs =>
    intro Q1 hQ1
    dsimp only [bare]
    go_wp2
    exact rfl
  apply wpSeq_val rfl
  case hs =>
    intro Q1 hQ1
    dsimp only [bare]
    go_wp2
    exact rfl
  apply wpSeq_val rfl
  case hs =>
    intro Q1 hQ1
    dsimp only [bare]
    go_wp2
    exact rfl
  apply wpSeq_val rfl
  case hs =>
    intro Q1 hQ1
    dsimp only [bare]
    go_wp2
    exact rfl
  apply wpSeq_val rfl
  case hs =>
    intro Q1 hQ1
    dsimp only [bare]
    go_wp2
    exact rfl
  apply wpSeq_val rfl
  case hs =>
    intro Q1 hQ1
    dsimp only [bare]
    go_wp2
    exact rfl
  apply wpSeq_val rfl
  case hs =>
    intro Q1 hQ1
    dsimp only [bare]
    go_wp2
    exact rfl
  apply wpSeq_val rfl
  case hs =>
    intro Q1 hQ1
    dsimp only [bare]
    go_wp2
    exact rfl
  apply wpSeq_val rfl
  case hs =>
    intro Q1 hQ1
    dsimp only [bare]
    go_wp2
    exact rfl
  refine wpSeq_rel (fun v => v = cond could (.string t) undef) ?_ ?_ (fun x56 hx56 => ?_)
  · intro hw Q1 hQ1
    cases could
    · clear hQ1
      cases (hw.symm.trans rfl : true = false)
    · clear hw
      obtain rfl := HV.out rfl
      have HQ2 : Hid _ := hQ1 _ rfl
      clear hQ1
      dsimp only [bare]
      go_wp2
      exact HQ2.out
  · intro hw
    cases could
    · rfl
    · 
      cases (hw.symm.trans rfl : false = true)
  have X56 : Hid (x56 = cond could (.string t) undef) := hx56
  clear hx56
  simp only [Act.put, List.setIfInBounds_toArray, List.set_cons_succ, List.set_cons_zero]
  refine wpSeq_rel (fun v => v = cond could (.string t) undef) ?_ ?_ (fun x57 hx57 => ?_)
  · intro hw Q1 hQ1
    cases could
    · clear hQ1
      cases (hw.symm.trans rfl : true = false)
    · clear hw
      have HQ2 : Hid _ := hQ1 _ rfl
      clear hQ1
      dsimp only [bare]
      go_wp2
      exact HQ2.out
  · intro hw
    cases could
    · rfl
    · 
      cases (hw.symm.trans rfl : false = true)
  have X57 : Hid (x57 = cond could (.string t) undef) := hx57
  clear hx57
  simp only [Act.put, List.setIfInBounds_toArray, List.set_cons_succ, List.set_cons_zero]
  refine wpSeq_rel (fun v => v = cond could (.bool true) undef) ?_ ?_ (fun x58 hx58 => ?_)
  · intro hw Q1 hQ1
    cases could
    · clear hQ1
      obtain rfl := X56.out
      obtain rfl := X57.out
      cases (hw.symm.trans rfl : true = false)
    · clear hw
      obtain rfl := X56.out
      obtain rfl := X57.out
      have HQ2 : Hid _ := hQ1 _ rfl
      clear hQ1
      dsimp only [bare]
      go_wp2
      exact HQ2.out
  · intro hw
    cases could
    · rfl
    · 
      obtain rfl := X56.out
      obtain rfl := X57.out
      cases (hw.symm.trans rfl : false = true)
  have X58 : Hid (x58 = cond could (.bool true) undef) := hx58
  clear hx58
  simp only [Act.put, List.setIfInBounds_toArray, List.set_cons_succ, List.set_cons_zero]
  refine wpSeq_rel (fun v => v = .bool true) ?_ ?_ (fun x59 hx59 => ?_)
  · intro hw Q1 hQ1
    cases could
    · clear hw
      obtain rfl := X58.out
      have HQ2 : Hid _ := hQ1 _ rfl
      clear hQ1
      dsimp only [bare]
      go_wp2
      exact HQ2.out
    · clear hw
      obtain rfl := X58.out
      have HQ2 : Hid _ := hQ1 _ rfl
      clear hQ1
      dsimp only [bare]
      go_wp2
      exact HQ2.out
  · intro hw
    cases (hw.symm.trans rfl : false = true)
  subst hx59
  simp only [Act.put, List.setIfInBounds_toArray, List.set_cons_succ, List.set_cons_zero]
  apply wpSeq_val rfl
  case hs =>
    intro Q1 hQ1
    dsimp only [bare]
    go_wp2
    exact rfl
  apply wpSeq_val rfl
  case hs =>
    intro Q1 hQ1
    dsimp only [bare]
    go_wp2
    exact rfl
  apply wpSeq_val rfl
  case hs =>
    intro Q1 hQ1
    dsimp only [bare]
    go_wp2
    exact rfl
  apply wpSeq_val rfl
  case hs =>
    intro Q1 hQ1
    dsimp only [bare]
    go_wp2
    exact rfl
  apply wpSeq_val rfl
  case hs =>
    intro Q1 hQ1
    dsimp only [bare]
    go_wp2
    exact rfl
  apply wpSeq_val rfl
  case hs =>
    intro Q1 hQ1
    dsimp only [bare]
    go_wp2
    exact rfl
  apply wpSeq_val rfl
  case hs =>
    intro Q1 hQ1
    dsimp only [bare]
    go_wp2
    exact rfl
  apply wpSeq_val rfl
  case hs =>
    intro Q1 hQ1
    dsimp only [bare]
    go_wp2
    exact rfl
  apply wpSeq_val rfl
  case hs =>
    intro Q1 hQ1
    dsimp only [bare]
    go_wp2
    exact rfl
  apply wpSeq_val rfl
  case hs =>
    intro Q1 hQ1
    dsimp only [bare]
    go_wp2
    exact rfl
  apply wpSeq_val rfl
  case hs =>
    intro Q1 hQ1
    dsimp only [bare]
    go_wp2
    exact rfl
  apply wpSeq_val rfl
  case hs =>
    intro Q1 hQ1
    dsimp only [bare]
    go_wp2
    exact rfl
  refine wpList_nil ?_
  go_wp2
  go_ret
  exact ⟨rfl, F21.out⟩

set_option maxRecDepth 100000 in
theorem lifted (os : Os) (started : os.Started) (H : Type) (enc : TypeId × Value → H) :
    ReturnsInHanded {} Try.checked os 3 .any (Rows.fnProgramsSpec.pre6 enc Try.prog Try.f3 Rows.fnProgramsRow.domain false) (Rows.fnProgramsSpec.post enc Try.prog Try.f3 false true false false) := by
  refine returnsInHanded_of_change (C := Try.checked) own started (by kernel_rfl) Try.func3
    (ChangeSpec.witness6 (enc := enc) (C := Try.checked) false ⟨#[], #[.slice none 0 0], []⟩ 8 (by kernel_rfl) (by kernel_rfl) (by kernel_rfl) (by kernel_rfl)) ?_
  intro W base args ds gs before hval0 hW hcnd _
  have hval : ∀ (j : Nat) t v, Try.f3.params[j]? = some t → args[j]? = some v → Value.okWide Try.prog W .any base t v := hval0
  have hW' := hW
  obtain ⟨p, q, hA0, hV, rfl, hfz, hnd⟩ := hW
  have hA : DataW.TrodAll enc Try.prog W 0 (fun _ => true) true Try.f3.params.toList args.toList ds p := hA0
  rw [Try.params3] at hA hval
  obtain ⟨v0, vs0, d0, ds0, p0, q0, hargs, rfl, rfl, h0, r0⟩ := trodAll_cons hA
  obtain ⟨rfl, rfl, rfl⟩ := trodAll_nil r0
  obtain rfl : args = #[v0] := by cases args; simp_all
  obtain ⟨rfl, rfl⟩ := trodVars_none hV
  have lt0 : ∀ x ∈ p0, x.block < W.heap.size := by obtain ⟨m, hm⟩ := h0; exact DataW.trod_lt m _ _ _ hm
  obtain ⟨a0, len0, cap0, rfl⟩ := okWide_slice Try.underlying22 (hval 0 22 v0 rfl rfl)
  have raw0 : Raw W a0 len0 := by
    obtain ⟨fuel, hf⟩ := h0
    rcases open_ints Try.underlying22 Try.underlying5 (by kernel_rfl) hf with ⟨hcs, _⟩ | ⟨x, l, c, zs, hcs, _, hl, hm, hz, _, hcell, hwz⟩
    · simp [Value.cells] at hcs
      obtain ⟨rfl, rfl, rfl⟩ := hcs
      intro h; omega
    · simp [Value.cells] at hcs
      obtain ⟨rfl, rfl, rfl⟩ := hcs
      have hz' : zs.length = cap0 := by simpa using hz
      intro hpos
      obtain ⟨b, off, spot⟩ := x
      have hspot : spot = none := by simpa [Addr.add] using World.cell?_spot (hcell 0 (by omega))
      subst hspot
      refine ⟨b, off, rfl, fun j hj => ?_⟩
      have hj' : j < zs.length := by omega
      have hw := hwz _ (List.getElem_mem hj')
      have hb := bounds_u8 hw
      refine ⟨(zs[j]).toNat, by omega, ?_⟩
      have := hcell j hj'
      rw [Addr.add_lit] at this
      rw [this, List.getD_eq_getElem?_getD, List.getElem?_eq_getElem hj']
      simp only [Option.getD_some]
      congr 2
      omega
  clear hA0 hval0
  refine (walk a0 len0 cap0 W raw0).mono fun e W' ⟨he, bel⟩ => ?_
  subst he
  exact ⟨_, rfl, _, _, _, [], _, [], hW', trodAll_mk1 (shut_bool Try.underlying4 _), (trodAll_cons_mk (Below.trod laidOut (by kernel_rfl) (of_decide_eq_true (by kernel_rfl)) h0 bel lt0) trodAll_mk0), rfl, bel.frame _, fun h => by cases h⟩

end Go.Proofs.Ytefiafaokfabiaa.FnPrograms
namespace Go.Proofs.Ytefiafaokfabiaa
open Go.ChangeShapes Go.WideShapes Go.ChangeAt Go.RowKit

theorem fnPrograms : Rows.FnProgramsSaid :=
  OpenClaim.holds_of_wide 3 Try.f3 rfl rfl rfl rfl rfl rfl rfl ⟨rfl, rfl, rfl, rfl, rfl⟩ rfl rfl rfl rfl rfl (by kernel_rfl) Try.func3 (by kernel_rfl)
    (of_decide_eq_true (by kernel_rfl)) (by unfold Func.isWrapper; first | (rw [if_pos (by decide +kernel)]; kernel_rfl) | (rw [if_neg (by decide +kernel)]; exact ⟨rfl, rfl⟩))
    (fun os started H enc _ => FnPrograms.lifted os started H enc)
#print axioms fnPrograms
end Go.Proofs.Ytefiafaokfabiaa
