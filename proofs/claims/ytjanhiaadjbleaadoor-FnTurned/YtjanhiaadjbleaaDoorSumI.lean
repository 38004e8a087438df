/- What impl.SumMore, impl.SumOf answer where the table of 16 holds what its text lays: the same sums. -/
import Derived.Test.YtjanhiaadjbleaaDoorSumS
import Derived.Lib.LaidTab
import Derived.WalkSmall
namespace Go.Proofs.YtjanhiaadjbleaaDoor
open Go.RowKit
set_option linter.unusedVariables false

def tabZ : List Int := [0, 1166650509, 2333301018, 3466261911, 3189058079, 4221339282, 889615109, 1888477064, 3558460437, 2442158232, 1594529039, 444807554, 1779230218, 797264519, 3776954128, 2761298845]

theorem tabZ_at : ∀ r : Fin 16, tabZ.getD r.val 0 = ((tabN.getD r.val 0 : Nat) : Int) := by decide

theorem tabN_lt : ∀ r : Fin 16, tabN.getD r.val 0 < 4294967296 := by decide

theorem gTab : Tryd.prog.globalNamed "loop.example/g00397/impl.halved" = some 0 := by kernel_rfl

def Tab (w : World) : Prop := Lib.TabIs Tryd.prog w "loop.example/g00397/impl.halved" .u32 tabZ

theorem Tab.at {w : World} (h : Tab w) (r : Nat) (hr : r < 16) : w.cell? ⟨0, r, none⟩ = some (.int .u32 ((tabN.getD r 0 : Nat) : Int)) := by
  have := Lib.TabIs.cell h gTab r hr
  rw [this, tabZ_at ⟨r, hr⟩]

theorem Tab.pos {w : World} (h : Tab w) : 0 < w.heap.size := World.block_lt_of_cell? w _ (h.at 0 (by omega))

theorem Tab.below {w w' : World} {B : Nat} (h : Tab w) (hb : Below B w w') (hB : 0 < B) : Tab w' := var?_below hb gTab hB h

theorem step16 (x : Nat) (hx : x < 4294967296) : x / 16 ^^^ tabN.getD (x % 16) 0 < 4294967296 := by
  rw [← half4]; exact halfN_lt x hx 4

theorem withByte_any (s : Nat) (b : UInt8) (w : World) (hs : s < 4294967296) (hT : Tab w) :
    Calls Tryd.prog 25 #[.int .u32 (s : Int), .int .u8 (b.toNat : Int)] w fun e w' => e = .returned (.int .u32 (sumB s b : Nat)) ∧ w = w' := by
  have hb : b.toNat < 256 := b.toNat_lt
  obtain ⟨x, hx⟩ : ∃ x, x = s ^^^ b.toNat := ⟨_, rfl⟩
  have hxl : x < 4294967296 := by rw [hx]; exact xor_byte_lt s b hs
  have hxor : bits .xor .u32 (s : Int) (b.toNat : Int) = (x : Int) := by rw [hx]; exact u32_xor_nat s _ hs (by omega)
  obtain ⟨y, hy⟩ : ∃ y, y = x / 16 ^^^ tabN.getD (x % 16) 0 := ⟨_, rfl⟩
  have hyl : y < 4294967296 := by rw [hy]; exact step16 x hxl
  obtain ⟨p, hp⟩ : ∃ p, p = x / 16 := ⟨_, rfl⟩
  obtain ⟨q, hq⟩ : ∃ q, q = y / 16 := ⟨_, rfl⟩
  obtain ⟨r1, hr1⟩ : ∃ r, r = x % 16 := ⟨_, rfl⟩
  obtain ⟨r2, hr2⟩ : ∃ r, r = y % 16 := ⟨_, rfl⟩
  have l1 : r1 < 16 := by omega
  have l2 : r2 < 16 := by omega
  have c1 := hT.at r1 l1
  have c2 := hT.at r2 l2
  obtain ⟨v1, hv1⟩ : ∃ v, v = tabN.getD r1 0 := ⟨_, rfl⟩
  obtain ⟨v2, hv2⟩ : ∃ v, v = tabN.getD r2 0 := ⟨_, rfl⟩
  have m1 : v1 < 4294967296 := by rw [hv1]; exact tabN_lt ⟨r1, l1⟩
  have m2 : v2 < 4294967296 := by rw [hv2]; exact tabN_lt ⟨r2, l2⟩
  rw [← hv1] at c1
  rw [← hv2] at c2
  have x1 : bits .xor .u32 (p : Int) (v1 : Int) = (y : Int) := by rw [u32_xor_nat p v1 (by omega) m1, hp, hv1, hr1, ← hy]
  have x2 : bits .xor .u32 (q : Int) (v2 : Int) = ((q ^^^ v2 : Nat) : Int) := u32_xor_nat q v2 (by omega) m2
  have hF : Hid (q ^^^ v2 = sumB s b) := by
    unfold Hid
    rw [sumB_tab s x y b hx hy, hq, hv2, hr2]
  have e1 : (x : Int) / 16 = (p : Int) := by omega
  have e2 : (x : Int) % 16 = (r1 : Int) := by omega
  have e3 : (y : Int) / 16 = (q : Int) := by omega
  have e4 : (y : Int) % 16 = (r2 : Int) := by omega
  have i1 : (r1 : Int) < 16 := by omega
  have i2 : (r2 : Int) < 16 := by omega
  clear hx hy hp hq hr1 hr2 hv1 hv2 hT
  go_enter Tryd.func25, Tryd.ntmps25
  go_wp2
  go_ret
  exact ⟨ret_u32 hF.out, rfl⟩

set_option maxRecDepth 100000 in
set_option maxHeartbeats 1000000 in
theorem iSumMore_any (s : Nat) (t : ByteArray) (w : World) (hs : s < 4294967296) (ht : t.size ≤ 1048576) (hT : Tab w) :
    Calls Tryd.prog 13 #[.int .u32 (s : Int), .string t] w fun e w' => e = .returned (.int .u32 (sumL s t.data.toList : Nat)) ∧ w = w' := by
  have HT : Hid (Tab w) := hT
  clear hT
  go_enter Tryd.func13, Tryd.ntmps13
  go_wp2
  go_loop [5, 6] (fun x i => ∃ (k y : Nat), i = .int .i64 k ∧ x = .int .u32 y ∧ k ≤ t.size ∧ y < 4294967296 ∧ Hid (y = sumL s (t.data.toList.take k))) (fun _ i => t.size - (intOf i).toNat)
  case atStart => exact ⟨0, s, rfl, rfl, by omega, hs, by unfold Hid; rfl⟩
  case round =>
    obtain ⟨k, y, rfl, rfl, hk, hy, hY⟩ := hrel
    by_cases hlt : k < t.size
    · have hx : t[k].toNat < 256 := t[k].toNat_lt
      have k1 : (k : Int) < (t.size : Int) := by omega
      go_wp2_with fail
      refine (withByte_any y t[k] _ hy HT.out).mono ?_
      rintro e w' ⟨rfl, rfl⟩
      go_wp2
      go_round
      case rel => exact ⟨k + 1, sumB y t[k], by go_num, rfl, by omega, sumB_lt y _ hy, by unfold Hid; rw [sumL_take s t k hlt, ← hY.out]⟩
      case measure => simp [intOf]; omega
    · have hkk : k = t.size := by omega
      have hE : Hid (y = sumL s t.data.toList) := by unfold Hid; rw [hY.out, hkk, List.take_of_length_le (by simp)]
      clear hkk
      go_wp2
      go_ret
      exact ⟨by rw [hE.out]; rfl, rfl⟩

theorem iSumOf_any (t : ByteArray) (w : World) (ht : t.size ≤ 1048576) (hT : Tab w) :
    Calls Tryd.prog 14 #[.string t] w fun e w' => e = .returned (.int .u32 (sumL 4294967295 t.data.toList : Nat)) ∧ w = w' := by
  have HT : Hid (Tab w) := hT
  clear hT
  go_enter Tryd.func14, Tryd.ntmps14
  go_wp2_with fail
  refine (iSumMore_any 4294967295 t _ (by omega) ht HT.out).mono ?_
  rintro e w' ⟨rfl, rfl⟩
  go_wp2
  go_ret
  exact ⟨rfl, rfl⟩

/-- 'string([]byte{a, b, c, d})': the four bytes. -/
theorem conv_four (wr : World) (x : Nat) (a b c d : Nat) (ha : a = x / 16777216 % 256) (hb : b = x / 65536 % 256) (hc : c = x / 256 % 256) (hd : d = x % 256) :
    (convert 22 9 (.slice (some ⟨wr.heap.size, 0, none⟩) 4 4)).run Tryd.prog (wr.alloc (.cells #[.int .u8 (a : Int), .int .u8 (b : Int), .int .u8 (c : Int), .int .u8 (d : Int)] 5)) = .ok (.string ⟨(four x).toArray⟩) (wr.alloc (.cells #[.int .u8 (a : Int), .int .u8 (b : Int), .int .u8 (c : Int), .int .u8 (d : Int)] 5)) := by
  have ho : (wr.alloc (.cells #[.int .u8 (a : Int), .int .u8 (b : Int), .int .u8 (c : Int), .int .u8 (d : Int)] 5)).ownsRow wr.heap.size 5 1 (.slice (some ⟨wr.heap.size, 0, none⟩) 4 4) 4 (bytesV (four x)) := by
    have := World.ownsRow_lit (base := wr.heap.size) (e := 5) (size := 1) wr #[.int .u8 (a : Int), .int .u8 (b : Int), .int .u8 (c : Int), .int .u8 (d : Int)] 4 (Nat.le_refl _) (by decide) rfl
    have e : bytesV (four x) = [.int .u8 (a : Int), .int .u8 (b : Int), .int .u8 (c : Int), .int .u8 (d : Int)] := by
      unfold four bytesV
      simp only [List.map_cons, List.map_nil]
      rw [← byte_of _ (by omega), ← byte_of _ (by omega), ← byte_of _ (by omega), ← byte_of _ (by omega), ha, hb, hc, hd]
    rw [e]
    exact this
  exact own_convert (P := Tryd.prog) ho Tryd.underlying22 Tryd.underlying5 Tryd.underlying9

theorem u8_mod (n p : Nat) (x : Int) (hx : x = (n : Int)) (h : p = n % 256) : IntKind.u8.wrap x = (p : Int) := by
  subst h; subst hx; rw [IntKind.wrap_u8']; omega

theorem sumBytes_any (x : Nat) (w : World) (hx : x < 4294967296) :
    Calls Tryd.prog 23 #[.int .u32 (x : Int)] w fun e w' => e = .returned (.string ⟨(four x).toArray⟩) ∧ Below w.heap.size w w' := by
  obtain ⟨a, ha⟩ : ∃ a, a = x / 16777216 % 256 := ⟨_, rfl⟩
  obtain ⟨b, hb⟩ : ∃ b, b = x / 65536 % 256 := ⟨_, rfl⟩
  obtain ⟨c, hc⟩ : ∃ c, c = x / 256 % 256 := ⟨_, rfl⟩
  obtain ⟨d, hd⟩ : ∃ d, d = x % 256 := ⟨_, rfl⟩
  have wa : IntKind.u8.wrap ((x : Int) / 16777216) = (a : Int) := u8_mod (x / 16777216) a _ (by simp) ha
  have wb : IntKind.u8.wrap ((x : Int) / 65536) = (b : Int) := u8_mod (x / 65536) b _ (by simp) hb
  have wc : IntKind.u8.wrap ((x : Int) / 256) = (c : Int) := u8_mod (x / 256) c _ (by simp) hc
  have wd : IntKind.u8.wrap (x : Int) = (d : Int) := u8_mod x d _ rfl hd
  have hcv := conv_four w x a b c d ha hb hc hd
  clear ha hb hc hd
  go_enter Tryd.func23, Tryd.ntmps23
  go_wp2
  go_ret
  exact ⟨rfl, (Below.refl _ _).alloc (Nat.le_refl _) _⟩

theorem l02Four_any (x : Nat) (w : World) (hx : x < 4294967296) :
    Calls Tryd.prog 26 #[.int .u32 (x : Int)] w fun e w' => e = .returned (.string ⟨(four x).toArray⟩) ∧ Below w.heap.size w w' := by
  obtain ⟨a, ha⟩ : ∃ a, a = x / 16777216 % 256 := ⟨_, rfl⟩
  obtain ⟨b, hb⟩ : ∃ b, b = x / 65536 % 256 := ⟨_, rfl⟩
  obtain ⟨c, hc⟩ : ∃ c, c = x / 256 % 256 := ⟨_, rfl⟩
  obtain ⟨d, hd⟩ : ∃ d, d = x % 256 := ⟨_, rfl⟩
  have wa : IntKind.u8.wrap ((x : Int) / 16777216) = (a : Int) := u8_mod (x / 16777216) a _ (by simp) ha
  have wb : IntKind.u8.wrap ((x : Int) / 65536) = (b : Int) := u8_mod (x / 65536) b _ (by simp) hb
  have wc : IntKind.u8.wrap ((x : Int) / 256) = (c : Int) := u8_mod (x / 256) c _ (by simp) hc
  have wd : IntKind.u8.wrap (x : Int) = (d : Int) := u8_mod x d _ rfl hd
  have hcv := conv_four w x a b c d ha hb hc hd
  clear ha hb hc hd
  go_enter Tryd.func26, Tryd.ntmps26
  go_wp2
  go_ret
  exact ⟨rfl, (Below.refl _ _).alloc (Nat.le_refl _) _⟩

end Go.Proofs.YtjanhiaadjbleaaDoor
