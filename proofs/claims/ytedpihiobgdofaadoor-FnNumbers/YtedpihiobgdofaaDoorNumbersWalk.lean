/- The law FnNumbers answers true at every list of bytes, where the library's table of powers holds what its text lays. -/
import Derived.Test.YtedpihiobgdofaaDoorDraws2
import Derived.Test.YtedpihiobgdofaaDoorBackMath
import Derived.Test.YtedpihiobgdofaaDoorVar
import Derived.Test.YtedpihiobgdofaaDoorRVar
import Derived.Test.YtedpihiobgdofaaDoorRShort
import Derived.Test.YtedpihiobgdofaaDoorShort
import Derived.Test.YtedpihiobgdofaaDoorHexI
import Derived.Test.YtedpihiobgdofaaDoorUnhexI
import Derived.Test.YtedpihiobgdofaaDoorRDecI
import Derived.Test.YtedpihiobgdofaaDoorDecI
import Derived.Test.YtedpihiobgdofaaDoorDecLib
import Derived.WalkKit
namespace Go.Proofs.YtedpihiobgdofaaDoor
open Go.RowKit
set_option linter.unusedVariables false

def Raw (w : World) (a : Option Addr) (len : Nat) : Prop :=
  0 < len → ∃ b off, a = some ⟨b, off, none⟩ ∧ ∀ j, j < len → ∃ x : Nat, x ≤ 255 ∧ w.cell? ⟨b, off + j, none⟩ = some (.int .u8 (x : Int))

theorem gTab : Tryd.prog.globalNamed "internal/strconv.uint64pow10" = some 0 := by kernel_rfl

/-- ReadVar reads back the number between two letters. -/
theorem back_var (n : Nat) (wx : World) (h : n ≤ 1000000000) :
    Calls Tryd.prog 7 #[.string ⟨(120 :: (V n ++ [121])).toArray⟩, .int .i64 1] wx fun e w' => e = .returned (.tuple #[.int .i64 (n : Int), .int .i64 (((V n).length : Int) + 1), .bool true]) ∧ Below wx.heap.size wx w' := by
  have hl := V_length n h
  have := iRV_in ⟨(120 :: (V n ++ [121])).toArray⟩ 1 wx (by simp [ByteArray.size]; omega) (by simp [ByteArray.size])
  rw [show ((⟨(120 :: (V n ++ [121])).toArray⟩ : ByteArray).data.toList.drop 1) = V n ++ [121] by simp, RVv_V n 1 [121] h, show (((1 + (V n).length : Nat)) : Int) = ((V n).length : Int) + 1 by omega] at this
  exact this

theorem back_dec (n : Nat) (wx : World) (h : n ≤ 1000000000) :
    Calls Tryd.prog 8 #[.string ⟨(decS n).toArray⟩] wx fun e w' => e = .returned (.tuple #[.int .i64 (n : Int), .bool true]) ∧ Below wx.heap.size wx w' := by
  have hl : (decS n).length ≤ 20 := by
    unfold decS
    split
    · simp
    · have : (10 : Nat) ^ 20 = 100000000000000000000 := by decide
      have := dec_len 20 n (by omega)
      omega
  have := iRD_any ⟨(decS n).toArray⟩ wx (by simp [ByteArray.size]; omega)
  rw [show (⟨(decS n).toArray⟩ : ByteArray).data.toList = decS n by simp, RD_decS n h] at this
  exact this

theorem itoa_decS (n : Nat) : Lib.itoa (n : Int) = decS n := by
  unfold Lib.itoa
  rw [if_neg (by omega), show ((n : Int)).toNat = n by omega, decS_digits n n (Nat.le_refl _)]

theorem fore_dec (n : Nat) (wx : World) (h : n ≤ 1000000000) (ht : Lib.TabIs Tryd.prog wx "internal/strconv.uint64pow10" .u64 Lib.pow10Tab) :
    Calls Tryd.prog 9 #[.int .i64 (n : Int)] wx fun e w' => e = .returned (.string ⟨(decS n).toArray⟩) ∧ Below wx.heap.size wx w' := by
  have := iDec_any (n : Int) wx (by omega) (by omega) ht
  rw [itoa_decS] at this
  exact this

theorem back_short_at (s A : ByteArray) (v : List UInt8) (k : Nat) (wx : World) (hv : v = V k) (hk : k = s.size) (hA : A = ⟨v.toArray⟩ ++ s) (h : k ≤ 300) :
    Calls Tryd.prog 12 #[.string A, .int .i64 0] wx fun e w' => e = .returned (.tuple #[.string s, .int .i64 (A.size : Int), .bool true]) ∧ Below wx.heap.size wx w' := by
  have hl : v.length ≤ 5 := by rw [hv]; exact V_length k (by omega)
  have hsz : A.size = v.length + k := by
    rw [hA, ByteArray.size_append, hk]
    show v.toArray.size + _ = _
    rw [List.size_toArray]
  have hd : A.data.toList = v ++ s.data.toList := by rw [hA]; simp [ByteArray.data_append]
  have hx : A.extract v.length (v.length + k) = s := by rw [hA]; exact extract_short k s v hk
  clear hA
  have hRV : Hid (∀ wy : World, Calls Tryd.prog 7 #[.string A, .int .i64 0] wy fun e w' => e = .returned (.tuple #[.int .i64 (k : Int), .int .i64 (v.length : Int), .bool true]) ∧ Below wy.heap.size wy w') := by
    intro wy
    have := iRV_in A 0 wy (by omega) (by omega)
    have c0 : ((0 : Nat) : Int) = 0 := rfl
    have c1 : ((0 + v.length : Nat) : Int) = (v.length : Int) := by rw [Nat.zero_add]
    have c3 : RVv (v ++ s.data.toList) 0 = .tuple #[.int .i64 (k : Int), .int .i64 ((0 + v.length : Nat) : Int), .bool true] := by rw [hv]; exact RVv_V k 0 _ (by omega)
    rw [c0, hd, List.drop_zero, c3, c1] at this
    exact this
  have := iRS_ok A 0 k v.length wx (by omega) (by omega) (by omega) hRV
  have c2 : (v.length : Int) + (k : Int) = (A.size : Int) := by rw [hsz]; omega
  rw [hx, c2] at this
  exact this

theorem back_short (s : ByteArray) (wx : World) (h : s.size ≤ 300) :
    Calls Tryd.prog 12 #[.string (⟨(V s.size).toArray⟩ ++ s), .int .i64 0] wx fun e w' => e = .returned (.tuple #[.string s, .int .i64 (((⟨(V s.size).toArray⟩ ++ s : ByteArray).size : Nat) : Int), .bool true]) ∧ Below wx.heap.size wx w' :=
  back_short_at s _ _ _ wx rfl rfl rfl h

theorem back_hex (s : ByteArray) (wx : World) (h : s.size ≤ 300) :
    Calls Tryd.prog 14 #[.string ⟨(hexOf s.data.toList).toArray⟩] wx fun e w' => e = .returned (.tuple #[.string s, .bool true]) ∧ Below wx.heap.size wx w' := by
  have hl : (hexOf s.data.toList).length = 2 * s.size := by rw [hexOf_length]; simp
  have hsz : (⟨(hexOf s.data.toList).toArray⟩ : ByteArray).size = 2 * s.size := by show (hexOf s.data.toList).toArray.size = _; rw [List.size_toArray]; exact hl
  have := iUnhex_in ⟨(hexOf s.data.toList).toArray⟩ wx (by omega) (by omega)
  rw [show (⟨(hexOf s.data.toList).toArray⟩ : ByteArray).data.toList = hexOf s.data.toList by simp, unhex_hex] at this
  have e : (⟨s.data.toList.toArray⟩ : ByteArray) = s := rfl
  simpa [unV, e] using this

end Go.Proofs.YtedpihiobgdofaaDoor
