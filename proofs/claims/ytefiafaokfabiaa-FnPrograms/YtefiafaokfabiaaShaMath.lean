/- SHA-256 in plain numbers: what one round, one block, a text's padding and a text's digest are. -/
import Derived.Test.YtefiafaokfabiaaBase
import Derived.Laws.BitsAllLaws
namespace Go.Proofs.Ytefiafaokfabiaa
set_option linter.unusedVariables false

def M : Nat := 4294967296

/-- A word of 32 bits turned right by k places. -/
def rot (k x : Nat) : Nat := x / 2 ^ k ||| x * 2 ^ (32 - k) % 4294967296

theorem or_lt32 (a b : Nat) (ha : a < 4294967296) (hb : b < 4294967296) : a ||| b < 4294967296 := Nat.or_lt_two_pow (n := 32) ha hb
theorem xor_lt32 (a b : Nat) (ha : a < 4294967296) (hb : b < 4294967296) : a ^^^ b < 4294967296 := Nat.xor_lt_two_pow (n := 32) ha hb
theorem and_lt32 (a b : Nat) (ha : a < 4294967296) : a &&& b < 4294967296 := Nat.lt_of_le_of_lt Nat.and_le_left ha

theorem rot_lt (k x : Nat) (hx : x < 4294967296) : rot k x < 4294967296 :=
  or_lt32 _ _ (Nat.lt_of_le_of_lt (Nat.div_le_self _ _) hx) (Nat.mod_lt _ (by omega))

def sml0 (x : Nat) : Nat := rot 7 x ^^^ rot 18 x ^^^ x / 8
def sml1 (x : Nat) : Nat := rot 17 x ^^^ rot 19 x ^^^ x / 1024

theorem sml0_lt (x : Nat) (hx : x < 4294967296) : sml0 x < 4294967296 :=
  xor_lt32 _ _ (xor_lt32 _ _ (rot_lt _ _ hx) (rot_lt _ _ hx)) (by omega)
theorem sml1_lt (x : Nat) (hx : x < 4294967296) : sml1 x < 4294967296 :=
  xor_lt32 _ _ (xor_lt32 _ _ (rot_lt _ _ hx) (rot_lt _ _ hx)) (by omega)

/-- The word of the schedule behind those of l. -/
def nextW (l : List Nat) : Nat :=
  (((l.getD (l.length - 16) 0 + sml0 (l.getD (l.length - 15) 0)) % 4294967296 + l.getD (l.length - 7) 0) % 4294967296 + sml1 (l.getD (l.length - 2) 0)) % 4294967296

/-- The word of four bytes, the highest first. -/
def be (b0 b1 b2 b3 : Nat) : Nat := b0 * 16777216 ||| b1 * 65536 ||| b2 * 256 ||| b3

theorem be_lt (b0 b1 b2 b3 : Nat) (h0 : b0 < 256) (h1 : b1 < 256) (h2 : b2 < 256) (h3 : b3 < 256) : be b0 b1 b2 b3 < 4294967296 :=
  or_lt32 _ _ (or_lt32 _ _ (or_lt32 _ _ (by omega) (by omega)) (by omega)) (by omega)

def byteD (l : List UInt8) (i : Nat) : Nat := (l.getD i 0).toNat

theorem byteD_lt (l : List UInt8) (i : Nat) : byteD l i < 256 := UInt8.toNat_lt _

/-- The first n of a block's words, as far as they are read from its bytes. -/
def firstW (l : List UInt8) : Nat → List Nat
  | 0 => []
  | n + 1 => firstW l n ++ [be (byteD l (4 * n)) (byteD l (4 * n + 1)) (byteD l (4 * n + 2)) (byteD l (4 * n + 3))]

theorem firstW_length (l : List UInt8) (n : Nat) : (firstW l n).length = n := by
  induction n with
  | zero => rfl
  | succ n ih => simp [firstW, ih]

/-- The schedule: 16 words of the block, n that come of them. -/
def sched (l : List UInt8) : Nat → List Nat
  | 0 => firstW l 16
  | n + 1 => sched l n ++ [nextW (sched l n)]

theorem sched_length (l : List UInt8) (n : Nat) : (sched l n).length = 16 + n := by
  induction n with
  | zero => exact firstW_length l 16
  | succ n ih => simp [sched, ih]; omega

theorem firstW_lt (l : List UInt8) (n : Nat) : ∀ x ∈ firstW l n, x < 4294967296 := by
  induction n with
  | zero => intro x hx; cases hx
  | succ n ih =>
    intro x hx
    rcases List.mem_append.1 hx with h | h
    · exact ih x h
    · obtain rfl := List.mem_singleton.1 h
      exact be_lt _ _ _ _ (byteD_lt _ _) (byteD_lt _ _) (byteD_lt _ _) (byteD_lt _ _)

theorem sched_lt (l : List UInt8) (n : Nat) : ∀ x ∈ sched l n, x < 4294967296 := by
  induction n with
  | zero => exact firstW_lt l 16
  | succ n ih =>
    intro x hx
    rcases List.mem_append.1 hx with h | h
    · exact ih x h
    · obtain rfl := List.mem_singleton.1 h
      exact Nat.mod_lt _ (by omega)

theorem getD_lt32 {l : List Nat} (h : ∀ x ∈ l, x < 4294967296) (i : Nat) : l.getD i 0 < 4294967296 := by
  rw [List.getD_eq_getElem?_getD]
  cases hq : l[i]? with
  | none => simp
  | some v => exact h v (List.mem_of_getElem? hq)

/-- The eight words. -/
structure St where
  a : Nat
  b : Nat
  c : Nat
  d : Nat
  e : Nat
  f : Nat
  g : Nat
  h : Nat

def St.ok (s : St) : Prop := s.a < 4294967296 ∧ s.b < 4294967296 ∧ s.c < 4294967296 ∧ s.d < 4294967296 ∧ s.e < 4294967296 ∧ s.f < 4294967296 ∧ s.g < 4294967296 ∧ s.h < 4294967296

def big0 (x : Nat) : Nat := rot 2 x ^^^ rot 13 x ^^^ rot 22 x
def big1 (x : Nat) : Nat := rot 6 x ^^^ rot 11 x ^^^ rot 25 x
def choose (e f g : Nat) : Nat := (e &&& f) ^^^ ((e ^^^ 4294967295) &&& g)
def most (a b c : Nat) : Nat := (a &&& b) ^^^ (a &&& c) ^^^ (b &&& c)
def low (s : St) (k w : Nat) : Nat := ((((s.h + big1 s.e) % 4294967296 + choose s.e s.f s.g) % 4294967296 + k) % 4294967296 + w) % 4294967296
def high (s : St) (o : Nat) : Nat := ((o + big0 s.a) % 4294967296 + most s.a s.b s.c) % 4294967296

def turnSt (k w : Nat) (s : St) : St := ⟨high s (low s k w), s.a, s.b, s.c, (s.d + low s k w) % 4294967296, s.e, s.f, s.g⟩

theorem turnSt_ok (k w : Nat) (s : St) (h : s.ok) : (turnSt k w s).ok := by
  obtain ⟨h1, h2, h3, h4, h5, h6, h7, h8⟩ := h
  exact ⟨Nat.mod_lt _ (by omega), h1, h2, h3, Nat.mod_lt _ (by omega), h5, h6, h7⟩

theorem big0_lt (x : Nat) (hx : x < 4294967296) : big0 x < 4294967296 := xor_lt32 _ _ (xor_lt32 _ _ (rot_lt _ _ hx) (rot_lt _ _ hx)) (rot_lt _ _ hx)
theorem big1_lt (x : Nat) (hx : x < 4294967296) : big1 x < 4294967296 := xor_lt32 _ _ (xor_lt32 _ _ (rot_lt _ _ hx) (rot_lt _ _ hx)) (rot_lt _ _ hx)
theorem choose_lt (e f g : Nat) (he : e < 4294967296) : choose e f g < 4294967296 := xor_lt32 _ _ (and_lt32 _ _ he) (and_lt32 _ _ (xor_lt32 _ _ he (by omega)))
theorem most_lt (a b c : Nat) (ha : a < 4294967296) (hb : b < 4294967296) : most a b c < 4294967296 := xor_lt32 _ _ (xor_lt32 _ _ (and_lt32 _ _ ha) (and_lt32 _ _ ha)) (and_lt32 _ _ hb)

/-- n rounds. -/
def turns (ks ws : List Nat) (s : St) : Nat → St
  | 0 => s
  | n + 1 => turnSt (ks.getD n 0) (ws.getD n 0) (turns ks ws s n)

theorem turns_ok (ks ws : List Nat) (s : St) (h : s.ok) (n : Nat) : (turns ks ws s n).ok := by
  induction n with
  | zero => exact h
  | succ n ih => exact turnSt_ok _ _ _ ih

def St.add (s t : St) : St := ⟨(s.a + t.a) % 4294967296, (s.b + t.b) % 4294967296, (s.c + t.c) % 4294967296, (s.d + t.d) % 4294967296, (s.e + t.e) % 4294967296, (s.f + t.f) % 4294967296, (s.g + t.g) % 4294967296, (s.h + t.h) % 4294967296⟩

theorem St.add_ok (s t : St) : (s.add t).ok :=
  ⟨Nat.mod_lt _ (by omega), Nat.mod_lt _ (by omega), Nat.mod_lt _ (by omega), Nat.mod_lt _ (by omega), Nat.mod_lt _ (by omega), Nat.mod_lt _ (by omega), Nat.mod_lt _ (by omega), Nat.mod_lt _ (by omega)⟩

def keysN : List Nat := [1116352408, 1899447441, 3049323471, 3921009573, 961987163, 1508970993, 2453635748, 2870763221, 3624381080, 310598401, 607225278, 1426881987, 1925078388, 2162078206, 2614888103, 3248222580, 3835390401, 4022224774, 264347078, 604807628, 770255983, 1249150122, 1555081692, 1996064986, 2554220882, 2821834349, 2952996808, 3210313671, 3336571891, 3584528711, 113926993, 338241895, 666307205, 773529912, 1294757372, 1396182291, 1695183700, 1986661051, 2177026350, 2456956037, 2730485921, 2820302411, 3259730800, 3345764771, 3516065817, 3600352804, 4094571909, 275423344, 430227734, 506948616, 659060556, 883997877, 958139571, 1322822218, 1537002063, 1747873779, 1955562222, 2024104815, 2227730452, 2361852424, 2428436474, 2756734187, 3204031479, 3329325298]

theorem keysN_lt : ∀ x ∈ keysN, x < 4294967296 := by decide

def begin8 : St := ⟨1779033703, 3144134277, 1013904242, 2773480762, 1359893119, 2600822924, 528734635, 1541459225⟩

theorem begin8_ok : begin8.ok := by unfold St.ok begin8; decide

/-- One block. -/
def blockSt (s : St) (l : List UInt8) : St := s.add (turns keysN (sched l 48) s 64)

theorem blockSt_ok (s : St) (l : List UInt8) : (blockSt s l).ok := St.add_ok _ _

/-- The eight bytes of a number. -/
def be8 (n : Nat) : List UInt8 := [UInt8.ofNat (n / 72057594037927936), UInt8.ofNat (n / 281474976710656), UInt8.ofNat (n / 1099511627776), UInt8.ofNat (n / 4294967296), UInt8.ofNat (n / 16777216), UInt8.ofNat (n / 65536), UInt8.ofNat (n / 256), UInt8.ofNat n]

/-- How many zeros stand behind the byte 128. -/
def zerosOf (n : Nat) : Nat := (n + 8) / 64 * 64 + 64 - 8 - (n + 1)

def padL (l : List UInt8) : List UInt8 := l ++ [128] ++ List.replicate (zerosOf l.length) 0 ++ be8 (8 * l.length)

theorem padL_length (l : List UInt8) : (padL l).length = (l.length + 8) / 64 * 64 + 64 := by
  simp [padL, zerosOf, be8]; omega

/-- n blocks of a text, from the start on. -/
def blocks (s : St) (p : List UInt8) : Nat → St
  | 0 => s
  | n + 1 => blockSt (blocks s p n) ((p.drop (64 * n)).take 64)

theorem blocks_ok (s : St) (h : s.ok) (p : List UInt8) (n : Nat) : (blocks s p n).ok := by
  cases n with
  | zero => exact h
  | succ n => exact blockSt_ok _ _

def be4 (n : Nat) : List UInt8 := [UInt8.ofNat (n / 16777216), UInt8.ofNat (n / 65536), UInt8.ofNat (n / 256), UInt8.ofNat n]

def St.list (s : St) : List Nat := [s.a, s.b, s.c, s.d, s.e, s.f, s.g, s.h]

def St.bytes (s : St) : List UInt8 := be4 s.a ++ be4 s.b ++ be4 s.c ++ be4 s.d ++ be4 s.e ++ be4 s.f ++ be4 s.g ++ be4 s.h

def digestSt (l : List UInt8) : St := blocks begin8 (padL l) ((l.length + 8) / 64 + 1)

def digestL (l : List UInt8) : List UInt8 := (digestSt l).bytes

theorem bytes_length (s : St) : s.bytes.length = 32 := rfl

end Go.Proofs.Ytefiafaokfabiaa
