/-
  SHA-256 as plain data. Imports nothing of the program.
-/
import Derived.Laws.BitsAllLaws
namespace Go.Proofs.YtabhpgacnenacaaDoor

/-- x turned right by n -/
def rot (x n : UInt32) : UInt32 := x <<< (32 - n) ||| x >>> n
/-- eight words -/
structure W8 where
  a : UInt32
  b : UInt32
  c : UInt32
  d : UInt32
  e : UInt32
  f : UInt32
  g : UInt32
  h : UInt32
deriving DecidableEq
/-- one round, with k + m given apart -/
def rnd (v : W8) (k m : UInt32) : W8 :=
  let x := v.h + (rot v.e 6 ^^^ rot v.e 11 ^^^ rot v.e 25) + (v.e &&& v.f ^^^ ~~~v.e &&& v.g) + k + m
  let y := (rot v.a 2 ^^^ rot v.a 13 ^^^ rot v.a 22) + (v.a &&& v.b ^^^ v.a &&& v.c ^^^ v.b &&& v.c)
  ⟨x + y, v.a, v.b, v.c, v.d + x, v.e, v.f, v.g⟩
/-- the rounds over numbers and words -/
def rnds : W8 → List UInt32 → List UInt32 → W8
  | v, k :: ks, m :: ms => rnds (rnd v k m) ks ms
  | v, _, _ => v
theorem rnds_snoc : ∀ (v : W8) (ks ms : List UInt32) (k m : UInt32), ks.length = ms.length → rnds v (ks ++ [k]) (ms ++ [m]) = rnd (rnds v ks ms) k m
  | _, [], [], _, _, _ => rfl
  | v, k' :: ks, m' :: ms, k, m, h => by
    show rnds (rnd v k' m') (ks ++ [k]) (ms ++ [m]) = rnd (rnds (rnd v k' m') ks ms) k m
    exact rnds_snoc _ ks ms k m (by simpa using h)
  | _, [], _ :: _, _, _, h => by simp at h
  | _, _ :: _, [], _, _, h => by simp at h
/-- a word of four bytes, the highest first -/
def word4 (a b c d : UInt8) : UInt32 := a.toUInt32 <<< 24 ||| b.toUInt32 <<< 16 ||| c.toUInt32 <<< 8 ||| d.toUInt32
/-- the first words of a block -/
def words4 : List UInt8 → List UInt32
  | a :: b :: c :: d :: l => word4 a b c d :: words4 l
  | _ => []
/-- the next word -/
def nxtW (m : List UInt32) : UInt32 :=
  let i := m.length
  let x := m.getD (i - 15) 0
  let y := m.getD (i - 2) 0
  m.getD (i - 16) 0 + (rot x 7 ^^^ rot x 18 ^^^ x >>> 3) + m.getD (i - 7) 0 + (rot y 17 ^^^ rot y 19 ^^^ y >>> 10)
def grow : Nat → List UInt32 → List UInt32
  | 0, m => m
  | n + 1, m => grow n (m ++ [nxtW m])
theorem grow_snoc (n : Nat) : ∀ m, grow (n + 1) m = grow n m ++ [nxtW (grow n m)] := by
  induction n with
  | zero => intro m; rfl
  | succ n ih => intro m; show grow (n + 1) (m ++ [nxtW m]) = _; rw [ih]; rfl
theorem grow_len (n : Nat) : ∀ m, (grow n m).length = m.length + n := by
  induction n with
  | zero => intro m; rfl
  | succ n ih => intro m; rw [grow, ih]; simp; omega
/-- a word for each round of a block -/
def spreadL (block : List UInt8) : List UInt32 := grow 48 (words4 block)
def W8.plus (v u : W8) : W8 := ⟨v.a + u.a, v.b + u.b, v.c + u.c, v.d + u.d, v.e + u.e, v.f + u.f, v.g + u.g, v.h + u.h⟩
def W8.list (v : W8) : List UInt32 := [v.a, v.b, v.c, v.d, v.e, v.f, v.g, v.h]
/-- behind one more block -/
def withL (ks : List UInt32) (v : W8) (block : List UInt8) : W8 := v.plus (rnds v ks (spreadL block))
/-- the numbers of the rounds -/
def numsL : List UInt32 := [1116352408, 1899447441, 3049323471, 3921009573, 961987163, 1508970993, 2453635748, 2870763221, 3624381080, 310598401, 607225278, 1426881987, 1925078388, 2162078206, 2614888103, 3248222580,
  3835390401, 4022224774, 264347078, 604807628, 770255983, 1249150122, 1555081692, 1996064986, 2554220882, 2821834349, 2952996808, 3210313671, 3336571891, 3584528711, 113926993, 338241895,
  666307205, 773529912, 1294757372, 1396182291, 1695183700, 1986661051, 2177026350, 2456956037, 2730485921, 2820302411, 3259730800, 3345764771, 3516065817, 3600352804, 4094571909, 275423344,
  430227734, 506948616, 659060556, 883997877, 958139571, 1322822218, 1537002063, 1747873779, 1955562222, 2024104815, 2227730452, 2361852424, 2428436474, 2756734187, 3204031479, 3329325298]
def start8 : W8 := ⟨1779033703, 3144134277, 1013904242, 2773480762, 1359893119, 2600822924, 528734635, 1541459225⟩
/-- block by block, so many of them -/
def blocksN : Nat → W8 → List UInt8 → W8
  | 0, v, _ => v
  | n + 1, v, l => blocksN n (withL numsL v (l.take 64)) (l.drop 64)
def blocks (v : W8) (l : List UInt8) : W8 := blocksN (l.length / 64) v l
/-- the four bytes of a word -/
def bytes4 (x : UInt32) : List UInt8 := [(x >>> 24).toUInt8, (x >>> 16).toUInt8, (x >>> 8).toUInt8, (x >>> 0).toUInt8]
def hashL (v : W8) : List UInt8 := v.list.flatMap bytes4
/-- a number of bits, by eight bytes -/
def bytes8 (x : UInt64) : List UInt8 := [(x >>> 56).toUInt8, (x >>> 48).toUInt8, (x >>> 40).toUInt8, (x >>> 32).toUInt8, (x >>> 24).toUInt8, (x >>> 16).toUInt8, (x >>> 8).toUInt8, (x >>> 0).toUInt8]
/-- how many zeros lie ahead of the length -/
def padN (n : Nat) : Nat := (119 - n % 64) % 64
/-- what comes behind n bytes -/
def tailL (n : Nat) : List UInt8 := 128 :: (List.replicate (padN n) 0 ++ bytes8 (UInt64.ofNat (8 * n)))
/-- THE SUM -/
def shaL (l : List UInt8) : List UInt8 := hashL (blocks start8 (l ++ tailL l.length))

/-- the hash of nothing; and of abc -/
def hash0 : List UInt8 := [0xe3, 0xb0, 0xc4, 0x42, 0x98, 0xfc, 0x1c, 0x14, 0x9a, 0xfb, 0xf4, 0xc8, 0x99, 0x6f, 0xb9, 0x24, 0x27, 0xae, 0x41, 0xe4, 0x64, 0x9b, 0x93, 0x4c, 0xa4, 0x95, 0x99, 0x1b, 0x78, 0x52, 0xb8, 0x55]
def hashAbc : List UInt8 := [0xba, 0x78, 0x16, 0xbf, 0x8f, 0x01, 0xcf, 0xea, 0x41, 0x41, 0x40, 0xde, 0x5d, 0xae, 0x22, 0x23, 0xb0, 0x03, 0x61, 0xa3, 0x96, 0x17, 0x7a, 0x9c, 0xb4, 0x10, 0xff, 0x61, 0xf2, 0x00, 0x15, 0xad]
set_option maxRecDepth 100000 in
theorem sha_none : shaL [] = hash0 := by decide +kernel
set_option maxRecDepth 100000 in
theorem sha_abc : shaL [97, 98, 99] = hashAbc := by decide +kernel
end Go.Proofs.YtabhpgacnenacaaDoor
