/-
  FrameBits: whatever the bytes, the size, the bit: the call returns true.
-/
import Derived.Test.YtlgeknibdgamgaaDoorBitsMath
import Derived.Test.YtlgeknibdgamgaaDoorKnown
import Derived.Test.YtlgeknibdgamgaaDoorRecord
namespace Go.Proofs.YtlgeknibdgamgaaDoor
open Go.RowKit

/-- arguments at which nothing is asked -/
def BitsSkip (s at_ : Int) (n : Nat) : Prop := roomOf s = 0 ∨ roomOf s < (n : Int) ∨ n = 0 ∨ at_ < 0

set_option maxRecDepth 200000 in
set_option maxHeartbeats 1000000 in
theorem bits_skip (s at_ : Int) (A : Option Addr) (n c : Nat) (w : World) (ht : Tab w) (h : BitsSkip s at_ n) :
    Calls Tryd.prog 7 #[.slice A n c, .int .i64 s, .int .i64 at_] w fun e w' => e = .returned (.bool true) ∧ Below w.heap.size w w' := by
  have Ht := Lib.hid ht
  clear ht
  have h' : roomOf s = 0 ∨ (¬ roomOf s = 0 ∧ (roomOf s < (n : Int) ∨ (¬ roomOf s < (n : Int) ∧ (n = 0 ∨ (0 < n ∧ at_ < 0))))) := by unfold BitsSkip at h; omega
  clear h
  generalize hrm : roomOf s = rm at h'
  have Hrm := Lib.hid hrm
  clear hrm
  rcases h' with h1 | ⟨h1, h2 | ⟨h2, h3 | ⟨h3, h4⟩⟩⟩
  · have hb0 : (rm == 0) = true := by simp [h1]
    clear h1
    go_enter Tryd.func7, Tryd.ntmps7
    go_wp2_with fail
    refine (known_any _ Ht.out).mono ?_
    rintro e w1 ⟨rfl, hb1⟩
    have Hb1 := Lib.hid hb1
    clear hb1
    go_wp2_with fail
    refine (room_any _ _).mono ?_
    rw [Hrm.out]
    rintro e w' ⟨rfl, rfl⟩
    go_wp2_with fail
    go_ret
    exact ⟨rfl, Hb1.out⟩
  all_goals
    have hb0 : (rm == 0) = false := by simp [h1]
    clear h1
    go_enter Tryd.func7, Tryd.ntmps7
    go_wp2_with fail
    refine (known_any _ Ht.out).mono ?_
    rintro e w1 ⟨rfl, hb1⟩
    have Hb1 := Lib.hid hb1
    clear hb1
    go_wp2_with fail
    refine (room_any _ _).mono ?_
    rw [Hrm.out]
    rintro e w' ⟨rfl, rfl⟩
    go_wp2_with fail
    refine (room_any _ _).mono ?_
    rw [Hrm.out]
    rintro e w' ⟨rfl, rfl⟩
    go_wp2_with fail
    go_ret
    exact ⟨rfl, Hb1.out⟩
theorem bits_page (s : Int) (x : List UInt8) (h1 : ¬ roomOf s = 0) (h2 : ¬ roomOf s < (x.length : Int)) :
    ∃ n : Nat, s = (n : Int) ∧ 32 ≤ n ∧ n ≤ 65536 ∧ x.length + 19 ≤ n ∧ pageErr s 4 1 x.length = 0 ∧ pageOf s 4 1 3 x = pageBytes n 3 4 1 x ∧ (pageBytes n 3 4 1 x).length = n := by
  have h : 32 ≤ s ∧ s ≤ 65536 ∧ (x.length : Int) + 19 ≤ s := by
    unfold roomOf at h1 h2
    split at h1
    · omega
    · split at h2 <;> omega
  have he : pageErr s 4 1 x.length = 0 := by
    unfold pageErr
    rw [if_neg (by omega), if_neg h2]
  refine ⟨s.toNat, by omega, by omega, by omega, by omega, he, ?_, pageBytes_length _ _ _ _ _ (by omega)⟩
  unfold pageOf
  rw [if_pos he]
  rfl

theorem flip_val (b k : Nat) (hb : b < 256) (hk : k < 8) : ∃ y : UInt8, bits .xor .u8 (b : Int) (2 ^ k % 256) = (y.toNat : Int) ∧ b ≠ y.toNat := by
  have hp : 2 ^ k < 256 := Nat.pow_lt_pow_right (a := 2) (n := 8) (by decide) hk
  have hp0 : 0 < 2 ^ k := Nat.pow_pos (by decide)
  have hx : b ^^^ 2 ^ k < 256 := Nat.xor_lt_two_pow (n := 8) hb hp
  have e : (UInt8.ofNat (b ^^^ 2 ^ k)).toNat = b ^^^ 2 ^ k := by rw [UInt8.toNat_ofNat']; exact Nat.mod_eq_of_lt hx
  refine ⟨UInt8.ofNat (b ^^^ 2 ^ k), ?_, ?_⟩
  · rw [e, ← u8_xor_nat b (2 ^ k) hb hp]
    congr 1
    have : (2 : Int) ^ k = ((2 ^ k : Nat) : Int) := by simp
    rw [this]
    omega
  · rw [e]
    intro h
    have h2 := congrArg (b ^^^ ·) h
    simp only [← Nat.xor_assoc, Nat.xor_self, Nat.zero_xor] at h2
    omega
theorem RB.set {w : World} {B g : Nat} {l : List UInt8} (h : RB w B (some ⟨g, 0, none⟩) l) (j : Nat) (y : UInt8) : RB (w.setCell ⟨g, j, none⟩ (.int .u8 (y.toNat : Int))) B (some ⟨g, 0, none⟩) (l.set j y) := by
  intro k x hx
  have hk : k < l.length := by
    have := (List.getElem?_eq_some_iff.1 hx).1
    rwa [List.length_set] at this
  obtain ⟨ad, e, hb, hc⟩ := h k l[k] (List.getElem?_eq_getElem hk)
  obtain rfl : (⟨g, 0, none⟩ : Addr) = ad := Option.some.inj e
  have ek : (⟨g, 0, none⟩ : Addr).add k = ⟨g, k, none⟩ := by unfold Addr.add; split <;> simp_all
  refine ⟨_, rfl, hb, ?_⟩
  rw [ek] at hc ⊢
  rw [List.getElem?_set] at hx
  by_cases hjk : j = k
  · subst hjk
    rw [if_pos rfl, if_pos hk] at hx
    have := Option.some.inj hx
    subst this
    exact World.cell?_setCell_same _ _ _ hc
  · rw [if_neg hjk, List.getElem?_eq_getElem hk] at hx
    have := Option.some.inj hx
    subst this
    exact (World.cell?_setCell_other _ _ _ _ (by intro h; injection h with _ h2; exact hjk h2)).trans hc

/-- a bit's place among the bytes of a stretch of m -/
theorem bit_place (a m : Nat) (hm : 0 < m) : ∃ i j k : Nat, (a : Int) % (8 * (m : Int)) = (i : Int) ∧ (i : Int) / 8 = (j : Int) ∧ (i : Int) % 8 = (k : Int) ∧ j < m ∧ k < 8 ∧ i < 8 * m := by
  refine ⟨a % (8 * m), a % (8 * m) / 8, a % (8 * m) % 8, by simp, by simp, by simp, ?_, Nat.mod_lt _ (by omega), Nat.mod_lt _ (by omega)⟩
  have := Nat.mod_lt a (show 8 * m > 0 by omega)
  omega
set_option maxRecDepth 200000 in
set_option maxHeartbeats 1000000 in
theorem bits_walk (s : Int) (at_ : Nat) (A : Option Addr) (x : List UInt8) (c : Nat) (w : World) (ht : Tab w) (hr : RB w w.heap.size A x) (hc : x.length ≤ c) (h1 : ¬ roomOf s = 0) (h2 : ¬ roomOf s < (x.length : Int)) (h3 : 0 < x.length) (h4 : (at_ : Int) ≤ 9223372036854775807) :
    Calls Tryd.prog 7 #[.slice A x.length c, .int .i64 s, .int .i64 (at_ : Int)] w fun e w' => e = .returned (.bool true) ∧ Below w.heap.size w w' := by
  have Ht := Lib.hid ht
  have Hr := Lib.hid hr
  clear ht hr
  obtain ⟨n, rfl, hn1, hn2, hn3, hn4, hn5, hn6⟩ := bits_page s x h1 h2
  have Hn4 := Lib.hid hn4
  have Hn5 := Lib.hid hn5
  have Hn6 := Lib.hid hn6
  have hb0 : (roomOf (n : Int) == 0) = false := by simp [h1]
  have hz : ((x.length : Int) == 0) = false := by simp; intro h; simp [h] at h3
  have hz2 : (1 : Int) ≤ (x.length : Int) := by omega
  clear hn4 hn5 hn6 h1
  generalize hrm : roomOf (n : Int) = rm at h2 hb0
  have Hrm := Lib.hid hrm
  clear hrm
  go_enter Tryd.func7, Tryd.ntmps7
  go_wp2_with fail
  refine (known_any _ Ht.out).mono ?_
  rintro e w1 ⟨rfl, hb1⟩
  have Hb1 := Lib.hid hb1
  clear hb1
  go_wp2_with fail
  refine (room_any _ _).mono ?_
  rw [Hrm.out]
  rintro e w' ⟨rfl, rfl⟩
  go_wp2_with fail
  refine (room_any _ _).mono ?_
  rw [Hrm.out]
  rintro e w' ⟨rfl, rfl⟩
  go_wp2_with fail
  have hpos := Ht.out.pos
  refine (page_any (n : Int) 4 1 3 0 A c x w1 w.heap.size (Ht.out.below Hb1.out hpos) (Hr.out.below Hb1.out) Hb1.out.size (by rw [two64_eq]; omega) hc).mono ?_
  rintro e w2 ⟨v, rfl, hown, hb2⟩
  rw [Hn5.out] at hown
  rw [Hn4.out]
  obtain ⟨g, cap, rfl, hg1, hg2, hcap, hcell, hfroz⟩ := hown.form (by rw [Hn6.out]; omega)
  rw [Hn6.out] at hcap ⊢
  have Hb2 : Hid (Below w.heap.size w w2) := Hb1.out.trans (hb2.mono Hb1.out.size)
  have Hown := Lib.hid hown
  clear hown hb2
  obtain ⟨i, j, k, hi1, hi2, hi3, hj, hk, hi4⟩ := bit_place at_ n (by omega)
  have hjl : j < (pageBytes n 3 4 1 x).length := by rw [Hn6.out]; exact hj
  obtain ⟨b, hb8, hb, hc1⟩ : ∃ b : Nat, b < 256 ∧ (∃ h : j < (pageBytes n 3 4 1 x).length, b = (pageBytes n 3 4 1 x)[j].toNat) ∧ w2.cell? ⟨g, j, none⟩ = some (.int .u8 (b : Int)) := ⟨_, UInt8.toNat_lt _, ⟨hjl, rfl⟩, hcell j hjl⟩
  have hc2 := hfroz j
  have Hb := Lib.hid hb
  have Hfroz := Lib.hid hfroz
  have hjn : (j : Int) < (n : Int) := by omega
  clear hcell hfroz hjl hb
  clear hc Hn4 Hn5 hb0 Hrm h2 
  obtain ⟨y, hy, hby⟩ := flip_val b k hb8 hk
  have Hy := Lib.hid hy
  clear hy
  go_wp2_with fail
  rw [Hy.out]
  have hW : Below w.heap.size w (w2.setCell ⟨g, j, none⟩ (.int .u8 (y.toNat : Int))) := Hb2.out.setCell (p := ⟨g, j, none⟩) (Nat.le_trans Hb1.out.size hg1) _
  have hrb : RB (w2.setCell ⟨g, j, none⟩ (.int .u8 (y.toNat : Int))) (w2.setCell ⟨g, j, none⟩ (.int .u8 (y.toNat : Int))).heap.size (some ⟨g, 0, none⟩) ((pageBytes n 3 4 1 x).set j y) := by
    obtain ⟨A0, c0, he0, _, hr0, _⟩ := Hown.out.rb
    obtain rfl : A0 = some ⟨g, 0, none⟩ := by injection he0 with h; exact h.symm
    rw [World.size_setCell]
    exact hr0.set j y
  generalize w2.setCell ⟨g, j, none⟩ (.int .u8 (y.toNat : Int)) = w3 at hW hrb ⊢
  have hlen : ((pageBytes n 3 4 1 x).set j y).length = n := by rw [List.length_set, Hn6.out]
  have hrp := readPg_any _ cap _ w3 (Ht.out.below hW hpos) hrb (by rw [hlen]; omega) (by rw [hlen]; exact hcap)
  rw [hlen, page_poked n 3 4 1 x j y hn1 hn2 hn3 (by rw [Hn6.out]; exact hj) (by obtain ⟨h, e⟩ := Hb.out; intro h2; exact hby (by rw [e, h2]))] at hrp
  refine hrp.mono ?_
  clear hrp hrb Hown hc1 hc2 hlen Hfroz Hb Hy hby hb8 hi1 hi2 hi3 hi4 hj hk hjn
  rintro e w4 ⟨v4, rfl, _, hb4⟩
  have Hb4 : Hid (Below w.heap.size w w4) := hW.trans (hb4.mono hW.size)
  clear hW hb4
  go_wp2_with fail
  have hrec := record_any 9 A c x w4 (Ht.out.below Hb4.out hpos) ((Hr.out.below Hb4.out).wide Hb4.out.size) (by rw [two64_eq]; omega) (by omega)
  refine hrec.mono ?_
  clear hrec
  rintro e w5 ⟨v5, rfl, hown, hb5⟩
  obtain ⟨r, hrl⟩ : ∃ r, r = (recBytes 9 x).length := ⟨_, rfl⟩
  have hrl2 := recBytes_length 9 x
  have hnb : (numBytes x.length).length ≤ 10 := numBytes_ten (by rw [two64_eq]; omega)
  obtain ⟨g2, cap2, rfl, hg3, hg4, hcap2, hcell, hfroz⟩ := hown.form (by rw [hrl2]; omega)
  have Hown := Lib.hid hown
  have Hb5 : Hid (Below w.heap.size w w5) := Hb4.out.trans (hb5.mono Hb4.out.size)
  clear hown hb5
  obtain ⟨i, j, k, hi1, hi2, hi3, hj, hk, hi4⟩ := bit_place at_ x.length h3
  obtain ⟨q, hq⟩ : ∃ q : Nat, q = (numBytes x.length).length + 12 + j := ⟨_, rfl⟩
  have hq2 : (r : Int) - (x.length : Int) + (j : Int) = (q : Int) := by omega
  have hql : q < (recBytes 9 x).length := by omega
  obtain ⟨b, hb8, hb, hc1⟩ : ∃ b : Nat, b < 256 ∧ (∃ h : q < (recBytes 9 x).length, b = (recBytes 9 x)[q].toNat) ∧ w5.cell? ⟨g2, q, none⟩ = some (.int .u8 (b : Int)) := ⟨_, UInt8.toNat_lt _, ⟨hql, rfl⟩, hcell q hql⟩
  have hc2 := hfroz q
  have Hb := Lib.hid hb
  obtain ⟨y, hy, hby⟩ := flip_val b k hb8 hk
  have Hy := Lib.hid hy
  have hqr : (q : Int) < (r : Int) := by omega
  have hrb : (r : Int) ≤ 65600 := by omega
  have hxb : (x.length : Int) ≤ 65536 := by omega
  have Hq : Hid (q = (numBytes x.length).length + 12 + j) := hq
  have Hrl : Hid (r = (recBytes 9 x).length) := hrl
  rw [← hrl] at hcap2 ⊢
  clear hcell hfroz hql hb hy hq hrl hrl2 hnb
  go_wp2_with fail
  rw [Hy.out]
  have hW : Below w.heap.size w (w5.setCell ⟨g2, q, none⟩ (.int .u8 (y.toNat : Int))) := Hb5.out.setCell (p := ⟨g2, q, none⟩) (Nat.le_trans Hb4.out.size hg3) _
  have hrb : RB (w5.setCell ⟨g2, q, none⟩ (.int .u8 (y.toNat : Int))) (w5.setCell ⟨g2, q, none⟩ (.int .u8 (y.toNat : Int))).heap.size (some ⟨g2, 0, none⟩) ((recBytes 9 x).set q y) := by
    obtain ⟨A0, c0, he0, _, hr0, _⟩ := Hown.out.rb
    obtain rfl : A0 = some ⟨g2, 0, none⟩ := by injection he0 with h; exact h.symm
    rw [World.size_setCell]
    exact hr0.set q y
  generalize w5.setCell ⟨g2, q, none⟩ (.int .u8 (y.toNat : Int)) = w6 at hW hrb ⊢
  have hlen : ((recBytes 9 x).set q y).length = r := by rw [List.length_set]; exact Hrl.out.symm
  have he : (readRec ((recBytes 9 x).set q y)).2.2.2 = 23 := by
    obtain ⟨h, e⟩ := Hb.out
    exact rec_poked 9 x q y (by omega) (by rw [Hq.out]; omega) h (by intro h2; exact hby (by rw [e, h2]))
  have hrp := readRec_any _ cap2 _ w6 (Ht.out.below hW hpos) hrb (by rw [hlen]; omega) (by rw [hlen]; exact hcap2) (by intro h; cases h)
  rw [hlen, he] at hrp
  generalize readRec ((recBytes 9 x).set q y) = out at hrp
  refine hrp.mono ?_
  clear hrp hrb Hown hc1 hc2 hlen Hb Hy hby hb8 hi1 hi2 hi3 hi4 hj hk he
  rintro e w7 ⟨v7, rfl, _, hb7⟩
  have Hb7 : Hid (Below w.heap.size w w7) := hW.trans (hb7.mono hW.size)
  clear hW hb7
  go_wp2_with fail
  go_ret
  exact ⟨rfl, Hb7.out⟩
theorem bits_any (s at_ : Int) (A : Option Addr) (x : List UInt8) (c : Nat) (w : World) (ht : Tab w) (hr : RB w w.heap.size A x) (hc : x.length ≤ c) (h4 : at_ ≤ 9223372036854775807) :
    Calls Tryd.prog 7 #[.slice A x.length c, .int .i64 s, .int .i64 at_] w fun e w' => e = .returned (.bool true) ∧ Below w.heap.size w w' := by
  by_cases h : BitsSkip s at_ x.length
  · exact bits_skip s at_ A x.length c w ht h
  · have h' := h
    unfold BitsSkip at h'
    obtain ⟨a, rfl⟩ := Int.eq_ofNat_of_zero_le (show 0 ≤ at_ by omega)
    exact bits_walk s a A x c w ht hr hc (by omega) (by omega) (by omega) h4
end Go.Proofs.YtlgeknibdgamgaaDoor
