/-
  A digest's Sum.
-/
import Derived.Test.YtabhpgacnenacaaDoorSh7
import Derived.Test.YtabhpgacnenacaaDoorSh8
namespace Go.Proofs.YtabhpgacnenacaaDoor
open Go.RowKit

theorem u64_byte (X : UInt64) (N s : Nat) (hX : X.toNat = N) (hs : s < 64) : IntKind.u8.wrap ((N : Int) / 2 ^ s) = ((X >>> UInt64.ofNat s).toUInt8.toNat : Int) := by
  subst hX
  rw [IntKind.wrap_u8', UInt64.toNat_toUInt8, UInt64.toNat_shiftRight, UInt64.toNat_ofNat_of_lt' (by show s < 18446744073709551616; omega), Nat.mod_eq_of_lt hs, Nat.shiftRight_eq_div_pow, Int.natCast_emod, Int.natCast_ediv, Int.natCast_pow]
  rfl
theorem bytes8_at (X : UInt64) : ∀ i : Nat, i < 8 → (bytes8 X)[i]? = some (X >>> UInt64.ofNat (8 * (7 - i))).toUInt8
  | 0, _ => rfl
  | 1, _ => rfl
  | 2, _ => rfl
  | 3, _ => rfl
  | 4, _ => rfl
  | 5, _ => rfl
  | 6, _ => rfl
  | 7, _ => rfl
  | n + 8, h => by omega
theorem bytes8_len (X : UInt64) : (bytes8 X).length = 8 := rfl
/-- the end as far as it is written -/
def tlI (n i : Nat) : List UInt8 := 128 :: (List.replicate (padN n) 0 ++ (bytes8 (UInt64.ofNat (8 * n))).take i)
theorem tlI_len (n i : Nat) (h : i ≤ 8) : (tlI n i).length = 1 + padN n + i := by simp [tlI, bytes8_len]; omega
theorem tlI_zero (n : Nat) : padB 72 [128] = padB 72 (tlI n 0) := by
  have hp : padN n < 64 := by unfold padN; omega
  unfold padB tlI
  simp only [List.take_zero, List.append_nil, List.length_cons, List.length_nil, List.length_replicate, List.cons_append, List.nil_append, List.append_assoc]
  rw [List.replicate_append_replicate]
  congr 2
  omega
theorem tlI_full (n : Nat) : tlI n 8 = tailL n := by unfold tlI tailL; rw [List.take_of_length_le (by rw [bytes8_len]; omega)]
theorem write_any' (g : Nat) (L b : List UInt8) (A : Option Addr) (m c : Nat) (w : World) (hT : NT w) (hgt : 0 ≠ g) (hg : DgAt w g L) (hm : m = b.length)
    (hr : RN w w.heap.size g A b) (hc : b.length ≤ c) (hcm : c ≤ 9223372036854775807) (hAn : A = none → c = 0) (hL : L.length ≤ 1000000) (hbl : b.length ≤ 1000000) :
    Calls Tryd.prog 12 #[.pointer (some ⟨g, 0, none⟩), .slice A m c] w fun e w' => e = .returned (.tuple #[]) ∧ DgAt w' g (L ++ b) ∧ Kept (fun b => b ≠ g) w w' := by
  subst hm
  exact write_any g L b A c w hT hgt hg hr hc hcm hAn hL hbl
theorem dgC_one (v : W8) (n : Nat) (rest : List UInt8) : ∀ u ∈ dgC v n rest, u.oneCell' = true := by
  intro u hu
  unfold dgC at hu
  rcases List.mem_append.1 hu with h | h
  · exact v8_one v u h
  · rcases List.mem_cons.1 h with rfl | h
    · rfl
    · exact bvs_one rest u h
/-- Sum under way: what it tells, its end, d -/
structure SmSt (w wr : World) (g : Nat) (L : List UInt8) (i : Nat) : Prop where
  c0 : Cells wr w.heap.size 28 (bvs (padB 32 []))
  c1 : Cells wr (w.heap.size + 1) 60 (bvs (padB 72 (tlI L.length i)))
  d : DgAt wr g L
  bel : Below w.heap.size w wr
section
set_option maxRecDepth 100000
set_option maxHeartbeats 1000000
theorem sum_any (g : Nat) (L : List UInt8) (w : World) (hT : NT w) (hg : DgAt w g L) (hL : L.length ≤ 900000) :
    Calls Tryd.prog 13 #[.pointer (some ⟨g, 0, none⟩)] w fun e w' => e = .returned (.agg (bvs (shaL L)).toArray) ∧ Below w.heap.size w w' := by
  have HT := Lib.hid hT
  have HG := Lib.hid hg
  have HL := Lib.hid hL
  obtain ⟨W0, hW0⟩ : ∃ W0, W0 = (w.alloc (.cells #[.int .u8 0, .int .u8 0, .int .u8 0, .int .u8 0, .int .u8 0, .int .u8 0, .int .u8 0, .int .u8 0, .int .u8 0, .int .u8 0, .int .u8 0, .int .u8 0, .int .u8 0, .int .u8 0, .int .u8 0, .int .u8 0, .int .u8 0, .int .u8 0, .int .u8 0, .int .u8 0, .int .u8 0, .int .u8 0, .int .u8 0, .int .u8 0, .int .u8 0, .int .u8 0, .int .u8 0, .int .u8 0, .int .u8 0, .int .u8 0, .int .u8 0, .int .u8 0] 28)).alloc (.cells #[.int .u8 128, .int .u8 0, .int .u8 0, .int .u8 0, .int .u8 0, .int .u8 0, .int .u8 0, .int .u8 0, .int .u8 0, .int .u8 0, .int .u8 0, .int .u8 0, .int .u8 0, .int .u8 0, .int .u8 0, .int .u8 0, .int .u8 0, .int .u8 0, .int .u8 0, .int .u8 0, .int .u8 0, .int .u8 0, .int .u8 0, .int .u8 0, .int .u8 0, .int .u8 0, .int .u8 0, .int .u8 0, .int .u8 0, .int .u8 0, .int .u8 0, .int .u8 0, .int .u8 0, .int .u8 0, .int .u8 0, .int .u8 0, .int .u8 0, .int .u8 0, .int .u8 0, .int .u8 0, .int .u8 0, .int .u8 0, .int .u8 0, .int .u8 0, .int .u8 0, .int .u8 0, .int .u8 0, .int .u8 0, .int .u8 0, .int .u8 0, .int .u8 0, .int .u8 0, .int .u8 0, .int .u8 0, .int .u8 0, .int .u8 0, .int .u8 0, .int .u8 0, .int .u8 0, .int .u8 0, .int .u8 0, .int .u8 0, .int .u8 0, .int .u8 0, .int .u8 0, .int .u8 0, .int .u8 0, .int .u8 0, .int .u8 0, .int .u8 0, .int .u8 0, .int .u8 0] 60) := ⟨_, rfl⟩
  have H0 : Hid (SmSt w W0 g L 0) := by
    rw [hW0]
    refine ⟨(Cells.new w _ _).alloc _, ?_, hg.move ?_, ((Below.refl _ _).alloc (Nat.le_refl _) _).alloc (by simp) _⟩
    · rw [← tlI_zero]
      have := Cells.new (w.alloc (.cells #[.int .u8 0, .int .u8 0, .int .u8 0, .int .u8 0, .int .u8 0, .int .u8 0, .int .u8 0, .int .u8 0, .int .u8 0, .int .u8 0, .int .u8 0, .int .u8 0, .int .u8 0, .int .u8 0, .int .u8 0, .int .u8 0, .int .u8 0, .int .u8 0, .int .u8 0, .int .u8 0, .int .u8 0, .int .u8 0, .int .u8 0, .int .u8 0, .int .u8 0, .int .u8 0, .int .u8 0, .int .u8 0, .int .u8 0, .int .u8 0, .int .u8 0, .int .u8 0] 28)) #[.int .u8 128, .int .u8 0, .int .u8 0, .int .u8 0, .int .u8 0, .int .u8 0, .int .u8 0, .int .u8 0, .int .u8 0, .int .u8 0, .int .u8 0, .int .u8 0, .int .u8 0, .int .u8 0, .int .u8 0, .int .u8 0, .int .u8 0, .int .u8 0, .int .u8 0, .int .u8 0, .int .u8 0, .int .u8 0, .int .u8 0, .int .u8 0, .int .u8 0, .int .u8 0, .int .u8 0, .int .u8 0, .int .u8 0, .int .u8 0, .int .u8 0, .int .u8 0, .int .u8 0, .int .u8 0, .int .u8 0, .int .u8 0, .int .u8 0, .int .u8 0, .int .u8 0, .int .u8 0, .int .u8 0, .int .u8 0, .int .u8 0, .int .u8 0, .int .u8 0, .int .u8 0, .int .u8 0, .int .u8 0, .int .u8 0, .int .u8 0, .int .u8 0, .int .u8 0, .int .u8 0, .int .u8 0, .int .u8 0, .int .u8 0, .int .u8 0, .int .u8 0, .int .u8 0, .int .u8 0, .int .u8 0, .int .u8 0, .int .u8 0, .int .u8 0, .int .u8 0, .int .u8 0, .int .u8 0, .int .u8 0, .int .u8 0, .int .u8 0, .int .u8 0, .int .u8 0] 60
      rw [World.size_alloc] at this
      exact this
    · exact ((Below.refl _ _).alloc (Nat.le_refl _) _ |>.alloc (by simp) _ : Below w.heap.size w _).block g hg.lt
  have HW0 := Lib.hid hW0
  obtain ⟨n, hn⟩ : ∃ n, n = L.length := ⟨_, rfl⟩
  have c8 : w.cell? ⟨g, 8, none⟩ = some (.int .i64 (n : Int)) := by
    obtain ⟨v, rest, h1, _⟩ := hg
    rw [hn]
    exact h1.cell rfl
  have hgl := hg.lt
  obtain ⟨h, hh⟩ : ∃ h, h = n % 64 := ⟨_, rfl⟩
  obtain ⟨p, hp⟩ : ∃ p, p = padN n := ⟨_, rfl⟩
  have hp2 : p = (119 - h) % 64 := by rw [hp, hh]; rfl
  obtain ⟨N, hN⟩ : ∃ N, N = 8 * n := ⟨_, rfl⟩
  have z1 : (n : Int) % 64 = (h : Int) := by omega
  have z2 : (119 - (h : Int)) % 64 = (p : Int) := by omega
  have z3 : (h : Int) ≤ 63 := by omega
  have z4 : (p : Int) ≤ 63 := by omega
  have z5 : (n : Int) * 8 = (N : Int) := by omega
  have z6 : (n : Int) ≤ 900000 := by omega
  have z7 : 0 ≤ (n : Int) := by omega
  have Hn := Lib.hid (And.intro hn (And.intro hp hN))
  have hpl : p ≤ 63 := by omega
  have hNl : (N : Int) ≤ 7200000 := by omega
  clear hT hg hL hW0 hn hh hp hp2 hN
  go_enter Tryd.func13, Tryd.ntmps13
  have hz1 : ∀ w, (zeroValue 60).run Tryd.prog w = .ok (.agg #[.int .u8 0, .int .u8 0, .int .u8 0, .int .u8 0, .int .u8 0, .int .u8 0, .int .u8 0, .int .u8 0, .int .u8 0, .int .u8 0, .int .u8 0, .int .u8 0, .int .u8 0, .int .u8 0, .int .u8 0, .int .u8 0, .int .u8 0, .int .u8 0, .int .u8 0, .int .u8 0, .int .u8 0, .int .u8 0, .int .u8 0, .int .u8 0, .int .u8 0, .int .u8 0, .int .u8 0, .int .u8 0, .int .u8 0, .int .u8 0, .int .u8 0, .int .u8 0, .int .u8 0, .int .u8 0, .int .u8 0, .int .u8 0, .int .u8 0, .int .u8 0, .int .u8 0, .int .u8 0, .int .u8 0, .int .u8 0, .int .u8 0, .int .u8 0, .int .u8 0, .int .u8 0, .int .u8 0, .int .u8 0, .int .u8 0, .int .u8 0, .int .u8 0, .int .u8 0, .int .u8 0, .int .u8 0, .int .u8 0, .int .u8 0, .int .u8 0, .int .u8 0, .int .u8 0, .int .u8 0, .int .u8 0, .int .u8 0, .int .u8 0, .int .u8 0, .int .u8 0, .int .u8 0, .int .u8 0, .int .u8 0, .int .u8 0, .int .u8 0, .int .u8 0, .int .u8 0]) w := fun _ => by kernel_rfl
  go_wp2_with fail
  rw [← HW0.out]
  clear hz1
  have dsame : ∀ wr i, Hid (SmSt w wr g L i) → wr.cell? ⟨g, 8, none⟩ = some (.int .i64 (n : Int)) := fun wr i h => (h.out.bel.cell (p := ⟨g, 8, none⟩) hgl).trans c8
  have Hds := Lib.hid dsame
  clear dsame
  go_loopw [23] (fun iv wr => ∃ i : Nat, iv = .int .i64 (i : Int) ∧ i ≤ 8 ∧ Hid (SmSt w wr g L i)) (fun iv _ => 8 - (intOf iv).toNat)
  case atStart => exact ⟨0, rfl, Nat.zero_le _, H0⟩
  case round =>
    obtain ⟨i, rfl, hi, Hs⟩ := hrel
    clear H0
    by_cases hlt : i < 8
    case pos =>
      obtain ⟨s, hs⟩ : ∃ s, s = 8 * (7 - i) := ⟨_, rfl⟩
      have y1 : (8 : Int) * (7 - (i : Int)) = (s : Int) := by omega
      have y2 : (s : Int) ≤ 56 := by omega
      have y3 : (i : Int) < 8 := by omega
      have sw := u64_byte (UInt64.ofNat (8 * n)) N s (by rw [UInt64.toNat_ofNat_of_lt' (by have := HL.out; have := Hn.out.1; show 8 * n < 18446744073709551616; omega), Hn.out.2.2]) (by omega)
      have hat := bytes8_at (UInt64.ofNat (8 * n)) i hlt
      rw [← hs] at hat
      have hl := tlI_len L.length i (by omega)
      rw [← Hn.out.1, ← Hn.out.2.1] at hl
      have k1 : wr.cell? ⟨w.heap.size + 1, 1 + p + i, none⟩ = some (.int .u8 ((0 : UInt8).toNat : Int)) := by
        have := padB_at (n := 72) (l := tlI L.length i) (by rw [← Hn.out.1, hl]; omega)
        rw [← Hn.out.1, hl] at this
        exact Hs.out.c1.cell (bvs_at (by rw [← Hn.out.1]; exact this))
      have f1 := Hs.out.c1.frozen (1 + p + i)
      have Hx : Hid (∀ w', w' = wr.setCell ⟨w.heap.size + 1, 1 + p + i, none⟩ (.int .u8 ((UInt64.ofNat (8 * n) >>> UInt64.ofNat s).toUInt8.toNat : Int)) → SmSt w w' g L (i + 1)) := by
        rintro w' rfl
        have h := Hs.out
        refine ⟨h.c0.move (Below.heap_setCell _ _ _ _ (by simp)), ?_, h.d.move (Below.heap_setCell _ _ _ _ (by show g ≠ w.heap.size + 1; omega)), h.bel.setCell (by simp) _⟩
        have := h.c1.set (1 + p + i) (.int .u8 ((UInt64.ofNat (8 * n) >>> UInt64.ofNat s).toUInt8.toNat : Int))
        rw [bvs_set, ← Hn.out.1] at this
        have e := padB_set (n := 72) (l := tlI n i) (by rw [hl]; omega) (UInt64.ofNat (8 * n) >>> UInt64.ofNat s).toUInt8
        rw [hl] at e
        rw [e] at this
        rw [← Hn.out.1]
        unfold tlI at this ⊢
        rw [List.take_add_one, hat, ← List.append_assoc]
        exact this
      have x1 : (1 : Int) + (p : Int) + (i : Int) < 72 := by omega
      have x2 : 1 + p + i < 72 := by omega
      clear hs hat hl
      generalize (UInt64.ofNat (8 * n) >>> UInt64.ofNat s).toUInt8.toNat = y at *
      go_wp2_with fail
      go_roundw
      case rel => exact ⟨i + 1, (by first | rfl | simp), by omega, Hx.out _ rfl⟩
      case measure => simp [intOf]; omega
    case neg =>
      have hge : ¬ (i : Int) < 8 := by omega
      obtain rfl : i = 8 := by omega
      obtain ⟨v, rest, hd1, hd2, hd3⟩ := Hs.out.d
      have hcl : (dgC v L.length rest).length = 73 := by rw [dgC_len, hd2]
      obtain ⟨cs, hcs⟩ : ∃ cs, cs = dgC v L.length rest := ⟨_, rfl⟩
      rw [← hcs] at hd1 hcl
      have hagD : ∀ w, (isAgg 51).run Tryd.prog w = .ok true w := fun _ => by kernel_rfl
      have hszD : ∀ w, (sizeOf 51).run Tryd.prog w = .ok cs.length w := by rw [hcl]; exact fun _ => by kernel_rfl
      have hz2 : ∀ w, (zeroValue 51).run Tryd.prog w = .ok (.agg #[.int .u32 0, .int .u32 0, .int .u32 0, .int .u32 0, .int .u32 0, .int .u32 0, .int .u32 0, .int .u32 0, .int .i64 0, .int .u8 0, .int .u8 0, .int .u8 0, .int .u8 0, .int .u8 0, .int .u8 0, .int .u8 0, .int .u8 0, .int .u8 0, .int .u8 0, .int .u8 0, .int .u8 0, .int .u8 0, .int .u8 0, .int .u8 0, .int .u8 0, .int .u8 0, .int .u8 0, .int .u8 0, .int .u8 0, .int .u8 0, .int .u8 0, .int .u8 0, .int .u8 0, .int .u8 0, .int .u8 0, .int .u8 0, .int .u8 0, .int .u8 0, .int .u8 0, .int .u8 0, .int .u8 0, .int .u8 0, .int .u8 0, .int .u8 0, .int .u8 0, .int .u8 0, .int .u8 0, .int .u8 0, .int .u8 0, .int .u8 0, .int .u8 0, .int .u8 0, .int .u8 0, .int .u8 0, .int .u8 0, .int .u8 0, .int .u8 0, .int .u8 0, .int .u8 0, .int .u8 0, .int .u8 0, .int .u8 0, .int .u8 0, .int .u8 0, .int .u8 0, .int .u8 0, .int .u8 0, .int .u8 0, .int .u8 0, .int .u8 0, .int .u8 0, .int .u8 0, .int .u8 0]) w := fun _ => by kernel_rfl
      have HH := Lib.hid (And.intro hagD (And.intro hszD (And.intro (show ∀ u ∈ cs, u.oneCell' = true by rw [hcs]; exact dgC_one _ _ _) (show cs.length = (#[.int .u32 0, .int .u32 0, .int .u32 0, .int .u32 0, .int .u32 0, .int .u32 0, .int .u32 0, .int .u32 0, .int .i64 0, .int .u8 0, .int .u8 0, .int .u8 0, .int .u8 0, .int .u8 0, .int .u8 0, .int .u8 0, .int .u8 0, .int .u8 0, .int .u8 0, .int .u8 0, .int .u8 0, .int .u8 0, .int .u8 0, .int .u8 0, .int .u8 0, .int .u8 0, .int .u8 0, .int .u8 0, .int .u8 0, .int .u8 0, .int .u8 0, .int .u8 0, .int .u8 0, .int .u8 0, .int .u8 0, .int .u8 0, .int .u8 0, .int .u8 0, .int .u8 0, .int .u8 0, .int .u8 0, .int .u8 0, .int .u8 0, .int .u8 0, .int .u8 0, .int .u8 0, .int .u8 0, .int .u8 0, .int .u8 0, .int .u8 0, .int .u8 0, .int .u8 0, .int .u8 0, .int .u8 0, .int .u8 0, .int .u8 0, .int .u8 0, .int .u8 0, .int .u8 0, .int .u8 0, .int .u8 0, .int .u8 0, .int .u8 0, .int .u8 0, .int .u8 0, .int .u8 0, .int .u8 0, .int .u8 0, .int .u8 0, .int .u8 0, .int .u8 0, .int .u8 0, .int .u8 0] : Array Value).toList.length by rw [hcl]; rfl))))
      have HD1 := Lib.hid hd1
      have Hcs := Lib.hid (And.intro hcs (And.intro hd2 hd3))
      have HC := Lib.hid (Cells.new wr #[.int .u32 0, .int .u32 0, .int .u32 0, .int .u32 0, .int .u32 0, .int .u32 0, .int .u32 0, .int .u32 0, .int .i64 0, .int .u8 0, .int .u8 0, .int .u8 0, .int .u8 0, .int .u8 0, .int .u8 0, .int .u8 0, .int .u8 0, .int .u8 0, .int .u8 0, .int .u8 0, .int .u8 0, .int .u8 0, .int .u8 0, .int .u8 0, .int .u8 0, .int .u8 0, .int .u8 0, .int .u8 0, .int .u8 0, .int .u8 0, .int .u8 0, .int .u8 0, .int .u8 0, .int .u8 0, .int .u8 0, .int .u8 0, .int .u8 0, .int .u8 0, .int .u8 0, .int .u8 0, .int .u8 0, .int .u8 0, .int .u8 0, .int .u8 0, .int .u8 0, .int .u8 0, .int .u8 0, .int .u8 0, .int .u8 0, .int .u8 0, .int .u8 0, .int .u8 0, .int .u8 0, .int .u8 0, .int .u8 0, .int .u8 0, .int .u8 0, .int .u8 0, .int .u8 0, .int .u8 0, .int .u8 0, .int .u8 0, .int .u8 0, .int .u8 0, .int .u8 0, .int .u8 0, .int .u8 0, .int .u8 0, .int .u8 0, .int .u8 0, .int .u8 0, .int .u8 0, .int .u8 0] 51)
      have hsz9 : (1 : Int) + (p : Int) + 8 ≤ 72 := by omega
      have hsz9n : 1 + p + 8 ≤ 72 := by omega
      have hsz90 : (0 : Int) ≤ 1 + (p : Int) + 8 := by omega
      have harr : Tryd.prog.arrayLen 60 = 72 := by kernel_rfl
      clear hd1 hd2 hd3 hcl hcs hagD hszD hlt hi hge
      go_wp2_with (first
        | (refine ld_row rfl 51 (.tmp 38) rfl rfl HD1.out HH.out.1 HH.out.2.1 ?_)
        | (refine st_row rfl 51 (.tmp 7) (.tmp 39) rfl rfl rfl HC.out HH.out.2.1 HH.out.2.2.2 HH.out.2.2.1 ?_; intro w5 h5 k5; have H5 := Lib.hid (And.intro h5 k5); clear h5 k5))
      clear harr hsz90
      have hwr := Hs.out.bel.size
      have hb5 : Below w.heap.size w w5 := (Hs.out.bel.alloc hwr _).trans (H5.out.2.to_below (fun b hb => by show b ≠ wr.heap.size; omega) (by simp; omega))
      have hd5 : DgAt w5 wr.heap.size L := ⟨v, rest, by rw [← Hcs.out.1]; exact H5.out.1, Hcs.out.2.1, Hcs.out.2.2⟩
      have hl1 := Hs.out.c1.lt
      have hc15 : Cells w5 (w.heap.size + 1) 60 (bvs (padB 72 (tlI L.length 8))) := (Hs.out.c1.alloc _).move (H5.out.2.block _ (by simp; omega) (by show w.heap.size + 1 ≠ wr.heap.size; omega))
      have hc05 : Cells w5 w.heap.size 28 (bvs (padB 32 [])) := (Hs.out.c0.alloc _).move (H5.out.2.block _ (by simp; omega) (by show w.heap.size ≠ wr.heap.size; omega))
      have hrn : RN w5 w5.heap.size wr.heap.size (some ⟨w.heap.size + 1, 0, none⟩) (tailL L.length) := by
        intro k x hx
        refine ⟨_, _, rfl, hc15.lt, by omega, ?_⟩
        rw [Nat.zero_add]
        refine hc15.cell ?_
        rw [tlI_full]
        have hk := (List.getElem?_eq_some_iff.1 hx).1
        refine bvs_at ?_
        unfold padB
        rw [List.getElem?_append_left hk, hx]
      have hnt5 : NT w5 := HT.out.below hb5 (Nat.le_refl _)
      have hpn : p = padN L.length := by rw [← Hn.out.1]; exact Hn.out.2.1
      have hgt : 0 ≠ wr.heap.size := by have := HT.out.2; omega
      have Hwr := Lib.hid (write_any' wr.heap.size L (tailL L.length) (some ⟨w.heap.size + 1, 0, none⟩) (1 + p + 8) 72 w5 hnt5 hgt hd5 (by rw [tailL_len, hpn]) hrn (by rw [tailL_len, ← hpn]; omega) (by omega) (fun e => by cases e) (by have := HL.out; omega) (by rw [tailL_len, ← hpn]; omega))
      have HP := Lib.hid (And.intro hb5 (And.intro hc05 (And.intro hwr hl1)))
      clear hwr hb5 hd5 hl1 hc15 hc05 hrn hnt5 hpn hgt
      refine Hwr.out.mono ?_
      rintro e w6 ⟨rfl, h6, k6⟩
      obtain ⟨v2, rest2, q1, q2, q3⟩ := h6
      have hne : L ++ tailL L.length ≠ [] := by intro e; have := congrArg List.length e; rw [List.length_append, tailL_len] at this; simp at this
      have Hsha : Hid (hashL v2 = shaL L) := (show _ = _ from sha_of (q3 hne))
      have Hq1 := Lib.hid q1
      have HP6 : Hid (Below w.heap.size w w6 ∧ Cells w6 w.heap.size 28 (bvs (padB 32 []))) := by
        obtain ⟨p1, p2, p3, p4⟩ := HP.out
        exact ⟨p1.trans (k6.to_below (fun b hb => by show b ≠ wr.heap.size; omega) p1.size), p2.move (k6.block _ p2.lt (by show w.heap.size ≠ wr.heap.size; omega))⟩
      have hagW : ∀ w, (isAgg 48).run Tryd.prog w = .ok true w := fun _ => by kernel_rfl
      have hszW : ∀ w, (sizeOf 48).run Tryd.prog w = .ok (v8 v2).length w := fun _ => by kernel_rfl
      have hld : ∀ (j : Nat) u, (v8 v2)[j]? = some u → (dgC v2 (L ++ tailL L.length).length rest2)[0 + j]? = some u := fun j u h => by
        rw [Nat.zero_add]
        unfold dgC
        rw [List.getElem?_append_left (List.getElem?_eq_some_iff.1 h).1]
        exact h
      have HW := Lib.hid (And.intro hagW (And.intro hszW hld))
      clear q1 q2 q3 hne k6 Hwr HP hagW hszW hld
      go_wp2_with (refine ld_mid rfl 48 (.tmp 44) rfl rfl Hq1.out HW.out.1 HW.out.2.1 HW.out.2.2 ?_)
      refine (hash_any v2 w6).mono ?_
      rintro e w7 ⟨rfl, b7⟩
      obtain ⟨us, hus⟩ : ∃ us, us = bvs (hashL v2) := ⟨_, rfl⟩
      have hn2 : us.length = 32 := by rw [hus, bvs_length]; rfl
      rw [← hus]
      have Hus : Hid (us = bvs (shaL L)) := (show _ = _ by rw [hus, Hsha.out])
      have hagH : ∀ w, (isAgg 28).run Tryd.prog w = .ok true w := fun _ => by kernel_rfl
      have hszH : ∀ w, (sizeOf 28).run Tryd.prog w = .ok us.length w := by rw [hn2]; exact fun _ => by kernel_rfl
      have HH2 := Lib.hid (And.intro hagH (And.intro hszH (And.intro (show ∀ u ∈ us, u.oneCell' = true by rw [hus]; exact bvs_one _) (show us.length = (bvs (padB 32 [])).length by rw [hn2, bvs_length, padB_len (by simp)]))))
      have HP7 : Hid (Below w.heap.size w w7 ∧ Cells w7 w.heap.size 28 (bvs (padB 32 []))) := ⟨HP6.out.1.trans (b7.mono HP6.out.1.size), HP6.out.2.move (b7.block _ HP6.out.2.lt)⟩
      clear b7 hn2 hus hagH hszH HP6 Hq1
      go_wp2_with (refine st_row rfl 28 (.tmp 2) (.tmp 46) rfl rfl rfl HP7.out.2 HH2.out.2.1 HH2.out.2.2.2 HH2.out.2.2.1 ?_; intro w8 h8 k8; have H8 := Lib.hid (And.intro h8 k8); clear h8 k8)
      refine bodyPost_ret (v := .agg us.toArray) (res_row rfl _ rfl H8.out.1 HH2.out.1 HH2.out.2.1) rfl ⟨by rw [Hus.out], ?_⟩
      exact HP7.out.1.trans (H8.out.2.to_below (fun b hb => by show b ≠ w.heap.size; omega) HP7.out.1.size)
end
end Go.Proofs.YtabhpgacnenacaaDoor
