/-
  slices' pdqsortOrdered at numbers of 64 bits: what it leaves is the same numbers in order.
-/
import Derived.Test.YtejimgjonhaocaaMeS12
namespace Go.Proofs.Ytejimgjonhaocaa
open Go.RowKit Go.Maps Go.Shelf Go.Lib Go.Sort

/-- what is left to do: whoever sorts dk from a' to b' has sorted d from a to b -/
structure PQ (z a b : Nat) (d : Array Int) (a' b' : Nat) (dk : Array Int) : Prop where
  sz : dk.size = z
  le : a' ≤ b'
  bz : b' ≤ z
  bel : Below ltInt a' b' dk
  fin : ∀ R, PermIn a' b' dk R → SortedIn ltInt a' b' R → PermIn a b d R ∧ SortedIn ltInt a b R
theorem PQ.start {z a b : Nat} {d : Array Int} (sz : d.size = z) (le : a ≤ b) (bz : b ≤ z) (bel : Below ltInt a b d) : PQ z a b d a b d := ⟨sz, le, bz, bel, fun _ h1 h2 => ⟨h1, h2⟩⟩
theorem PQ.perm {z a b a' b' : Nat} {d dk d1 : Array Int} (h : PQ z a b d a' b' dk) (p : PermIn a' b' dk d1) : PQ z a b d a' b' d1 :=
  ⟨p.1.trans h.sz, h.le, h.bz, h.bel.perm (by rw [h.sz]; exact h.bz) p, fun R h1 h2 => h.fin R (permIn_trans _ _ _ _ _ p h1) h2⟩
theorem PQ.equal {z a b a' b' p : Nat} {d dk : Array Int} (h : PQ z a b d a' b' dk) (ha0 : 0 < a') (hp : a' ≤ p ∧ p < b') (hnl : ltInt dk[a' - 1]! dk[p]! = false) :
    a' < (partitionEqual ltInt dk a' b' p).1 ∧ PQ z a b d (partitionEqual ltInt dk a' b' p).1 b' (partitionEqual ltInt dk a' b' p).2 := by
  obtain ⟨r1, r2, r3, r4, r5⟩ := round_eq swo_ltInt (partitionEqual_holds ltInt) ha0 hp.1 hp.2 (by rw [h.sz]; exact h.bz) h.bel hnl (show partitionEqual ltInt dk a' b' p = ((partitionEqual ltInt dk a' b' p).1, (partitionEqual ltInt dk a' b' p).2) from rfl)
  exact ⟨r1, r3.trans h.sz, r2, h.bz, r4, fun R h1 h2 => by have k := r5 R h1 h2; exact h.fin R k.1 k.2⟩
theorem PQ.part {z a b a' b' p : Nat} {d dk : Array Int} (h : PQ z a b d a' b' dk) (hp : a' ≤ p ∧ p < b') :
    ∀ m d4, (partition ltInt dk a' b' p).1 = m → (partition ltInt dk a' b' p).2.2 = d4 →
    (a' ≤ m ∧ m < b') ∧ d4.size = z ∧ Below ltInt a' m d4 ∧ Below ltInt (m + 1) b' d4 ∧
    (∀ L, PermIn a' m d4 L → SortedIn ltInt a' m L → PQ z a b d (m + 1) b' L) ∧ (∀ L, PermIn (m + 1) b' d4 L → SortedIn ltInt (m + 1) b' L → PQ z a b d a' m L) := by
  rintro m d4 rfl rfl
  obtain ⟨r1, r2, r3, r4, r5, r6, r7⟩ := round_part swo_ltInt (partition_holds ltInt) hp.1 hp.2 (by rw [h.sz]; exact h.bz) h.bel (show partition ltInt dk a' b' p = ((partition ltInt dk a' b' p).1, (partition ltInt dk a' b' p).2.1, (partition ltInt dk a' b' p).2.2) from rfl)
  have hbz := h.bz
  refine ⟨⟨r1, r2⟩, r3.trans h.sz, r4, r5, fun L h1 h2 => ?_, fun L h1 h2 => ?_⟩
  · obtain ⟨k1, k2⟩ := r6 L h1 h2
    exact ⟨h1.1.trans (r3.trans h.sz), by omega, h.bz, k1, fun R h3 h4 => by have k := k2 R h3 h4; exact h.fin R k.1 k.2⟩
  · obtain ⟨k1, k2⟩ := r7 L h1 h2
    exact ⟨h1.1.trans (r3.trans h.sz), r1, by omega, k1, fun R h3 h4 => by have k := k2 R h3 h4; exact h.fin R k.1 k.2⟩
/-- the same numbers in order -/
def SortedP (w0 : World) (g off z : Nat) (d : Array Int) (a b : Nat) (e : Ending) (w' : World) : Prop := e = .returned (.tuple #[]) ∧ ∃ d', (PermIn a b d d' ∧ SortedIn ltInt a b d') ∧ SR w0 g off z d' w'
theorem PQ.done {w0 w' : World} {g off z a b a' b' : Nat} {d dk R : Array Int} (h : PQ z a b d a' b' dk) (hp : PermIn a' b' dk R ∧ SortedIn ltInt a' b' R) (hs : SR w0 g off z R w') : SortedP w0 g off z d a b (.returned (.tuple #[])) w' := ⟨rfl, R, h.fin R hp.1 hp.2, hs⟩
section
set_option maxRecDepth 100000
set_option maxHeartbeats 8000000
variable {w0 : World} {g off z cap : Nat} {d0 : Array Int}
theorem pdq_any (R : Row1 eU w0 g off d0) (hz : d0.size = z) (hz1 : z ≤ 255) : ∀ (N a b limit : Nat) (d : Array Int) (W : World), b - a < N → a ≤ b → b ≤ z → limit ≤ 1000000 → Below ltInt a b d → SR w0 g off z d W →
    Calls Try.prog 47 #[.slice (some ⟨g, off, none⟩) z cap, .int .i64 (a : Int), .int .i64 (b : Int), .int .i64 (limit : Int)] W (SortedP w0 g off z d a b) := by
  have mixed : Try.prog.follows Departure.mixedOrders = true := by kernel_rfl
  have Rh := Lib.hid R
  have Hz := Lib.hid hz
  have Hz1 := Lib.hid hz1
  have hzi : (z : Int) ≤ 1000000 := by omega
  clear R hz hz1
  intro N
  induction N with
  | zero => intro _ _ _ _ _ h; exact absurd h (Nat.not_lt_zero _)
  | succ N ih0 =>
  intro a b limit d W hN hab hb hlim0 hBel S
  have ih := Lib.hid ih0
  have HN := Lib.hid hN
  have H0 : Hid (PQ z a b d a b d ∧ SR w0 g off z d W) := ⟨PQ.start S.sz hab hb hBel, S⟩
  have Hab := Lib.hid hab
  have Hlm := Lib.hid hlim0
  clear ih0 hBel S hN hab hb hlim0
  go_enter Try.func47, Try.ntmps47
  go_wp2_with fail
  go_loopg [1, 2, 3, 8, 9] (b - a) (fun kx s1 s2 s3 s8 s9 wr => ∃ (a' b' lim : Nat) (wb wp : Bool) (dk : Array Int), s1 = .int .i64 (a' : Int) ∧ s2 = .int .i64 (b' : Int) ∧ s3 = .int .i64 (lim : Int) ∧ s8 = .bool wb ∧ s9 = .bool wp ∧
    b' - a' ≤ kx ∧ kx ≤ b - a ∧ lim ≤ limit ∧ Hid (PQ z a b d a' b' dk ∧ SR w0 g off z dk wr))
  case atStart => exact ⟨a, b, limit, true, true, d, rfl, rfl, rfl, rfl, rfl, Nat.le_refl _, Nat.le_refl _, Nat.le_refl _, H0⟩
  case round =>
    obtain ⟨a', b', lim, wb, wp, dk, rfl, rfl, rfl, rfl, rfl, hkx, hkN, hlim, H1⟩ := hrel
    clear H0
    obtain ⟨l, hl⟩ : ∃ l, l = b' - a' := ⟨_, rfl⟩
    have hle := H1.out.1.le
    have hbz := H1.out.1.bz
    have e0 : (b' : Int) - (a' : Int) = (l : Int) := by omega
    have hlm : lim ≤ 1000000 := Nat.le_trans hlim Hlm.out
    have hai : (a' : Int) ≤ (z : Int) ∧ (b' : Int) ≤ (z : Int) ∧ (l : Int) ≤ (z : Int) ∧ (lim : Int) ≤ 1000000 := by omega
    have Hl := Lib.hid (And.intro hl (And.intro hle (And.intro hbz (And.intro hkx hkN))))
    clear hl hle hbz hkx hkN
    by_cases h12 : l ≤ 12
    · have h12z : (l : Int) ≤ 12 := by omega
      have HI := Lib.hid (insertion_any (cap := cap) Rh.out Hz.out (by have := Hz1.out; omega) dk a' b' Hl.out.2.1 Hl.out.2.2.1 H1.out.2)
      go_wp2_with (go_at_call 49; refine HI.out.mono ?_; rintro e w1 ⟨rfl, hw1⟩)
      (try simp only [Exit.inBlock, Exit.then]); refine bodyPost_ret (results_none rfl _ _ _) rfl ?_
      exact H1.out.1.done (insertionSort_holds swo_ltInt dk a' b' H1.out.1.le (by rw [H1.out.1.sz]; exact H1.out.1.bz)) hw1
    have h12z : ¬ (l : Int) ≤ 12 := by omega
    have h12y : (12 : Int) < (l : Int) := by omega
    by_cases hl0 : lim = 0
    · subst hl0
      have HI := Lib.hid (heap_any (cap := cap) Rh.out Hz.out (by have := Hz1.out; omega) dk a' b' (by have := Hl.out; omega) Hl.out.2.2.1 H1.out.2)
      go_wp2_with (go_at_call 50; refine HI.out.mono ?_; rintro e w1 ⟨rfl, hw1⟩)
      (try simp only [Exit.inBlock, Exit.then]); refine bodyPost_ret (results_none rfl _ _ _) rfl ?_
      exact H1.out.1.done (heapSort_holds swo_ltInt dk a' b' H1.out.1.le (by rw [H1.out.1.sz]; exact H1.out.1.bz)) hw1
    have hl0z : ¬ (lim : Int) = 0 := by omega
    go_upto_if 35 with fail
    go_cut [3] from 19 (fun s3 wc => ∃ (lim' : Nat) (d1 : Array Int), s3 = .int .i64 (lim' : Int) ∧ lim' ≤ lim ∧ Hid (PQ z a b d a' b' d1 ∧ SR w0 g off z d1 wc))
    case first =>
      cases wb
      · have HI := Lib.hid (break_any (cap := cap) Rh.out Hz.out Hz1.out dk a' b' (by have := Hl.out; omega) Hl.out.2.2.1 H1.out.2)
        go_wp2_with (go_at_call 51; refine HI.out.mono ?_; rintro e w1 ⟨rfl, d1, hp1, hw1⟩)
        go_meet
        case rel => exact ⟨lim - 1, d1, (by congr 1; omega), by omega, Lib.hid ⟨H1.out.1.perm hp1, hw1⟩⟩
      · go_wp2_with fail
        go_meet
        case rel => exact ⟨lim, dk, rfl, Nat.le_refl _, H1⟩
    case rest =>
    obtain ⟨lim', d1, rfl, hl', H2⟩ := hcut
    clear H1
    have hli : (lim' : Int) ≤ 1000000 := by omega
    have Hll := Lib.hid (And.intro hl' (And.intro hlim hlm))
    clear hl' hlim hlm hl0 hl0z hai
    have hai : (a' : Int) ≤ (z : Int) ∧ (b' : Int) ≤ (z : Int) ∧ (l : Int) ≤ (z : Int) := by have := Hl.out; omega
    have HC := Lib.hid (choose_any (cap := cap) Rh.out Hz.out (by have := Hz1.out; omega) d1 a' b' (by have := Hl.out; omega) Hl.out.2.2.1 H2.out.2)
    go_upto_if 50 with (go_at_call 52; refine HC.out.mono ?_; intro e w2 hx2; obtain ⟨p, h, rfl, hp, hh, hs2⟩ := hx2)
    have H3 : Hid (PQ z a b d a' b' d1 ∧ SR w0 g off z d1 w2) := ⟨H2.out.1, hs2⟩
    clear H2 hs2 HC
    go_cut [11, 12] from 19 (fun s11 s12 wc => ∃ (p' : Nat) (h' : Int) (d2 : Array Int), s11 = .int .i64 (p' : Int) ∧ s12 = .int .i64 h' ∧ (a' ≤ p' ∧ p' < b') ∧ (h' = 0 ∨ h' = 1) ∧ Hid (PQ z a b d a' b' d2 ∧ SR w0 g off z d2 wc))
    case first =>
      rcases hh with rfl | rfl | rfl
      · go_wp2_with fail
        go_meet
        case rel => exact ⟨p, 0, d1, rfl, rfl, hp, .inl rfl, H3⟩
      · go_wp2_with fail
        go_meet
        case rel => exact ⟨p, 1, d1, rfl, rfl, hp, .inr rfl, H3⟩
      · have HI := Lib.hid (reverse_any (cap := cap) Rh.out Hz.out (by have := Hz1.out; omega) d1 a' b' (by have := Hl.out; omega) Hl.out.2.2.1 H3.out.2)
        have hpi : (p : Int) ≤ (z : Int) := by have := Hl.out; omega
        go_wp2_with (go_at_call 53; refine HI.out.mono ?_; rintro e w1 ⟨rfl, hw1⟩)
        go_meet
        case rel => exact ⟨(b' - 1) - (p - a'), 1, reverseRange d1 a' b', (by have := Hl.out; congr 1; omega), rfl, by have := Hl.out; omega, .inr rfl, Lib.hid ⟨H3.out.1.perm (reverseRange_holds d1 a' b' H3.out.1.le (by rw [H3.out.1.sz]; exact H3.out.1.bz)), hw1⟩⟩
    case rest =>
    obtain ⟨p', h', d2, rfl, rfl, hp', hh', H4⟩ := hcut
    clear H3 hh hp
    go_upto_region 15 with fail
    go_cut [12, 68] from 19 (fun s12 s68 wx => s12 = .int .i64 h' ∧ (∃ c, s68 = .bool c) ∧ wx = wc)
    case first =>
      cases wb <;> cases wp <;> rcases hh' with rfl | rfl <;>
        (go_wp2_with fail
         go_meet
         exact ⟨rfl, ⟨_, rfl⟩, rfl⟩)
    case rest =>
    obtain ⟨rfl, ⟨c, rfl⟩, rfl⟩ := hcut
    go_upto_if 68 with fail
    go_cut [] from 19 (fun wx => ∃ d3, Hid (PQ z a b d a' b' d3 ∧ SR w0 g off z d3 wx))
    case first =>
      cases c
      · go_wp2_with fail
        go_meet
        case rel => exact ⟨d2, H4⟩
      · have HI := partialins_any (cap := cap) Rh.out Hz.out (by have := Hz1.out; omega) d2 a' b' (by have := Hl.out; omega) Hl.out.2.2.1 H4.out.2
        have HP := partialInsertionSort_holds swo_ltInt d2 a' b' (by have := Hl.out; omega) (by rw [H4.out.1.sz]; exact H4.out.1.bz) H4.out.1.bel
        generalize partialInsertionSort ltInt d2 a' b' = P at HI HP
        obtain ⟨d3, t⟩ := P
        have HP2 : Hid (PermIn a' b' d2 d3 ∧ (t = true → SortedIn ltInt a' b' d3)) := HP
        have HI2 := Lib.hid HI
        clear HI HP
        cases t
        · go_wp2_with (go_at_call 54; refine HI2.out.mono ?_; rintro e w4 ⟨rfl, hw4⟩)
          go_meet
          case rel => exact ⟨d3, Lib.hid ⟨H4.out.1.perm HP2.out.1, hw4⟩⟩
        · go_wp2_with (go_at_call 54; refine HI2.out.mono ?_; rintro e w4 ⟨rfl, hw4⟩)
          (try simp only [Exit.inBlock, Exit.then]); refine bodyPost_ret (results_none rfl _ _ _) rfl ?_
          exact H4.out.1.done ⟨HP2.out.1, HP2.out.2 trivial⟩ hw4
    case rest =>
    obtain ⟨d3, H5⟩ := hcut
    clear H4 hh'
    go_upto_region 17 with fail
    go_cut [87] from 19 (fun s87 wx => ∃ t : Bool, s87 = .bool t ∧ Hid ((t = true → 0 < a' ∧ ltInt d3[a' - 1]! d3[p']! = false) ∧ PQ z a b d a' b' d3 ∧ SR w0 g off z d3 wx))
    case first =>
      have hpz : (p' : Int) < (z : Int) := by have := Hl.out; omega
      have HS5 := Lib.hid H5.out.2
      have HQ5 := Lib.hid H5.out.1
      clear H5
      by_cases ha0 : a' = 0
      · subst ha0
        go_wp2_with fail
        go_quiet (fail)
        have H6 : Hid (SR w0 g off z d3 (wc.drewN nq)) := HS5.out.drewN nq
        clear HS5
        go_wp2_with fail
        go_meet
        exact ⟨false, rfl, Lib.hid ⟨fun h => Bool.noConfusion h, HQ5.out, H6.out⟩⟩
      · obtain ⟨q, hq⟩ : ∃ q, a' = q + 1 := ⟨a' - 1, by omega⟩
        have hq1 : (a' : Int) - 1 = (q : Int) := by omega
        have hq2 : (0 : Int) < (a' : Int) := by omega
        have hq3 : decide ((0 : Int) < (a' : Int)) = true := decide_eq_true hq2
        have hq5 : 0 < a' := by omega
        have hq6 : decide (0 < a') = true := decide_eq_true hq5
        have hq7 : decide ((a' : Int) > 0) = true := decide_eq_true hq2
        have hq4 : (q : Int) < (z : Int) := by have := Hl.out; omega
        have q0 := HS5.out.cell Rh.out Hz.out (i := q) (by omega)
        have q1 := HS5.out.cell Rh.out Hz.out (i := p') (by omega)
        obtain ⟨x, hx⟩ : ∃ x, x = d3[q]! := ⟨_, rfl⟩
        obtain ⟨y, hy⟩ : ∃ y, y = d3[p']! := ⟨_, rfl⟩
        have HT : Hid (ltInt x y = false → 0 < a' ∧ ltInt d3[a' - 1]! d3[p']! = false) := fun h => ⟨by omega, by rw [show a' - 1 = q by omega, ← hx, ← hy]; exact h⟩
        rw [← hx] at q0
        rw [← hy] at q1
        clear hx hy
        cases hl : ltInt x y with
        | true =>
          have HLc := Lib.hid fun w => less_any x y w
          rw [hl] at HLc
          clear hl HT hq
          go_wp2_with fail
          go_quiet ((go_at_call 55; exact Calls.quiet_of_same (HLc.out _)))
          have H6 : Hid (SR w0 g off z d3 (wc.drewN nq)) := HS5.out.drewN nq
          clear q0 q1 HS5
          go_wp2_with fail
          go_meet
          exact ⟨false, rfl, Lib.hid ⟨fun h => Bool.noConfusion h, HQ5.out, H6.out⟩⟩
        | false =>
          have HLc := Lib.hid fun w => less_any x y w
          rw [hl] at HLc
          have HT2 := Lib.hid (HT.out hl)
          clear hl HT hq
          go_wp2_with fail
          go_quiet ((go_at_call 55; exact Calls.quiet_of_same (HLc.out _)))
          have H6 : Hid (SR w0 g off z d3 (wc.drewN nq)) := HS5.out.drewN nq
          clear q0 q1 HS5
          go_wp2_with fail
          go_meet
          exact ⟨true, rfl, Lib.hid ⟨fun _ => HT2.out, HQ5.out, H6.out⟩⟩
    case rest =>
    obtain ⟨t, rfl, H6⟩ := hcut
    clear H5
    cases t
    · have HI := part_any (cap := cap) Rh.out Hz.out (by have := Hz1.out; omega) d3 a' b' p' hp'.1 hp'.2 Hl.out.2.2.1 H6.out.2.2
      have HP := H6.out.2.1.part hp'
      obtain ⟨m, hm⟩ : ∃ m, (partition ltInt d3 a' b' p').1 = m := ⟨_, rfl⟩
      obtain ⟨d4, hd4⟩ : ∃ m, (partition ltInt d3 a' b' p').2.2 = m := ⟨_, rfl⟩
      have HP2 := Lib.hid (HP m d4 hm hd4)
      rw [hm, hd4] at HI
      generalize (partition ltInt d3 a' b' p').2.1 = ap at HI
      have HI2 := Lib.hid HI
      clear HI HP hm hd4
      have hmi : (m : Int) ≤ (z : Int) := by have := Hl.out; have := HP2.out.1; omega
      go_upto_if 113 with (go_at_call 57; refine HI2.out.mono ?_; rintro e w7 ⟨rfl, hw7⟩)
      by_cases h4 : m - a' < b' - m
      · have h4z : (m : Int) - (a' : Int) < (b' : Int) - (m : Int) := by have := HP2.out.1; omega
        have HR := Lib.hid (ih.out a' m lim' d4 w7 (by have := HP2.out.1; have := Hl.out; have := HN.out; omega) HP2.out.1.1 (by have := HP2.out.1; have := Hl.out; omega) (by have := Hll.out; omega) HP2.out.2.2.1 hw7)
        clear hw7 HI2
        go_wp2_with (go_at_call 47; refine HR.out.mono ?_; rintro e w8 ⟨rfl, L, hL, hw8⟩)
        go_roundg (b' - (m + 1))
        case measure => have := Hl.out; have := HP2.out.1; omega
        case rel => exact ⟨m + 1, b', lim', _, ap, L, (by first | rfl | simp), rfl, rfl, rfl, rfl, Nat.le_refl _, by have := Hl.out; have := HP2.out.1; omega, by have := Hll.out; omega, Lib.hid ⟨HP2.out.2.2.2.2.1 L hL.1 hL.2, hw8⟩⟩
      · have h4z : ¬ (m : Int) - (a' : Int) < (b' : Int) - (m : Int) := by have := HP2.out.1; omega
        have HR := Lib.hid (ih.out (m + 1) b' lim' d4 w7 (by have := HP2.out.1; have := Hl.out; have := HN.out; omega) HP2.out.1.2 Hl.out.2.2.1 (by have := Hll.out; omega) HP2.out.2.2.2.1 hw7)
        clear hw7 HI2
        go_wp2_with (go_at_call 47; refine HR.out.mono ?_; rintro e w8 ⟨rfl, L, hL, hw8⟩)
        go_roundg (m - a')
        case measure => have := Hl.out; have := HP2.out.1; omega
        case rel => exact ⟨a', m, lim', _, ap, L, rfl, rfl, rfl, rfl, rfl, Nat.le_refl _, by have := Hl.out; have := HP2.out.1; omega, by have := Hll.out; omega, Lib.hid ⟨HP2.out.2.2.2.2.2 L hL.1 hL.2, hw8⟩⟩
    · have ht := H6.out.1 rfl
      have HI := parteq_any (cap := cap) Rh.out Hz.out (by have := Hz1.out; omega) d3 a' b' p' hp'.1 hp'.2 Hl.out.2.2.1 H6.out.2.2
      have HP := H6.out.2.1.equal ht.1 hp' ht.2
      generalize partitionEqual ltInt d3 a' b' p' = M at HI HP
      obtain ⟨m, d4⟩ := M
      have HP2 : Hid (a' < m ∧ PQ z a b d m b' d4) := HP
      have HI2 := Lib.hid HI
      clear HI HP ht
      go_wp2_with (go_at_call 56; refine HI2.out.mono ?_; rintro e w7 ⟨rfl, hw7⟩)
      go_roundg (b' - m)
      case measure => have := Hl.out; have := HP2.out.1; omega
      case rel => exact ⟨m, b', lim', _, _, d4, rfl, rfl, rfl, rfl, rfl, Nat.le_refl _, by have := Hl.out; have := HP2.out.1; omega, by have := Hll.out; omega, Lib.hid ⟨HP2.out.2, hw7⟩⟩
end
end Go.Proofs.Ytejimgjonhaocaa
