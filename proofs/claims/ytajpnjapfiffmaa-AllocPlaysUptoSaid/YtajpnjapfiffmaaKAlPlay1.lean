/-
  Acts of a play as plain data; few; rows of units compared.
-/
import Derived.Test.YtajpnjapfiffmaaKAlState
import Derived.Test.YtajpnjapfiffmaaKAlTwin
namespace Go.Proofs.Ytajpnjapfiffmaa
open Go.RowKit Go.Maps

structure PAct8 where
  op : Int
  num : Int
  wo : List Int
  us : List (Int × Int)
/-- an act in memory, its four cells from o on in block b -/
def Act8 (w : World) (b o : Nat) (x : PAct8) : Prop :=
  w.cell? ⟨b, o, none⟩ = some (.int .i64 x.op) ∧ w.cell? ⟨b, o + 1, none⟩ = some (.int .i64 x.num) ∧
    (∃ (A : Option Addr) (c : Nat), w.cell? ⟨b, o + 2, none⟩ = some (.slice A x.wo.length c) ∧ RI w w.heap.size A x.wo) ∧
    ∃ (A : Option Addr) (c : Nat), w.cell? ⟨b, o + 3, none⟩ = some (.slice A x.us.length c) ∧ RU w w.heap.size A x.us
/-- the acts of a slice: at a nil one there is none -/
def Acts8 (w : World) (A : Option Addr) (l : List PAct8) : Prop := ∀ (k : Nat) x, l[k]? = some x → ∃ b o, A = some ⟨b, o, none⟩ ∧ b < w.heap.size ∧ Act8 w b (o + k * 4) x
/-- a bool, and nothing has turned -/
def BoolW (w : World) (e : Ending) (w' : World) : Prop := ∃ b, e = .returned (.bool b) ∧ ∃ q, w' = w.drewN q
theorem BoolW.mk {w w' : World} {e : Ending} (b : Bool) (he : e = .returned (.bool b)) (q : Nat) (hw : w' = w.drewN q) : BoolW w e w' := ⟨b, he, q, hw⟩
section
set_option maxRecDepth 20000
set_option maxHeartbeats 1600000
theorem few8_any (D Z : Int) (A : Option Addr) (c : Nat) (l : List PAct8) (w : World) (h : Acts8 w A l) (hl : l.length ≤ 1048576)
    (hbd : ∀ (k : Nat) (x : PAct8), l[k]? = some x → x.wo.length ≤ 1048576 ∧ x.us.length ≤ 1048576) :
    Calls Try.prog 7 #[.int .i64 D, .int .i64 Z, .slice A l.length c] w (BoolW w) := by
  obtain ⟨N, hN⟩ : ∃ N, N = l.length := ⟨_, rfl⟩
  have Hh := Lib.hid h
  have HN := Lib.hid hN
  have Hb := Lib.hid hbd
  have hNb : (N : Int) ≤ 1048576 := by omega
  have hNn : N ≤ 1048576 := by omega
  rw [← hN]
  clear h hN hl hbd
  go_enter Try.func7, Try.ntmps7
  go_wp2_with fail
  go_loopw [7, 8] (fun nv iv wr => ∃ (k n q : Nat), iv = .int .i64 (k : Int) ∧ nv = .int .i64 (n : Int) ∧ k ≤ N ∧ n ≤ k * 2097152 ∧ Hid (wr = w.drewN q)) (fun _ iv _ => N - (intOf iv).toNat)
  case atStart => exact ⟨0, 0, 0, rfl, rfl, Nat.zero_le _, Nat.zero_le _, rfl⟩
  case round =>
    obtain ⟨k, n, q, rfl, rfl, hk, hn, hw⟩ := hrel
    by_cases hlt : k < N
    case neg =>
      obtain rfl : k = N := by omega
      clear hlt hk hn hNn
      by_cases h1 : (k : Int) ≤ 300
      case neg =>
        have h1' : decide ((k : Int) ≤ 300) = false := decide_eq_false h1
        have h1n : ¬ k ≤ 300 := by omega
        go_wp2_with fail
        go_ret
        exact BoolW.mk _ rfl q hw.out
      have h1n : k ≤ 300 := by omega
      by_cases h2 : (n : Int) ≤ 3000
      case neg =>
        have h2n : ¬ n ≤ 3000 := by omega
        go_wp2_with fail
        go_ret
        exact BoolW.mk _ rfl q hw.out
      have h2n : n ≤ 3000 := by omega
      by_cases h3 : D < 1
      · go_wp2_with fail
        go_ret
        exact BoolW.mk _ rfl q hw.out
      by_cases h4 : Z < 1
      · go_wp2_with fail
        go_ret
        exact BoolW.mk _ rfl q hw.out
      by_cases h5 : 32 < D
      · go_wp2_with fail
        go_ret
        exact BoolW.mk _ rfl q hw.out
      obtain ⟨d, rfl⟩ : ∃ d : Nat, D = (d : Int) := ⟨D.toNat, by omega⟩
      have h6 : ¬ (d : Int) = 0 := by omega
      have h6' : ¬ d = 0 := by omega
      have h7 : 0 < (200 : Int) / (d : Int) ∨ True := .inr trivial
      have h8 : (200 : Int) / (d : Int) ≤ 200 := Int.ediv_le_self _ (by omega)
      have h9 : 0 ≤ (200 : Int) / (d : Int) := Int.ediv_nonneg (by omega) (by omega)
      have h10 : IntKind.i64.wrap ((200 : Int) / (d : Int)) = (200 : Int) / (d : Int) := by rw [IntKind.wrap_i64]; omega
      by_cases h11 : Z ≤ (200 : Int) / (d : Int)
      · go_wp2_with fail
        go_ret
        exact BoolW.mk _ rfl q hw.out
      · go_wp2_with fail
        go_ret
        exact BoolW.mk _ rfl q hw.out
    have hk' : (k : Int) < (N : Int) := by omega
    obtain ⟨x, hx⟩ : ∃ x, l[k]? = some x := ⟨_, List.getElem?_eq_getElem (by rw [← HN.out]; exact hlt)⟩
    obtain ⟨b, o, rfl, hb, _, _, ⟨A1, c1, g5, _⟩, ⟨A2, c2, g6, _⟩⟩ := Hh.out k x hx
    obtain ⟨b1, b2⟩ := Hb.out k x hx
    have g5' : wr.cell? ⟨b, o + k * 4 + 2, none⟩ = some (.slice A1 x.wo.length c1) := by rw [hw.out]; exact g5
    have g6' : wr.cell? ⟨b, o + k * 4 + 3, none⟩ = some (.slice A2 x.us.length c2) := by rw [hw.out]; exact g6
    generalize x.wo.length = m1 at *
    generalize x.us.length = m2 at *
    have hn' : n ≤ 2199023255552 := by omega
    clear g5 g6 hx
    go_wp2_with fail
    go_quiet (fail)
    go_wp2_with fail
    go_roundw
    case rel => exact ⟨k + 1, n + m1 + m2, q + nq, by go_num, by go_num, by omega, by omega, (by show _ = _; rw [hw.out]; simp [World.drewN, Nat.add_assoc])⟩
    case measure => simp [intOf]; omega
/-- rows of the same units -/
theorem units_any (A B : Option Addr) (c c' : Nat) (us : List (Int × Int)) (w : World) (hA : RU w w.heap.size A us) (hB : RU w w.heap.size B us) (hl : us.length ≤ 1099511627776) :
    Calls Try.prog 12 #[.slice A us.length c, .slice B us.length c'] w fun e w' => e = .returned (.bool true) ∧ Below w.heap.size w w' := by
  have H1 := Lib.hid hA
  have H2 := Lib.hid hB
  have hl' : ((us.length : Nat) : Int) ≤ 1099511627776 := by omega
  have Hlen : Hid (∀ k : Nat, k < us.length → ∃ u, us[k]? = some u) := fun k hk => ⟨_, List.getElem?_eq_getElem hk⟩
  have eg := Try.eqGuardType24
  generalize us.length = n at *
  clear hA hB
  go_enter Try.func12, Try.ntmps12
  go_wp2_with fail
  go_loopw [5] (fun iv wr => ∃ (i q : Nat), iv = .int .i64 (i : Int) ∧ i ≤ n ∧ Hid (wr = w.drewN q)) (fun iv _ => n - (intOf iv).toNat)
  case atStart => exact ⟨0, 0, rfl, Nat.zero_le _, rfl⟩
  case round =>
    obtain ⟨i, q, rfl, hi, hw⟩ := hrel
    by_cases hlt : i < n
    · obtain ⟨u, hu⟩ := Hlen.out i hlt
      obtain ⟨b, o, rfl, hb, c0, c1⟩ := H1.out i u hu
      obtain ⟨b', o', rfl, hb', c0', c1'⟩ := H2.out i u hu
      have hlt' : (i : Int) < (n : Int) := by omega
      have Hnx : Hid (∀ p, ∃ q', Hid (wr.drewN p = w.drewN q')) := fun p => ⟨q + p, by show _ = _; rw [hw.out, World.drewN_drewN]⟩
      have d0 : ∀ p, (wr.drewN p).cell? ⟨b, o + i * 2, none⟩ = some (.int .i64 u.1) := fun p => by rw [hw.out]; exact c0
      have d1 : ∀ p, (wr.drewN p).cell? ⟨b, o + i * 2 + 1, none⟩ = some (.int .i64 u.2) := fun p => by rw [hw.out]; exact c1
      have d0' : ∀ p, (wr.drewN p).cell? ⟨b', o' + i * 2, none⟩ = some (.int .i64 u.1) := fun p => by rw [hw.out]; exact c0'
      have d1' : ∀ p, (wr.drewN p).cell? ⟨b', o' + i * 2 + 1, none⟩ = some (.int .i64 u.2) := fun p => by rw [hw.out]; exact c1'
      have q1 : ∀ W, (Op.equalIn 10000 24 (.agg #[.int .i64 u.1, .int .i64 u.2]) (.agg #[.int .i64 u.1, .int .i64 u.2])).run Try.prog W = .ok true W := fun W => by
        rw [eql_unit, decide_eq_true ⟨rfl, rfl⟩]
      generalize u.1 = x at *
      generalize u.2 = y at *
      clear c0 c1 c0' c1' hu hlt hw
      go_wp2_with fail
      go_quiet (fail)
      obtain ⟨q', hq'⟩ := Hnx.out nq
      go_wp2_with fail
      go_roundw
      case rel => exact ⟨i + 1, q', by go_num, by omega, hq'⟩
      case measure => simp [intOf]; omega
    · obtain rfl : i = n := by omega
      have Hb : Hid (Below w.heap.size w wr) := by
        show Below _ _ _
        rw [hw.out]
        exact drewN_below (Below.refl _ _) q
      clear hlt hw
      go_wp2_with fail
      go_ret
      exact ⟨rfl, Hb.out⟩
end
end Go.Proofs.Ytajpnjapfiffmaa

/-
  Both tables side by side; each act's step of both.
-/
namespace Go.Proofs.Ytajpnjapfiffmaa
open Go.RowKit Go.Maps Go.Shelf Go.Lib Go.Sort

/-- where both tables lie -/
structure Spots where
  tb : Nat
  db : Nat
  mb : Nat
  cap : Nat
  rb : Nat
  lb : Nat
  lc : Nat
  R : Nat → Nat
/-- BOTH TABLES: the program's says g, the second saying's gr -/
structure Both (w0 w : World) (s : Spots) (D Z : Nat) (g gr : St) : Prop where
  tab : TabAt w s.tb s.db s.mb s.cap D Z g
  ref : RefT w s.rb s.lb s.lc D Z s.R gr
  bel : Below w0.heap.size w0 w
  lt : w0.heap.size ≤ s.tb
  ld : w0.heap.size ≤ s.db
  lm : w0.heap.size ≤ s.mb
  lR : ∀ d, d < D → w0.heap.size ≤ s.R d
section
variable {w0 w w' : World} {s : Spots} {D Z : Nat} {g gr g' : St}
theorem Both.notR (h : Both w0 w s D Z g gr) : NotR D s.R s.tb ∧ NotR D s.R s.db ∧ NotR D s.R s.mb := by
  refine ⟨fun d hd e => ?_, fun d hd e => ?_, fun d hd e => ?_⟩
  · obtain ⟨cs, q, _⟩ := h.ref.rows d hd
    rw [← e] at q
    have := (q.type h.tab.tc).1
    revert this; decide
  · obtain ⟨cs, q, _⟩ := h.ref.rows d hd
    obtain ⟨cur, q2, _⟩ := h.tab.dc
    rw [← e] at q
    unfold Cells at q
    rw [q] at q2
    simp at q2
  · obtain ⟨cs, q, _⟩ := h.ref.rows d hd
    rw [← e] at q
    exact h.tab.mc.not_cells q
theorem Both.notT (h : Both w0 w s D Z g gr) : ∀ b, OfR s.rb s.lb D s.R b → b ≠ s.db ∧ b ≠ s.mb := by
  obtain ⟨cur, q2, _⟩ := h.tab.dc
  obtain ⟨cl, q3, _⟩ := h.ref.lc
  have q4 := h.ref.tc
  rintro b (rfl | rfl | ⟨d, hd, rfl⟩)
  · refine ⟨fun e => ?_, fun e => h.tab.mc.not_cells (e ▸ q4)⟩
    unfold Cells at q4
    rw [e, q2] at q4
    simp at q4
  · refine ⟨fun e => ?_, fun e => h.tab.mc.not_cells (e ▸ q3)⟩
    unfold Cells at q3
    rw [e, q2] at q3
    simp at q3
  · exact ⟨fun e => h.notR.2.1 d hd e.symm, fun e => h.notR.2.2 d hd e.symm⟩
theorem Both.prog (h : Both w0 w s D Z g gr) (ht : TabAt w' s.tb s.db s.mb s.cap D Z g') (hk : Kept (fun x => x ≠ s.db ∧ x ≠ s.mb) w w') : Both w0 w' s D Z g' gr := by
  have h1 := h.ld
  have h2 := h.lm
  exact ⟨ht, h.ref.kept hk h.notT, h.bel.trans (hk.to_below (fun b hb => ⟨by omega, by omega⟩) h.bel.size), h.lt, h.ld, h.lm, h.lR⟩
theorem Both.refs (h : Both w0 w s D Z g gr) (ht : RefT w' s.rb s.lb s.lc D Z s.R g') (hk : Kept (NotR D s.R) w w') : Both w0 w' s D Z g g' := by
  obtain ⟨n1, n2, n3⟩ := h.notR
  exact ⟨h.tab.kept hk n1 n2 n3, ht, h.bel.trans (hk.to_below (fun b hb d hd => by have := h.lR d hd; omega) h.bel.size), h.lt, h.ld, h.lm, h.lR⟩
theorem Both.below (h : Both w0 w s D Z g gr) (hb : Below w.heap.size w w') : Both w0 w' s D Z g gr :=
  ⟨h.tab.below hb, h.ref.below hb, h.bel.trans (hb.mono h.bel.size), h.lt, h.ld, h.lm, h.lR⟩
theorem Both.drewN (h : Both w0 w s D Z g gr) (q : Nat) : Both w0 (w.drewN q) s D Z g gr := ⟨h.tab.drewN q, h.ref.drewN q, drewN_below h.bel q, h.lt, h.ld, h.lm, h.lR⟩
theorem RU.widen {w : World} {B B' : Nat} {A : Option Addr} {us : List (Int × Int)} (h : RU w B A us) (hB : B ≤ B') : RU w B' A us := fun k u hk => by
  obtain ⟨b, o, e, hlt, h0⟩ := h k u hk
  exact ⟨b, o, e, by omega, h0⟩
theorem acts_below {A : Option Addr} {l : List PAct8} (h : Acts8 w A l) (hb : Below w.heap.size w w') : Acts8 w' A l := fun k x hk => by
  obtain ⟨b, o, e, hlt, a0, a1, ⟨A2, c2, a2, r2⟩, ⟨A3, c3, a3, r3⟩⟩ := h k x hk
  have hc : ∀ i, w'.cell? ⟨b, i, none⟩ = w.cell? ⟨b, i, none⟩ := fun i => hb.cell (p := ⟨b, i, none⟩) hlt
  exact ⟨b, o, e, by have := hb.size; omega, (hc _).trans a0, (hc _).trans a1, ⟨A2, c2, (hc _).trans a2, (r2.below hb).move (fun _ _ => rfl) hb.size⟩, ⟨A3, c3, (hc _).trans a3, (r3.below hb).widen hb.size⟩⟩
theorem own_ru {w : World} {base : Nat} {v : Value} {us : List (Int × Int)} (h : OwnU w base v us) : ∃ A c, v = .slice A us.length c ∧ RU w w.heap.size A us := by
  obtain ⟨A, c, e, _, h1, _⟩ := h.rd
  exact ⟨A, c, e, h1⟩
set_option maxRecDepth 20000 in
set_option maxHeartbeats 800000 in
theorem rtake_bad {rb lb cap : Nat} {R : Nat → Nat} (x : Int) (A : Option Addr) (c m : Nat) (h : ¬ (1 ≤ x ∧ x ≤ 32)) : Calls Try.prog 11 #[.pointer (some ⟨rb, 0, none⟩), .int .i64 x, .slice A m c] w fun e w' => e = .returned (.tuple #[.slice none 0 0, .int .i64 1]) ∧ w' = w := by
  have hx2 : x < 1 ∨ (1 ≤ x ∧ 32 < x) := by omega
  clear h
  rcases hx2 with h0 | ⟨h0, h1⟩
  all_goals
    go_enter Try.func11, Try.ntmps11
    go_wp2_with fail
    go_ret2
    exact ⟨rfl, rfl⟩
/-- what the program's Take does, the second saying's does too -/
theorem rtake_took {rb lb cap : Nat} {R : Nat → Nat} {x er : Int} {us : List (Int × Int)} (A : Option Addr) (c m : Nat) (wo : List Int) (hm : m = wo.length) (hl : m ≤ 1099511627776) (hr : RI w w.heap.size A wo) (h : RefT w rb lb cap D Z R g) (ht : Took g D Z x wo us er g') :
    Calls Try.prog 11 #[.pointer (some ⟨rb, 0, none⟩), .int .i64 x, .slice A m c] w fun e w' => ∃ v, e = .returned (.tuple #[v, .int .i64 er]) ∧ RefT w' rb lb cap D Z R g' ∧ Kept (NotR D R) w w' ∧ OwnU w' w.heap.size v us := by
  rcases ht with ⟨hn, rfl, rfl, rfl⟩ | ⟨hn, M, hp, ha, hc⟩
  · refine (rtake_bad (rb := rb) (lb := lb) (cap := cap) (R := R) x A c m hn).mono ?_
    rintro e w' ⟨rfl, rfl⟩
    exact ⟨_, rfl, h, Kept.refl _ _, OwnU.nil _ _⟩
  · obtain ⟨n, rfl⟩ : ∃ n : Nat, x = (n : Int) := ⟨x.toNat, by omega⟩
    rcases hc with ⟨hlt, rfl, rfl, rfl⟩ | ⟨hge, L, hL1, hL2, rfl, rfl, rfl⟩
    · refine (rtake_any n (by omega) A c m wo hm hl hr h M hp ha [] (fun q => by omega)).mono ?_
      rintro e w' ⟨v, us, er, g', rfl, h1, h2, h3, h4⟩
      rcases h4 with ⟨_, rfl, rfl, rfl⟩ | ⟨q, _⟩
      · exact ⟨v, rfl, h1, h2, h3⟩
      · omega
    · rw [Int.toNat_natCast] at hL1
      refine (rtake_any n (by omega) A c m wo hm hl hr h M hp ha L (fun _ => ⟨hL1, hL2⟩)).mono ?_
      rintro e w' ⟨v, us, er, g', rfl, h1, h2, h3, h4⟩
      rcases h4 with ⟨q, _⟩ | ⟨_, rfl, rfl, rfl⟩
      · omega
      · exact ⟨v, rfl, h1, h2, h3⟩
/-- Take, both -/
theorem Both.take (h : Both w0 w s D Z g g) (x : Int) (A : Option Addr) (c : Nat) (wo : List Int) (hl : wo.length ≤ 1099511627776) (hr : RI w0 w0.heap.size A wo) :
    Calls Try.prog 10 #[.pointer (some ⟨s.tb, 0, none⟩), .int .i64 x, .slice A wo.length c] w fun e w1 => ∃ A1 c1 us er g', e = .returned (.tuple #[.slice A1 us.length c1, .int .i64 er]) ∧ Below w0.heap.size w0 w1 ∧ us.length ≤ 1000000 ∧ Kept (fun x => x ≠ s.db ∧ x ≠ s.mb) w w1 ∧
      Calls Try.prog 11 #[.pointer (some ⟨s.rb, 0, none⟩), .int .i64 x, .slice A wo.length c] w1 fun e w2 => ∃ A2 c2, e = .returned (.tuple #[.slice A2 us.length c2, .int .i64 er]) ∧ Both w0 w2 s D Z g' g' ∧ RU w2 w2.heap.size A1 us ∧ RU w2 w2.heap.size A2 us := by
  have hri : ∀ W, Below w0.heap.size w0 W → RI W W.heap.size A wo := fun W hb => (hr.below hb).move (fun _ _ => rfl) hb.size
  refine (take_call A c wo.length x wo rfl hl (hri w h.bel) h.tab).mono ?_
  rintro e w1 ⟨v, us, er, g', rfl, ht, h1, hk, ho⟩
  have hB := h.prog h1 hk
  obtain ⟨A1, c1, rfl, _, hru1, hlow⟩ := ho.rd
  have hus : us.length ≤ 1000000 := by
    rcases ht with ⟨_, rfl, _⟩ | ⟨_, M, hp, _, ⟨_, rfl, _⟩ | ⟨_, L, hL, _, rfl, _⟩⟩
    · exact Nat.zero_le _
    · exact Nat.zero_le _
    · have := hL.length_eq
      have h2 := hp.length_eq
      have h3 := roomyL_len g Z wo D
      have h4 := h.tab.d2
      simp at this
      simp [tookU]
      omega
  refine ⟨A1, c1, us, er, g', rfl, hB.bel, hus, hk, (rtake_took A c wo.length wo rfl hl (hri w1 hB.bel) hB.ref ht).mono ?_⟩
  rintro e w2 ⟨v2, rfl, h2, hk2, ho2⟩
  obtain ⟨A2, c2, rfl, hru2⟩ := own_ru ho2
  refine ⟨A2, c2, rfl, hB.refs h2 hk2, fun k u hk' => ?_, hru2⟩
  obtain ⟨b, o, e, hlt, c0, c1⟩ := hru1 k u hk'
  have hb := hlow b o e
  have hkeep := hk2.block b hlt fun d hd e2 => by have := (h.ref.rows d hd).lt; omega
  exact ⟨b, o, e, by have := hk2.size; omega, (World.cell?_of_block hkeep).trans c0, (World.cell?_of_block hkeep).trans c1⟩
/-- TakeOn, both -/
theorem takeOnV_shape (g : St) (D Z : Nat) (x : Int) : ∃ a b er, takeOnV g D Z x = .tuple #[.agg #[.int .i64 a, .int .i64 b], .int .i64 er] := by
  unfold takeOnV
  split
  · split
    · exact ⟨_, _, _, rfl⟩
    · exact ⟨_, _, _, rfl⟩
  · exact ⟨_, _, _, rfl⟩
/-- TakeOn, both -/
theorem Both.takeOn (h : Both w0 w s D Z g g) (x : Int) :
    Calls Try.prog 13 #[.pointer (some ⟨s.tb, 0, none⟩), .int .i64 x] w fun e w1 => ∃ a b er g', e = .returned (.tuple #[.agg #[.int .i64 a, .int .i64 b], .int .i64 er]) ∧ Both w0 w1 s D Z g' g ∧ Kept (fun x => x ≠ s.db ∧ x ≠ s.mb) w w1 ∧
      ∀ W, Both w0 W s D Z g' g → Calls Try.prog 14 #[.pointer (some ⟨s.rb, 0, none⟩), .int .i64 x] W fun e w2 => e = .returned (.tuple #[.agg #[.int .i64 a, .int .i64 b], .int .i64 er]) ∧ Both w0 w2 s D Z g' g' ∧ Below w0.heap.size w0 w2 ∧ ∀ i, i < W.heap.size → (∀ d, d < D → i ≠ s.R d) → w2.heap[i]? = W.heap[i]? := by
  obtain ⟨a, b, er, hv⟩ := takeOnV_shape g D Z x
  refine (takeOn_any x h.tab).mono ?_
  rintro e w1 ⟨rfl, h1, hk⟩
  have hB := h.prog h1 hk
  refine ⟨a, b, er, _, by rw [hv], hB, hk, fun W hW => (rtakeOn_any x hW.ref).mono ?_⟩
  rintro e w2 ⟨rfl, h2, hk2⟩
  have hB2 := hW.refs h2 hk2
  exact ⟨by rw [hv], hB2, hB2.bel, fun i hi hd => hk2.block i hi hd⟩
/-- Set, both -/
theorem Both.set (h : Both w0 w s D Z g g) (x : Int) (A : Option Addr) (c : Nat) (us : List (Int × Int)) (hl : us.length ≤ 1099511627776) (hr : RU w0 w0.heap.size A us) :
    Calls Try.prog 15 #[.pointer (some ⟨s.tb, 0, none⟩), .int .i64 x, .slice A us.length c] w fun e w1 => ∃ er, e = .returned (.int .i64 er) ∧ Both w0 w1 s D Z (setG g D Z x us) g ∧ Kept (fun y => y ≠ s.db ∧ y ≠ s.mb) w w1 ∧
      Calls Try.prog 16 #[.pointer (some ⟨s.rb, 0, none⟩), .int .i64 x, .slice A us.length c] w1 fun e w2 => e = .returned (.int .i64 er) ∧ Both w0 w2 s D Z (setG g D Z x us) (setG g D Z x us) ∧ Kept (NotR D s.R) w1 w2 := by
  have hru : ∀ W, Below w0.heap.size w0 W → RU W W.heap.size A us := fun W hb => (hr.below hb).widen hb.size
  have hlow : ∀ b o, A = some ⟨b, o, none⟩ → us ≠ [] → b < w0.heap.size := fun b o e hne => by
    obtain ⟨u, us', rfl⟩ := List.exists_cons_of_ne_nil hne
    obtain ⟨b', o', e', hlt, _⟩ := hr 0 u rfl
    rw [e'] at e; cases e; exact hlt
  have h1 := h.ld
  have h2 := h.lm
  refine (set_any x A c us hl (hru w h.bel) (fun b o e hne => by have := hlow b o e hne; exact ⟨by omega, by omega⟩) h.tab).mono ?_
  rintro e w1 ⟨rfl, ht, hk⟩
  have hB := h.prog ht hk
  refine ⟨_, rfl, hB, hk, (rset_any x A c us hl (hru w1 hB.bel) (fun b o e hne d hd e2 => by have := hlow b o e hne; have := h.lR d hd; omega) hB.ref).mono ?_⟩
  rintro e w2 ⟨rfl, ht2, hk2⟩
  exact ⟨rfl, hB.refs ht2 hk2, hk2⟩
/-- Release, both -/
theorem Both.release (h : Both w0 w s D Z g g) :
    Calls Try.prog 17 #[.pointer (some ⟨s.tb, 0, none⟩)] w fun e w1 => ∃ A1 c1 us, e = .returned (.slice A1 us.length c1) ∧ us.length ≤ 1000000 ∧ Both w0 w1 s D Z (relG g D 0) g ∧
      Calls Try.prog 18 #[.pointer (some ⟨s.rb, 0, none⟩)] w1 fun e w2 => ∃ A2 c2, e = .returned (.slice A2 us.length c2) ∧ Both w0 w2 s D Z (relG g D 0) (relG g D 0) ∧ RU w2 w2.heap.size A1 us ∧ RU w2 w2.heap.size A2 us := by
  have hZ : 0 < Z := h.tab.z1
  have hout : ∀ d z, Z ≤ z → g d z ≠ 2 := fun d z hz => by rw [h.tab.out d z (by omega)]; omega
  refine (release_any h.tab).mono ?_
  rintro e w1 ⟨A1, c1, us, rfl, hh, hs, ht, hk, hru1, hlow⟩
  obtain rfl := held_is hh hs
  rw [setAll_heldR hout] at ht
  have hB := h.prog ht hk
  refine ⟨A1, c1, _, rfl, ?_, hB, (rrelease_any hB.ref hZ hout).mono ?_⟩
  · have h1 := hh.2.1
    have h2 : D * Z ≤ 32 * 4096 := Nat.mul_le_mul h.tab.d2 h.tab.z2
    omega
  rintro e w2 ⟨v2, rfl, h2, hk2, ho2⟩
  obtain ⟨A2, c2, rfl, hru2⟩ := own_ru ho2
  refine ⟨A2, c2, rfl, hB.refs h2 hk2, fun k u hk' => ?_, hru2⟩
  obtain ⟨b, o, e, hlt, c0, c1⟩ := hru1 k u hk'
  have hb := hlow b o e (by intro q; rw [q] at hk'; simp at hk')
  have hkeep := hk2.block b hlt fun d hd e2 => by have := (h.ref.rows d hd).lt; omega
  exact ⟨b, o, e, by have := hk2.size; omega, (World.cell?_of_block hkeep).trans c0, (World.cell?_of_block hkeep).trans c1⟩
/-- a twin goes on -/
theorem Both.twin (h : Both w0 w s D Z g g) :
    Calls Try.prog 19 #[.pointer (some ⟨s.tb, 0, none⟩)] w fun e w1 => ∃ s', e = .returned (.pointer (some ⟨s'.tb, 0, none⟩)) ∧ s'.rb = s.rb ∧ Both w0 w1 s' D Z g g := by
  refine (twin_any h.tab).mono ?_
  rintro e w1 ⟨tb, db, mb, cap, rfl, ht, hb, l1, l2, l3⟩
  have := h.bel.size
  exact ⟨⟨tb, db, mb, cap, s.rb, s.lb, s.lc, s.R⟩, rfl, rfl, ht, h.ref.below hb, h.bel.trans (hb.mono h.bel.size), by show _ ≤ tb; omega, by show _ ≤ db; omega, by show _ ≤ mb; omega, h.lR⟩
end
end Go.Proofs.Ytajpnjapfiffmaa
