/-
  The program's mustFit, parted, mustBeThere.
-/
import Derived.Test.YtjokimlellbhjaaDoorKRs2
import Derived.Test.YtjokimlellbhjaaDoorKGf25
namespace Go.Proofs.YtjokimlellbhjaaDoor
open Go.RowKit

set_option maxRecDepth 20000
/-- how long those are that hold something; none, if two are unlike -/
def fitS : Nat → Mtx → Option Nat
  | n, [] => some n
  | n, l :: t => if n ≠ 0 ∧ l.length ≠ 0 ∧ l.length ≠ n then none else fitS (max n l.length) t
theorem fitS_some : ∀ (S : Mtx) (n m : Nat), fitS n S = some m → n ≤ m ∧ (∀ l ∈ S, l.length = 0 ∨ l.length = m) ∧ (n ≠ 0 → m = n) ∧ ((∀ l ∈ S, l.length = 0) → m = n)
  | [], n, m, h => by
    cases h
    exact ⟨Nat.le_refl _, (by intro l hl; cases hl), fun _ => rfl, fun _ => rfl⟩
  | l :: t, n, m, h => by
    unfold fitS at h
    by_cases hb : n ≠ 0 ∧ l.length ≠ 0 ∧ l.length ≠ n
    · rw [if_pos hb] at h; cases h
    · rw [if_neg hb] at h
      obtain ⟨h1, h2, h3, h4⟩ := fitS_some t _ m h
      refine ⟨by omega, fun x hx => ?_, fun hn => ?_, fun ha => ?_⟩
      · rcases List.mem_cons.1 hx with rfl | hx
        · by_cases h0 : x.length = 0
          · exact .inl h0
          · exact .inr (by rw [h3 (by omega)]; omega)
        · exact h2 x hx
      · rw [h3 (by omega)]; omega
      · have := ha l List.mem_cons_self
        have := h4 fun x hx => ha x (List.mem_cons_of_mem _ hx)
        omega
theorem fitS_none : ∀ (S : Mtx) (n : Nat), fitS n S = none → ∀ m, (n = 0 ∨ n = m) → ¬ ∀ l ∈ S, l.length = 0 ∨ l.length = m
  | [], n, h, _, _, _ => by cases h
  | l :: t, n, h, m, hm, ha => by
    unfold fitS at h
    have hl := ha l List.mem_cons_self
    by_cases hb : n ≠ 0 ∧ l.length ≠ 0 ∧ l.length ≠ n
    · omega
    · rw [if_neg hb] at h
      exact fitS_none t _ h m (by omega) fun x hx => ha x (List.mem_cons_of_mem _ hx)
theorem fitS_drop {S : Mtx} {k n : Nat} {l : List UInt8} (h : S[k]? = some l) : fitS n (S.drop k) = if n ≠ 0 ∧ l.length ≠ 0 ∧ l.length ≠ n then none else fitS (max n l.length) (S.drop (k + 1)) := by
  have hk := (List.getElem?_eq_some_iff.1 h).1
  rw [List.drop_eq_getElem_cons hk, (List.getElem?_eq_some_iff.1 h).2]; rfl
def pan (x : Int) : List PanicEntry := [{ v := .iface 30 (.int .i64 x), recovered := false }]
/-- what comes of a must: nothing, or the panic -/
def mayEnd (b : Bool) : Ending := if b then .returned (.tuple #[]) else .panicked (pan 1)
theorem mayEnd_no {b : Bool} (h : b = false) : Ending.panicked [{ v := .iface 30 (.int .i64 1), recovered := false }] = mayEnd b := by subst h; rfl
theorem mayEnd_yes {b : Bool} (h : b = true) : Ending.returned (.tuple #[]) = mayEnd b := by subst h; rfl
def fitB (n : Int) (S : Mtx) : Bool := decide ((S.length : Int) = n) && (fitS 0 S).isSome
set_option maxHeartbeats 1600000 in
theorem mustFit_any (n : Int) (A : Option Addr) (c N : Nat) (S : Mtx) (w : World) (B : Nat) (h : RM w B A S) (hN : N = S.length) (hN2 : N ≤ 4096) (hl : ∀ (k : Nat) (l : List UInt8), S[k]? = some l → l.length ≤ 1048576) :
    Calls Tryd.prog 60 #[.int .i64 n, .slice A N c] w fun e w' => e = mayEnd (fitB n S) ∧ w = w' := by
  by_cases hne : (N : Int) = n
  case neg =>
    have hb : ((N : Int) != n) = true := by simp; omega
    have Hr : Hid (fitB n S = false) := by
      unfold fitB
      rw [decide_eq_false (by rw [← hN]; exact hne)]; rfl
    clear h hN hl hne
    go_enter Tryd.func60, Tryd.ntmps60
    go_wp2_with fail
    exact ⟨rfl, mayEnd_no Hr.out, rfl⟩
  subst hne
  have Hst : Hid (fitS 0 (S.drop 0) = fitS 0 S) := rfl
  have Hres : Hid (fitB (N : Int) S = (fitS 0 S).isSome) := by
    unfold Hid fitB
    rw [decide_eq_true (by rw [← hN])]; rfl
  have Hh := Lib.hid h
  have HN := Lib.hid hN
  have Hl := Lib.hid hl
  have hN' : (N : Int) ≤ 4096 := by omega
  clear h hN hl hN2
  go_enter Tryd.func60, Tryd.ntmps60
  go_wp2_with fail
  go_loop [4, 6, 14] (fun lv _ iv => ∃ k g : Nat, lv = .int .i64 (g : Int) ∧ iv = .int .i64 (k : Int) ∧ k ≤ N ∧ Hid (fitS g (S.drop k) = fitS 0 S ∧ g ≤ 1048576)) (fun _ _ iv => N - (intOf iv).toNat)
  case atStart => exact ⟨0, 0, rfl, rfl, Nat.zero_le _, Hst.out, by omega⟩
  case round =>
    obtain ⟨k, g, rfl, rfl, hk, hrel⟩ := hrel
    by_cases hlt : k < N
    · obtain ⟨l, hx⟩ : ∃ l, S[k]? = some l := ⟨_, List.getElem?_eq_getElem (by rw [← HN.out]; exact hlt)⟩
      obtain ⟨b, o, A', c', rfl, hb, hc, _, _⟩ := Hh.out k l hx
      have hll := Hl.out k l hx
      have hs := fitS_drop (n := g) hx
      rw [hrel.out.1] at hs
      have hg2 := hrel.out.2
      have hlt' : (k : Int) < (N : Int) := by omega
      generalize l.length = m at *
      clear hx hb hlt hrel
      by_cases hbad : g ≠ 0 ∧ m ≠ 0 ∧ m ≠ g
      · have h1 : ((g : Int) != 0) = true := by simp; omega
        have h2 : ((m : Int) != 0) = true := by simp; omega
        have h3 : ((m : Int) != (g : Int)) = true := by simp; omega
        rw [if_pos hbad] at hs
        have Hs := Lib.hid hs
        clear hbad hs hll hg2
        go_wp2_with fail
        exact ⟨rfl, mayEnd_no (by rw [Hres.out, Hs.out]; rfl), rfl⟩
      rw [if_neg hbad] at hs
      have Hn : Hid (fitS (max g m) (S.drop (k + 1)) = fitS 0 S ∧ max g m ≤ 1048576) := ⟨hs.symm, by omega⟩
      clear hs
      by_cases hg0 : g = 0
      · subst hg0
        rw [Nat.zero_max] at Hn
        have hm' : (0 : Int) ≤ (m : Int) := by omega
        by_cases hm0 : m = 0
        · subst hm0
          clear hbad
          go_wp2_with fail
          go_round
          case rel => exact ⟨k + 1, 0, rfl, by go_num, by omega, Hn.out⟩
          case measure => simp [intOf]; omega
        · have hm1 : (0 : Int) < (m : Int) := by omega
          clear hbad hm0
          go_wp2_with fail
          go_round
          case rel => exact ⟨k + 1, m, rfl, by go_num, by omega, Hn.out⟩
          case measure => simp [intOf]; omega
      · have h1 : ((g : Int) != 0) = true := by simp; omega
        by_cases hm0 : m = 0
        · subst hm0
          rw [Nat.max_zero] at Hn
          have hm1 : ¬ (g : Int) < ((0 : Nat) : Int) := by omega
          clear hbad hg0
          go_wp2_with fail
          go_round
          case rel => exact ⟨k + 1, g, rfl, by go_num, by omega, Hn.out⟩
          case measure => simp [intOf]; omega
        · obtain rfl : m = g := by omega
          rw [Nat.max_self] at Hn
          have h2 : ((m : Int) != (m : Int)) = false := by simp
          clear hbad hg0 hm0
          go_wp2_with fail
          go_round
          case rel => exact ⟨k + 1, m, rfl, by go_num, by omega, Hn.out⟩
          case measure => simp [intOf]; omega
    · obtain rfl : k = N := by omega
      have Hd : Hid ((fitS 0 S).isSome = true) := by
        rw [← hrel.out.1, HN.out, List.drop_length]; rfl
      clear hlt hrel
      go_wp2_with fail
      go_end0
      exact ⟨mayEnd_yes (by rw [Hres.out, Hd.out]), rfl⟩
end Go.Proofs.YtjokimlellbhjaaDoor

/-
  The program's parted, mustBeThere.
-/
namespace Go.Proofs.YtjokimlellbhjaaDoor
open Go.RowKit

set_option maxRecDepth 20000
/-- the numbers, of the first i, of those that hold something; and of the others -/
def thereK (S : Mtx) : Nat → List Int
  | 0 => []
  | i + 1 => if (S.getD i []).length = 0 then thereK S i else thereK S i ++ [(i : Int)]
def missK (S : Mtx) : Nat → List Int
  | 0 => []
  | i + 1 => if (S.getD i []).length = 0 then missK S i ++ [(i : Int)] else missK S i
def thereL (S : Mtx) : List Int := thereK S S.length
def missL (S : Mtx) : List Int := missK S S.length
theorem part_length (S : Mtx) : ∀ i, (thereK S i).length + (missK S i).length = i
  | 0 => rfl
  | i + 1 => by
    have ih := part_length S i
    unfold thereK missK
    by_cases h : (S.getD i []).length = 0
    · rw [if_pos h, if_pos h, List.length_append, List.length_singleton]; omega
    · rw [if_neg h, if_neg h, List.length_append, List.length_singleton]; omega
def ints (l : List Int) : List Value := l.map (Value.int .i64)
theorem ints_length (l : List Int) : (ints l).length = l.length := List.length_map _
theorem ints_add (l : List Int) (x : Int) : ints (l ++ [x]) = ints l ++ [.int .i64 x] := by unfold ints; rw [List.map_append]; rfl
theorem info_int : (Tryd.prog.info? 3).map (fun i => (i.zero, i.size, i.bytes)) = some (some (.int .i64 0), 1, 8) := by kernel_rfl
/-- two lists of numbers, the call's own, that share no block -/
structure PartAt (w : World) (v2 v3 : Value) (l2 l3 : List Int) (wr : World) : Prop where
  one : OwnV wr w.heap.size 3 v2 (ints l2)
  two : OwnV wr w.heap.size 3 v3 (ints l3)
  apart : ∀ g, v2.ownBlock = some g → v3.ownBlock ≠ some g
  bel : Below w.heap.size w wr
theorem PartAt.alloc {w wr : World} {v2 v3 : Value} {l2 l3 : List Int} (h : PartAt w v2 v3 l2 l3 wr) (o : Obj) : PartAt w v2 v3 l2 l3 (wr.alloc o) := ⟨h.one.alloc o, h.two.alloc o, h.apart, h.bel.alloc h.bel.size o⟩
theorem PartAt.put2 {w wr w' : World} {v2 v3 v' : Value} {l2 l3 : List Int} {x : Int} (h : PartAt w v2 v3 l2 l3 wr) (ho : OwnV w' w.heap.size 3 v' (ints l2 ++ [.int .i64 x])) (hg : wr.grownBy w' v2.ownBlock) (hn : v'.ownBlock = v2.ownBlock ∨ v'.ownBlock = some wr.heap.size) :
    PartAt w v' v3 (l2 ++ [x]) l3 w' := by
  refine ⟨by rw [ints_add]; exact ho, h.two.move fun g hg3 => hg.block g (h.two.ge g hg3).2 (fun e => h.apart g e.symm hg3), fun g hgv hg3 => ?_, h.bel.grown hg h.bel.size fun g hg2 => (h.one.ge g hg2).1⟩
  rcases hn with hn | hn
  · exact h.apart g (by rw [← hn]; exact hgv) hg3
  · rw [hgv] at hn
    cases hn
    have := (h.two.ge _ hg3).2
    omega
theorem PartAt.put3 {w wr w' : World} {v2 v3 v' : Value} {l2 l3 : List Int} {x : Int} (h : PartAt w v2 v3 l2 l3 wr) (ho : OwnV w' w.heap.size 3 v' (ints l3 ++ [.int .i64 x])) (hg : wr.grownBy w' v3.ownBlock) (hn : v'.ownBlock = v3.ownBlock ∨ v'.ownBlock = some wr.heap.size) :
    PartAt w v2 v' l2 (l3 ++ [x]) w' := by
  refine ⟨h.one.move fun g hg2 => hg.block g (h.one.ge g hg2).2 (fun e => h.apart g hg2 e.symm), by rw [ints_add]; exact ho, fun g hg2 hgv => ?_, h.bel.grown hg h.bel.size fun g hg3 => (h.two.ge g hg3).1⟩
  rcases hn with hn | hn
  · exact h.apart g hg2 (by rw [← hn]; exact hgv)
  · rw [hgv] at hn
    cases hn
    have := (h.one.ge _ hg2).2
    omega
set_option maxHeartbeats 1600000 in
theorem parted_any (A : Option Addr) (c N : Nat) (S : Mtx) (w : World) (h : RM w w.heap.size A S) (hN : N = S.length) (hN2 : N ≤ 4096) :
    Calls Tryd.prog 75 #[.slice A N c] w fun e w' => ∃ v2 v3, e = .returned (.tuple #[v2, v3]) ∧ PartAt w v2 v3 (thereL S) (missL S) w' := by
  have Hst : Hid (PartAt w (.slice none 0 0) (.slice none 0 0) (thereK S 0) (missK S 0) w) := ⟨OwnV.nil _ _ _, OwnV.nil _ _ _, (by intro g hg; cases hg), Below.refl _ _⟩
  have Hh := Lib.hid h
  have HN : Hid (N = S.length ∧ N ≤ 4096) := ⟨hN, hN2⟩
  have hN' : (N : Int) ≤ 4096 := by omega
  clear h hN hN2
  go_enter Tryd.func75, Tryd.ntmps75
  go_wp2_with fail
  go_loopw [2, 3, 4, 5, 8] (fun v2 v3 _ _ iv wr => ∃ (k : Nat) (a b : Value), v2 = a ∧ v3 = b ∧ iv = .int .i64 (k : Int) ∧ k ≤ N ∧ Hid (PartAt w a b (thereK S k) (missK S k) wr)) (fun _ _ _ _ iv _ => N - (intOf iv).toNat)
  case atStart => exact ⟨0, _, _, rfl, rfl, rfl, Nat.zero_le _, Hst.out⟩
  case round =>
    obtain ⟨k, a, b, rfl, rfl, rfl, hk, hrel⟩ := hrel
    by_cases hlt : k < N
    · obtain ⟨l, hx⟩ : ∃ l, S[k]? = some l := ⟨_, List.getElem?_eq_getElem (by rw [← HN.out.1]; exact hlt)⟩
      obtain ⟨bb, o, A', c', rfl, hb, hc, _, _⟩ := Hh.out k l hx
      have k1 : wr.cell? ⟨bb, o + k, none⟩ = some (.slice A' l.length c') := (hrel.out.bel.cell (p := ⟨bb, o + k, none⟩) hb).trans hc
      have hlt' : (k : Int) < (N : Int) := by omega
      have hpl := part_length S k
      have Hk : Hid (k ≤ 4096 ∧ (ints (thereK S k)).length ≤ k ∧ (ints (missK S k)).length ≤ k) := ⟨by have := HN.out; omega, by rw [ints_length]; omega, by rw [ints_length]; omega⟩
      have hgd := getD_of hx
      have Hrel := Lib.hid hrel.out
      by_cases h0 : l.length = 0
      · have Hn : thereK S (k + 1) = thereK S k ∧ missK S (k + 1) = missK S k ++ [(k : Int)] := ⟨if_pos (by rw [hgd]; exact h0), if_pos (by rw [hgd]; exact h0)⟩
        have HN2 := Lib.hid Hn
        rw [h0] at k1
        clear Hn hx hb hc hrel hlt h0 hgd hpl
        go_wp2_with (at_builtin; go_must (refine app_one rfl (.tmp 16) (.tmp 18) 70 3 rfl Tryd.underlying70 _ 8 info_int rfl w.heap.size _ _ rfl (OwnV.alloc Hrel.out.two _) ⟨wr.heap.size, 0, none⟩ 1 (.int .i64 (k : Int)) rfl (cell_new _ _ _) rfl (by have := Hk.out; omega) (by have := Hk.out; omega) (by have := Hrel.out.bel.size; simp; omega) ?_); intro v9 W9 hown9 hg9 hn9; have Hn : Hid (PartAt w u2 v9 (thereK S (k + 1)) (missK S (k + 1)) W9) := by {rw [HN2.out.1, HN2.out.2]; exact (Hrel.out.alloc _).put3 hown9 hg9 hn9}; clear hown9 hg9 hn9 Hrel HN2)
        go_roundw
        case rel => exact ⟨k + 1, _, _, rfl, rfl, by go_num, by omega, Hn.out⟩
        case measure => simp [intOf]; omega
      · have h1 : ((l.length : Int) == 0) = false := by simp; intro e; exact h0 (by rw [e]; rfl)
        have Hn : thereK S (k + 1) = thereK S k ++ [(k : Int)] ∧ missK S (k + 1) = missK S k := ⟨if_neg (by rw [hgd]; exact h0), if_neg (by rw [hgd]; exact h0)⟩
        have HN2 := Lib.hid Hn
        generalize l.length = m at *
        clear Hn hx hb hc hrel hlt h0 hgd hpl
        go_wp2_with (at_builtin; go_must (refine app_one rfl (.tmp 20) (.tmp 22) 70 3 rfl Tryd.underlying70 _ 8 info_int rfl w.heap.size _ _ rfl (OwnV.alloc Hrel.out.one _) ⟨wr.heap.size, 0, none⟩ 1 (.int .i64 (k : Int)) rfl (cell_new _ _ _) rfl (by have := Hk.out; omega) (by have := Hk.out; omega) (by have := Hrel.out.bel.size; simp; omega) ?_); intro v9 W9 hown9 hg9 hn9; have Hn : Hid (PartAt w v9 u3 (thereK S (k + 1)) (missK S (k + 1)) W9) := by {rw [HN2.out.1, HN2.out.2]; exact (Hrel.out.alloc _).put2 hown9 hg9 hn9}; clear hown9 hg9 hn9 Hrel HN2)
        go_roundw
        case rel => exact ⟨k + 1, _, _, rfl, rfl, by go_num, by omega, Hn.out⟩
        case measure => simp [intOf]; omega
    · obtain rfl : k = N := by omega
      have Hd : Hid (PartAt w u2 u3 (thereL S) (missL S) wr) := by
        have := hrel.out
        rw [HN.out.1] at this
        exact this
      clear hlt hrel
      go_wp2_with fail
      go_ret2
      exact ⟨_, _, rfl, Hd.out⟩
end Go.Proofs.YtjokimlellbhjaaDoor
