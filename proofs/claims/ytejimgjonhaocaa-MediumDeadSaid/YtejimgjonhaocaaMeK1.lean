/-
  maps.Keys of a map of numbers: the iterator; each key comes once.
-/
import Derived.Test.YtejimgjonhaocaaMeS14
import Derived.RangeFuncGives
import Derived.RangeFuncSeq
import Derived.RangeFuncBound
import Derived.Sort.MapsRangeIn
import Derived.Sort.KeysCollected
import Derived.Lib.SlKeysI
import Derived.Maps.AppendAt
import Derived.WalkKit
import Derived.OwnWalkIn
import Derived.TacticsInMore
import Derived.RegionIn
import Derived.LoopNIn
import Derived.LoopIn
import Derived.Shelf.Abstract
namespace Go.Proofs.Ytejimgjonhaocaa
open Go.RowKit Go.Maps Go.Shelf Go.Lib

theorem kV_inj {n k : Nat} (h : kV n = kV k) : n = k := by unfold kV at h; injection h with _ h; omega
theorem keyOf_u64 {key : Value} {kl : Lit} (h : keyOf Try.prog 34 key = some kl) : ∃ n : Nat, n < T64 ∧ key = kV n ∧ kl = kN n := by
  have hk := Try.underlying34
  cases key <;> simp [keyOf, hk, mapKey] at h
  rename_i q a
  obtain ⟨⟨rfl, hw⟩, rfl⟩ := h
  have hw2 : 0 ≤ a ∧ a ≤ 18446744073709551615 := by
    have e0 : IntKind.u64.min = 0 := by decide
    have e1 : IntKind.u64.max = 18446744073709551615 := by decide
    have hw : (decide (IntKind.u64.min ≤ a) && decide (a ≤ IntKind.u64.max)) = true := hw
    rw [e0, e1, Bool.and_eq_true, decide_eq_true_eq, decide_eq_true_eq] at hw
    exact hw
  obtain ⟨m, rfl⟩ : ∃ m : Nat, a = (m : Int) := ⟨a.toNat, by omega⟩
  exact ⟨m, by show m < 18446744073709551616; omega, rfl, rfl⟩
/-- no key twice; a key is on the list where the map has it and it is no longer to come -/
def CollU (g : Gm) (left : Lit → Bool) (ss : List Nat) : Prop := ss.Nodup ∧ ∀ n, n ∈ ss ↔ (n < T64 ∧ (g n).isSome = true ∧ left (kN n) = false)
/-- the map's keys, each once -/
def KeysG (g : Gm) (ss : List Nat) : Prop := ss.Nodup ∧ ∀ n, n ∈ ss ↔ (n < T64 ∧ (g n).isSome = true)
theorem CollU.start {D : DataW Value} {g : Gm} (h : VwU D g) : CollU g (Maps.has D) [] := ⟨List.nodup_nil, fun n => ⟨fun q => (by cases q), fun q => (by rw [h.has n q.1, q.2.1] at q; cases q.2.2)⟩⟩
theorem CollU.step {D : DataW Value} {g : Gm} (hV : VwU D g) {left : Lit → Bool} {ss : List Nat} (h : CollU g left ss) {n : Nat} (hn : n < T64) {y : DataW Value} (hlk : left (kN n) = true) (hat : ∀ zd, D.atKey (kN n) zd = y) : CollU g (fun z => left z && !z.sameKey (kN n)) (ss ++ [n]) := by
  have hhas : (g n).isSome = true := by rw [← hV.has n hn]; exact has_true_of_atKey hat
  have hnew : n ∉ ss := fun hx => by have := ((h.2 n).1 hx).2.2; rw [hlk] at this; cases this
  refine ⟨List.nodup_append.2 ⟨h.1, by simp, fun a ha b hb => by simp at hb; subst hb; exact fun e => hnew (e ▸ ha)⟩, fun y => ?_⟩
  by_cases hy : y = n
  · subst hy; simp [hhas, hn, Lit.sameKey, kN]
  · have hs : Lit.sameKey (kN y) (kN n) = false := by
      have : ¬ ((y : Int) = (n : Int)) := by omega
      simp [Lit.sameKey, kN, this]
    simp [h.2 y, hy, hs]
theorem CollU.all {g : Gm} {left : Lit → Bool} {ss : List Nat} (h : CollU g left ss) (hl : ∀ kl, left kl = false) : KeysG g ss := ⟨h.1, fun n => by rw [h.2 n]; simp [hl]⟩
section
set_option maxRecDepth 100000
set_option maxHeartbeats 4000000
theorem keys1_any (F : Fence) (n : Nat) (h10 : F.fn 45) (hro : F.round = none) (hn : 1 ≤ n) (l Bm b nn : Nat) (D0 : DataW Value) (g : Gm) (hV : VwU D0 g) (J : List Nat → World → Prop)
    (hY : ∀ pre x W, J pre W → pre.length < Maps.size D0 → YieldAt F (n - 1) Try.prog l #[kV x] W fun e W' => e = .returned (.bool true) ∧ J (pre ++ [x]) W' ∧ KeepsWalks W W')
    (W : World) (hJ : AbidesFrom W.heap.size J) (hm : W.cell? ⟨Bm, 0, none⟩ = some (.map (some b))) (hown : W.ownsMap Try.prog 34 RV b nn D0) (h0 : J [] W) :
    CallsIn F n Try.prog 45 #[.func (.yield l) #[] #[], .pointer (some ⟨Bm, 0, none⟩)] W fun e W' => (∃ v, e = .returned v) ∧ ∃ ss : List Nat, KeysG g ss ∧ J ss W' := by
  have hmt := Try.underlying65
  refine callsIn_of_wp Try.func45 rfl h10 ?_ hro
  simp only [Try.ntmps45, List.size_toArray, List.length_cons, List.length_nil, Nat.reduceAdd, Nat.reduceSub, Array.replicate_succ, Array.replicate_zero, List.push_toArray, List.append_toArray, List.nil_append, List.cons_append]
  gi_wp2_with (first
    | (gi_at_range; refine wpListIn_range_own _ rfl _ 65 rfl 34 75 keyU hmt _ b nn _ rfl hown ?_; intro w0 hrg0 hg0 hs0)
    | gi_in)
  go_frame
  gi_loopw [3] (fun _ wr => ∃ (left : Lit → Bool) (cnt : Nat) (ss : List Nat), wr.ranges Try.prog 34 RV b W.heap.size nn D0 left cnt ∧ ss.length + cnt ≤ Maps.size D0 ∧ CollU g left ss ∧ J ss wr)
    (fun _ wr => wr.rangeLeft b W.heap.size)
  case atStart =>
    exact ⟨_, _, [], hrg0, by simp, CollU.start hV, hJ [] W w0 none h0 hg0 (fun r e => by cases e)⟩
  case round =>
    obtain ⟨left, cnt, ss, hrg, hcs, hC, hJs⟩ := hrel
    gi_wp2_with (first
      | (gi_at_next; refine wpListIn_next_ranges _ rfl _ rfl 34 keyU RV kV id (fun key kl hk => by obtain ⟨x, _, hx, _⟩ := keyOf_u64 hk; exact ⟨x, hx⟩) (fun v _ _ => ⟨v, rfl⟩) b W.heap.size nn _ _ _ rfl hrg ?_ ?_)
      | gi_in)
    · intro hc0 hl0
      gi_wp2
      go_end0
      exact ⟨⟨_, rfl⟩, ss, hC.all hl0, hJs⟩
    · intro x c kl yd yp w2 cnt2 hkey hlk hv hat hrg2 hlt hg2 hs2 hen
      obtain ⟨x', hx64, ex, rfl⟩ := keyOf_u64 hkey
      obtain rfl : x = x' := kV_inj ex
      have hJ2 : J ss w2 := hJ ss wr w2 (some W.heap.size) hJs hg2 (fun r e => by cases e; exact ⟨Nat.le_refl _, hrg.iter_walk⟩)
      obtain ⟨fn, tmps, assign, body, hy, hR⟩ := hY ss x w2 hJ2 (by omega)
      clear hs2
      have hy2 : (Instr.yield l #[.int .u64 (x : Int)]).run Try.prog w2 = .ok (.round l fn tmps assign body) w2 := hy
      have hen2 : (Instr.entry (.pointer (some ⟨W.heap.size, 0, none⟩))).run Try.prog w2 = .ok (.tuple #[.int .u64 (x : Int), id c]) w2 := hen
      clear hy hen
      unfold kV
      gi_wp2
      refine hR.mono ?_
      rintro e W3 ⟨rfl, hJ3, hk3⟩
      gi_wp2
      have hrg3 := hrg2.of_walks hk3
      go_roundw
      case rel => exact ⟨_, cnt2, ss ++ [x], hrg3, by simp; omega, hC.step hV hx64 hlk hat, hJ3⟩
      case measure => rw [hrg3.left_eq, hrg.left_eq]; exact hlt
theorem keys_any (F : Fence) (n : Nat) (h7 : F.fn 42) (hro : F.round = none) (mb : Option Nat) (w : World) :
    CallsIn F n Try.prog 42 #[.map mb] w fun e w' => e = .returned (.func (.func 45) #[] #[.pointer (some ⟨w.heap.size, 0, none⟩)]) ∧ w' = w.alloc (.cells #[.map mb] 65) := by
  refine callsIn_of_wp Try.func42 rfl h7 ?_ hro
  simp only [Try.ntmps42, List.size_toArray, List.length_cons, List.length_nil, Nat.reduceAdd, Nat.reduceSub, Array.replicate_succ, Array.replicate_zero, List.push_toArray, List.append_toArray, List.nil_append, List.cons_append]
  gi_wp2
  go_ret
  exact ⟨rfl, rfl⟩
/-- what maps.Keys hands back gives the map's keys -/
theorem keys_gives (F : Fence) (n : Nat) (h10 : F.fn 45) (hro : F.round = none) (hn : 1 ≤ n) (Bm b N : Nat) (g : Gm) (w : World) (hBm : Bm < w.heap.size)
    (hm : w.cell? ⟨Bm, 0, none⟩ = some (.map (some b))) (hv : MapV w b g N) : SeqGives F n Try.prog 45 #[.pointer (some ⟨Bm, 0, none⟩)] kV (KeysG g) N w := fun l J W hW hJ hY h0 => by
  obtain ⟨D, hown, hV⟩ := hv
  have hown' : W.ownsMap Try.prog 34 RV b N D := by
    have hbl := hown.lt
    obtain ⟨es, clock, hb, Ft, hs, hD⟩ := hown
    exact ⟨es, clock, (hW.block b hbl).trans hb, Ft, hs, hD⟩
  have hle := hown.size_le
  exact keys1_any F n h10 hro hn l Bm b N D g hV J (fun pre x W1 h1 h2 => hY pre x W1 h1 (Nat.lt_of_lt_of_le h2 hle)) W hJ ((hW.cell (p := ⟨Bm, 0, none⟩) hBm).trans hm) hown' h0
end
end Go.Proofs.Ytejimgjonhaocaa
