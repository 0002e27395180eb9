/-
  Sets.
-/
import Derived.Test.YtffmipmkbbholaaAlTake3
namespace Go.Proofs.Ytffmipmkbbholaa
open Go.RowKit Go.Maps Go.Shelf Go.Lib Go.Sort

/-- of each drive at most k -/
def minSum (g : St) (Z D k : Nat) : Nat := sumN (fun d => min (cnt (g d) 0 Z) k) D
theorem minSum_le (g : St) (Z D k : Nat) : minSum g Z D k ≤ D * Z := by
  rw [← sumN_const Z D]
  exact sumN_le D fun d _ => Nat.le_trans (Nat.min_le_left _ _) (cnt_le _ _ _)
theorem minSum_step (g : St) (Z D k : Nat) : minSum g Z D (k + 1) * k ≤ minSum g Z D k * (k + 1) := by
  unfold minSum
  rw [Nat.mul_comm _ k, Nat.mul_comm _ (k + 1), ← sumN_mul, ← sumN_mul]
  refine sumN_le D fun d _ => ?_
  rcases Nat.le_total (cnt (g d) 0 Z) k with h | h
  · rw [Nat.min_eq_left (by omega), Nat.min_eq_left h]
    exact Nat.mul_le_mul_right _ (by omega)
  · rw [Nat.min_eq_right h, Nat.mul_comm (k + 1) k]
    exact Nat.mul_le_mul_left _ (Nat.min_le_right _ _)
/-- can so many sets and one more not be taken? -/
def noMore (g : St) (Z D n i : Nat) : Bool := decide (minSum g Z D (i + 1) < n * (i + 1))
theorem noMore_step {g : St} {Z D n i : Nat} (h : noMore g Z D n i = true) : noMore g Z D n (i + 1) = true := by
  have h1 := of_decide_eq_true h
  refine decide_eq_true ?_
  have h2 := minSum_step g Z D (i + 1)
  have h3 : minSum g Z D (i + 1) * (i + 1 + 1) < n * (i + 1) * (i + 1 + 1) := Nat.mul_lt_mul_of_pos_right h1 (by omega)
  have h4 : minSum g Z D (i + 1 + 1) * (i + 1) < (n * (i + 1 + 1)) * (i + 1) := by
    have e : n * (i + 1) * (i + 1 + 1) = (n * (i + 1 + 1)) * (i + 1) := by rw [Nat.mul_assoc, Nat.mul_comm (i + 1), ← Nat.mul_assoc]
    omega
  exact Nat.lt_of_mul_lt_mul_right h4
theorem noMore_mono {g : St} {Z D n a : Nat} (h : noMore g Z D n a = true) : ∀ k, noMore g Z D n (a + k) = true
  | 0 => h
  | k + 1 => noMore_step (noMore_mono h k)
/-- how many sets -/
def setsN (g : St) (D Z n : Nat) : Nat := (List.range (sumN (fun d => cnt (g d) 0 Z) D / n)).countP fun i => !noMore g Z D n i
def setsV (g : St) (D Z : Nat) (x : Int) : Nat := if 1 ≤ x ∧ x ≤ 32 then setsN g D Z x.toNat else 0
section
set_option maxRecDepth 100000
set_option maxHeartbeats 8000000
variable {w : World} {tb db mb cap D Z : Nat} {g : St}
theorem setsCl_any (bt bn n i : Nat) (hn : n ≤ 32) (hi : i ≤ 1000000) (h : TabAt w tb db mb cap D Z g) (k0 : w.cell? ⟨bt, 0, none⟩ = some (.pointer (some ⟨tb, 0, none⟩))) (k1 : w.cell? ⟨bn, 0, none⟩ = some (.int .i64 (n : Int))) :
    Calls Try.prog 45 #[.int .i64 (i : Int), .pointer (some ⟨bt, 0, none⟩), .pointer (some ⟨bn, 0, none⟩)] w fun e w' => e = .returned (.bool (noMore g Z D n i)) ∧ w' = w := by
  have t1 := h.t1
  have Hf : Hid (∀ d, d < D → Calls Try.prog 22 #[.pointer (some ⟨tb, 0, none⟩), .int .i64 (d : Int)] w fun e w' => e = .returned (.int .i64 (cnt (g d) 0 Z : Nat)) ∧ w' = w) := fun d hd => by
    have := freeOn_any (d : Int) h
    rw [freeOn_nat g hd] at this
    exact this
  have hD : (D : Int) ≤ 32 := by have := h.d2; omega
  have hi' : (i : Int) ≤ 1000000 := by omega
  have hn' : (n : Int) ≤ 32 := by omega
  have HDZ : Hid (D ≤ 32 ∧ Z ≤ 4096) := ⟨h.d2, h.z2⟩
  obtain ⟨i1, hi1⟩ : ∃ i1, i1 = i + 1 := ⟨_, rfl⟩
  have e1 : (i : Int) + 1 = (i1 : Int) := by omega
  have hmul : (n : Int) * (i1 : Int) = ((n * i1 : Nat) : Int) := by simp
  have hml2 : ((n * i1 : Nat) : Int) ≤ 64000000 := by
    have : n * i1 ≤ 32 * 1000001 := Nat.mul_le_mul hn (by omega)
    omega
  have hi1' : (i1 : Int) ≤ 1000001 := by omega
  have Hend : Hid (decide (minSum g Z D i1 < n * i1) = noMore g Z D n i) := by rw [hi1]; rfl
  clear h hi1 hn hi hi'
  go_enter Try.func45, Try.ntmps45
  go_wp2_with fail
  go_loopw [5, 14] (fun sv iv wr => wr = w ∧ ∃ (d s : Nat), sv = .int .i64 (s : Int) ∧ iv = .int .i64 (d : Int) ∧ d ≤ D ∧ Hid (s = minSum g Z d i1)) (fun _ iv _ => D - (intOf iv).toNat)
  case atStart => exact ⟨by trivial, 0, 0, rfl, rfl, Nat.zero_le _, rfl⟩
  case round =>
    obtain ⟨rfl, d, s, rfl, rfl, hd, hs⟩ := hrel
    by_cases hlt : d < D
    · have Hf2 := Lib.hid (Hf.out d hlt)
      have hlt' : (d : Int) < (D : Int) := by omega
      have hs2 : (s : Int) ≤ 131072 := by
        have h1 := minSum_le g Z d i1
        have h2 : d * Z ≤ 32 * 4096 := Nat.mul_le_mul (by have := HDZ.out; omega) HDZ.out.2
        rw [hs.out]; omega
      have Hn : Hid (s + min (cnt (g d) 0 Z) i1 = minSum g Z (d + 1) i1) := by show _ = _; rw [hs.out]; rfl
      have hc : ((cnt (g d) 0 Z : Nat) : Int) ≤ 4096 := by have := cnt_le (g d) 0 Z; have := HDZ.out.2; omega
      generalize cnt (g d) 0 Z = f at *
      by_cases hfi : i1 < f
      · have hfi' : (i1 : Int) < (f : Int) := by omega
        have Hn2 : Hid (s + i1 = minSum g Z (d + 1) i1) := by have := Hn.out; rw [Nat.min_eq_right (by omega)] at this; exact this
        clear hs hlt hfi Hn
        go_wp2_with fail
        refine Hf2.out.mono ?_
        rintro e w1 ⟨rfl, rfl⟩
        clear Hf2
        go_wp2_with fail
        go_roundw
        case rel => exact ⟨by trivial, d + 1, s + i1, by go_num, by go_num, by omega, Hn2.out⟩
        case measure => simp [intOf]; omega
      · have hfi' : ¬ (i1 : Int) < (f : Int) := by omega
        have Hn2 : Hid (s + f = minSum g Z (d + 1) i1) := by have := Hn.out; rw [Nat.min_eq_left (by omega)] at this; exact this
        clear hs hlt hfi Hn
        go_wp2_with fail
        refine Hf2.out.mono ?_
        rintro e w1 ⟨rfl, rfl⟩
        clear Hf2
        go_wp2_with fail
        go_roundw
        case rel => exact ⟨by trivial, d + 1, s + f, by go_num, by go_num, by omega, Hn2.out⟩
        case measure => simp [intOf]; omega
    · obtain rfl : d = D := by omega
      have Hs := hs
      have Hb : Hid (s < n * i1 ↔ (s : Int) < ((n * i1 : Nat) : Int)) := (show _ ↔ _ from by omega)
      clear hs hlt
      generalize n * i1 = nm at *
      go_wp2_with fail
      go_ret
      refine ⟨?_, by trivial⟩
      rw [← Hend.out, ← Hs.out]
      by_cases q : s < nm
      · rw [decide_eq_true q]; rfl
      · rw [decide_eq_false q]; rfl
theorem sets_any (x : Int) (h : TabAt w tb db mb cap D Z g) :
    Calls Try.prog 26 #[.pointer (some ⟨tb, 0, none⟩), .int .i64 x] w fun e w' => e = .returned (.int .i64 (setsV g D Z x : Nat)) ∧ Below w.heap.size w w' := by
  have Hmay := Lib.hid (may_any x)
  obtain ⟨W, hW⟩ : ∃ W, W = (w.alloc (.cells #[.pointer (some ⟨tb, 0, none⟩)] 27)).alloc (.cells #[.int .i64 x] 3) := ⟨_, rfl⟩
  have e1 : (w.alloc (.cells #[.pointer (some ⟨tb, 0, none⟩)] 27)).heap.size = w.heap.size + 1 := by simp
  have hb : Below w.heap.size w W := by rw [hW]; exact ((Below.refl _ w).alloc (Nat.le_refl _) _).alloc (by rw [e1]; omega) _
  have k0 : W.cell? ⟨w.heap.size, 0, none⟩ = some (.pointer (some ⟨tb, 0, none⟩)) := by rw [hW]; exact ((Cells.new w _ _).alloc _).cell rfl
  have k1 : W.cell? ⟨w.heap.size + 1, 0, none⟩ = some (.int .i64 x) := by rw [hW, ← e1]; exact (Cells.new _ _ _).cell rfl
  have hWs : W.heap.size = w.heap.size + 2 := by rw [hW]; simp
  have H0 := Lib.hid h
  have Hb := Lib.hid hb
  by_cases hx : 1 ≤ x ∧ x ≤ 32
  · have hm := fun w => Hmay.out w
    rw [decide_eq_true hx] at hm
    have Hm := Lib.hid hm
    obtain ⟨n, rfl⟩ : ∃ n : Nat, x = (n : Int) := ⟨x.toNat, by omega⟩
    have hn32 : n ≤ 32 := by omega
    rw [show setsV g D Z n = setsN g D Z n from by unfold setsV; rw [if_pos hx]; simp]
    have hcw := h.below hb
    obtain ⟨T, hT⟩ : ∃ T, T = sumN (fun d => cnt (g d) 0 Z) D := ⟨_, rfl⟩
    have Hc : Hid (∀ w1, Below W.heap.size W w1 → Calls Try.prog 20 #[.pointer (some ⟨tb, 0, none⟩), .int .i64 0] w1 fun e w' => e = .returned (.int .i64 (T : Int)) ∧ Below W.heap.size W w') := by
      intro w1 hb1
      have := count_any (0 : Int) (hcw.below hb1)
      rw [show countOf g D Z 0 = T from by rw [hT]; exact countOf_nat g D Z 0 (by omega)] at this
      exact this.mono fun e w' ⟨he, hb'⟩ => ⟨he, hb1.trans (hb'.mono hb1.size)⟩
    have hT2 : T ≤ 131072 := by
      have h1 := sum_le g Z 0 D
      have h2 : D * Z ≤ 32 * 4096 := Nat.mul_le_mul h.d2 h.z2
      omega
    have hdiv : T / n ≤ 131072 := Nat.le_trans (Nat.div_le_self _ _) hT2
    have Hs : Hid (∀ w1, Below W.heap.size W w1 → Calls Try.prog 44 #[.int .i64 ((T / n : Nat) : Int), .func (.func 45) #[] #[.pointer (some ⟨w.heap.size, 0, none⟩), .pointer (some ⟨w.heap.size + 1, 0, none⟩)]] w1 fun e w' => e = .returned (.int .i64 (setsN g D Z n : Nat)) ∧ Below W.heap.size W w') := by
      intro w1 hb1
      refine (Any.sort_Search (ρ := laySearch_ren) laySearch 45 #[.pointer (some ⟨w.heap.size, 0, none⟩), .pointer (some ⟨w.heap.size + 1, 0, none⟩)] (T / n) (noMore g Z D n) w1 (fun args w => rfl) (by omega) (fun m os i hi => ?_) (fun a b hab hbn ha => by
        obtain ⟨k, rfl⟩ : ∃ k, b = a + k := ⟨b - a, by omega⟩
        exact noMore_mono ha k)).mono ?_
      · have hb2 : Below W.heap.size W (grow (w1.drewN m) os) := hb1.trans (below_grown_sl W.heap.size w1 m os hb1.size)
        refine (setsCl_any w.heap.size (w.heap.size + 1) n i hn32 (by omega) (hcw.below hb2) ((hb2.cell (p := ⟨w.heap.size, 0, none⟩) (by show w.heap.size < _; omega)).trans k0) ((hb2.cell (p := ⟨w.heap.size + 1, 0, none⟩) (by show w.heap.size + 1 < _; omega)).trans k1)).mono ?_
        rintro e w' ⟨he, rfl⟩
        exact ⟨he, 0, #[], by rw [grow_empty]; rfl⟩
      · rintro e w' ⟨he, q, os, rfl⟩
        refine ⟨by rw [he, hT]; rfl, hb1.trans (below_grown_sl W.heap.size w1 q os hb1.size)⟩
    have hn0 : ¬ n = 0 := by omega
    have hq : (T : Int) / (n : Int) = ((T / n : Nat) : Int) := by simp
    have hqw : IntKind.i64.wrap ((T / n : Nat) : Int) = ((T / n : Nat) : Int) := (show ∀ k : Nat, k ≤ 131072 → IntKind.i64.wrap (k : Int) = (k : Int) from fun k hk => by rw [IntKind.wrap_i64]; omega) _ hdiv
    have Hk : Hid (∀ w1, Below W.heap.size W w1 → w1.cell? ⟨w.heap.size, 0, none⟩ = some (.pointer (some ⟨tb, 0, none⟩)) ∧ w1.cell? ⟨w.heap.size + 1, 0, none⟩ = some (.int .i64 (n : Int))) := fun w1 hb1 => ⟨(hb1.cell (p := ⟨w.heap.size, 0, none⟩) (by show w.heap.size < _; omega)).trans k0, (hb1.cell (p := ⟨w.heap.size + 1, 0, none⟩) (by show w.heap.size + 1 < _; omega)).trans k1⟩
    have HWr := Lib.hid (Below.refl W.heap.size W)
    have hTz : (T : Int) ≤ 131072 := by omega
    generalize T / n = q at *
    have Hb' : Hid (∀ w1, Below W.heap.size W w1 → Below w.heap.size w w1) := fun w1 hb1 => hb.trans (hb1.mono (by omega))
    clear h hx hm hcw hT hT2 hdiv Hmay hn32 hb hWs e1 H0 Hb
    go_enter Try.func26, Try.ntmps26
    go_wp2_with fail
    rw [← hW]
    clear hW
    refine (Hm.out _).mono ?_
    rintro e w1 ⟨rfl, rfl⟩
    go_wp2_with fail
    go_region_held3 (fun X => X.cell? ⟨w.heap.size, 0, none⟩ = some (.pointer (some ⟨tb, 0, none⟩)) ∧ X.cell? ⟨w.heap.size + 1, 0, none⟩ = some (.int .i64 (n : Int))) (first | exact ⟨k0, k1⟩ | exact j01 | exact j02) (first
      | (go_at_call 20; refine (Hc.out _ (by exact HWr.out.drew)).mono ?_; rintro e w3 ⟨rfl, hb3⟩; have j01 := Hk.out w3 hb3; have Hb3 := Lib.hid hb3; clear hb3)
      | (go_at_call 44; refine (Hs.out _ Hb3.out).mono ?_; rintro e w4 ⟨rfl, hb4⟩; have j02 := Hk.out w4 hb4; have Hb4 := Lib.hid hb4; clear hb4))
    all_goals
      go_wp2_with fail
      go_ret
      exact ⟨rfl, Hb'.out _ Hb4.out⟩
  · have hm := fun w => Hmay.out w
    rw [decide_eq_false hx] at hm
    have Hm := Lib.hid hm
    rw [show setsV g D Z x = 0 from if_neg hx]
    clear h hx hm Hmay hb hWs e1
    go_enter Try.func26, Try.ntmps26
    go_wp2_with fail
    rw [← hW]
    clear hW
    refine (Hm.out _).mono ?_
    rintro e w1 ⟨rfl, rfl⟩
    go_wp2_with fail
    go_ret
    exact ⟨rfl, Hb.out⟩
end
end Go.Proofs.Ytffmipmkbbholaa
