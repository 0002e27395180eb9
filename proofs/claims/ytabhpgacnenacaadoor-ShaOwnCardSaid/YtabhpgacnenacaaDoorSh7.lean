/-
  Write walked, to its end.
-/
import Derived.Test.YtabhpgacnenacaaDoorSh6
namespace Go.Proofs.YtabhpgacnenacaaDoor
open Go.RowKit

theorem take_any' (g n k : Nat) (v : W8) (rest : List UInt8) (A : Option Addr) (l : List UInt8) (m c : Nat) (w : World) (hT : NT w) (hg : Cells w g 51 (dgC v n rest)) (hgt : 0 ≠ g) (hm : m = l.length) (hl : l.length = 64 * k) (hk : k ≤ 1000000) (hc : m ≤ c) (hcm : c ≤ 9223372036854775807) (hr : RX w w.heap.size g A l) :
    Calls Tryd.prog 23 #[.pointer (some ⟨g, 0, none⟩), .slice A m c] w fun e w' => e = .returned (.tuple #[]) ∧ Cells w' g 51 (dgC (blocksN k v l) n rest) ∧ Kept (fun b => b ≠ g) w w' := by
  subst hm
  exact take_any g n k v rest A l c w hT hg hgt hl hk hc hcm hr
/-- what Write leaves -/
def WrPost (w : World) (g : Nat) (M : List UInt8) (e : Ending) (w' : World) : Prop := e = .returned (.tuple #[]) ∧ (∃ v rest, Cells w' g 51 (dgC v M.length rest) ∧ DgOk v rest M) ∧ Kept (fun b => b ≠ g) w w'
section
set_option maxRecDepth 100000
set_option maxHeartbeats 2000000
theorem write_some (g : Nat) (v : W8) (rest L b : List UInt8) (A : Option Addr) (c : Nat) (w : World) (hT : NT w) (hgt : 0 ≠ g) (hg : Cells w g 51 (dgC v L.length rest)) (hD : DgOk v rest L) (hL0 : L ≠ [])
    (hr : RN w w.heap.size g A b) (hc : b.length ≤ c) (hcm : c ≤ 9223372036854775807) (hAn : A = none → c = 0) (hL : L.length ≤ 1000000) (hbl : b.length ≤ 1000000) :
    Calls Tryd.prog 12 #[.pointer (some ⟨g, 0, none⟩), .slice A b.length c] w (WrPost w g (L ++ b)) := by
  have HT := Lib.hid (And.intro hT hgt)
  have H0 : Hid (WrS w w g L.length v rest A b) := ⟨hg, hr, Kept.refl _ _⟩
  have HD := Lib.hid (And.intro hD (And.intro hL hbl))
  obtain ⟨n, hn⟩ : ∃ n, n = L.length := ⟨_, rfl⟩
  obtain ⟨m, hm⟩ : ∃ m, m = b.length := ⟨_, rfl⟩
  have Hn := Lib.hid (And.intro hn hm)
  have hn0 : 0 < n := by rw [hn]; exact List.length_pos_iff.2 hL0
  rw [← hm] at hc hbl ⊢
  rw [← hn] at hL
  have z0 : ¬ n = 0 := by omega
  have z0i : ¬ (n : Int) = 0 := by omega
  have zni : 0 ≤ (n : Int) ∧ (n : Int) ≤ 1000000 ∧ (m : Int) ≤ 1000000 := by omega
  obtain ⟨zn1, zn2, zn3⟩ := zni
  have c8 : w.cell? ⟨g, 8, none⟩ = some (.int .i64 (n : Int)) := by rw [hn]; exact hg.cell rfl
  have f8 := hg.frozen 8
  have Hn1 : Hid (WrS w (w.setCell ⟨g, 8, none⟩ (.int .i64 ((n : Int) + (m : Int)))) g (n + m) v rest A b) := H0.out.step (by have := cells_n hg (n + m); rw [Int.natCast_add] at this; exact this) (kept_set _ _ _ _)
  have hmod : n % 64 = 0 ∨ n % 64 ≠ 0 := by omega
  have Hc := Lib.hid (And.intro hc (And.intro hcm hAn))
  clear hT hgt hg hD hr hn hm hL0 hAn hcm
  obtain ⟨K, hK⟩ : ∃ K, K = 64 * (m / 64) := ⟨_, rfl⟩
  have hKi : (m : Int) - (m : Int) % 64 = (K : Int) := by omega
  have hKn : m - m % 64 = K := by omega
  have hKm : K ≤ m := by omega
  have hKmi : (K : Int) ≤ (m : Int) := by omega
  rcases hmod with hh0 | hh0
  case inl =>
    have hhi : (n : Int) % 64 = 0 := by omega
    have Hh := Lib.hid hh0
    clear hh0
    have Htk := Lib.hid (take_any' g (n + m) (m / 64) v rest A (b.take K) K c _ (HT.out.1.kept Hn1.out.k HT.out.2) Hn1.out.c HT.out.2 (by rw [List.length_take, ← Hn.out.2]; omega) (by rw [List.length_take, ← Hn.out.2]; omega) (by omega) (by have := Hc.out.1; omega) Hc.out.2.1 ((Hn1.out.r.take _).wide (by simp [World.setCell])).rx)
    have Hk := Lib.hid hK
    have hsplit : c = K ∨ (c ≠ K ∧ 0 < m) ∨ (c ≠ K ∧ m = 0) := by omega
    have HE : Hid (∀ w6, Cells w6 g 51 (dgC (blocksN (m / 64) v (b.take K)) (n + m) (b.drop K ++ rest.drop (m - K))) → Kept (fun b => b ≠ g) w w6 → WrPost w g (L ++ b) (.returned (.tuple #[])) w6) := by
      intro w6 h6 k6
      refine ⟨rfl, ⟨_, _, ?_, DgOk.whole (v := v) (rest := rest) (L := L) (b := b) HD.out.1.len HD.out.1.words (by rw [← Hn.out.1]; exact Hh.out)⟩, k6⟩
      rw [List.length_append, ← Hn.out.1, ← Hn.out.2, ← Hk.out, show m % 64 = m - K from by have := Hk.out; omega]
      exact h6
    clear hK
    have HE2 : Hid (∀ w6, Cells w6 g 51 (spl (dgC (blocksN (m / 64) v (b.take K)) (n + m) rest) 9 (bvs (b.drop K))) → Kept (fun b => b ≠ g) w w6 → WrPost w g (L ++ b) (.returned (.tuple #[])) w6) := by
      intro w6 h6 k6
      refine HE.out w6 ?_ k6
      have e := dgC_rest (blocksN (m / 64) v (b.take K)) (n + m) rest (b.drop K) 0
      rw [List.take_zero, List.nil_append, Nat.zero_add, List.length_drop, ← Hn.out.2] at e
      rw [← e]
      exact h6
    clear HE
    rcases hsplit with hs | ⟨hs, hm0⟩ | ⟨hs, hm0⟩
    case inl =>
      subst hs
      obtain rfl : m = c := by omega
      go_enter Tryd.func12, Tryd.ntmps12
      go_wp2_with fail
      refine Htk.out.mono ?_
      rintro e w5 ⟨rfl, h5, k5⟩
      have H5 := Lib.hid (Hn1.out.step h5 k5)
      clear h5 k5 Htk
      go_wp2_with fail
      go_still_tail 7, (by kernel_rfl)
      refine cp_mid rfl (.tmp 66) (.tmp 69) rfl rfl rfl (b.drop m) H5.out.c (show RB w5 0 A (b.drop m) by rw [List.drop_of_length_le (by have := Hn.out.2; omega)]; exact RB.nil _ _ _) (by rw [List.length_drop, ← Hn.out.2]; first | exact (Nat.min_eq_left (by omega)).symm | simp) (by rw [dgC_len, HD.out.1.len, List.length_drop, ← Hn.out.2]; omega) ?_
      intro w6 h6 k6
      have H6 := Lib.hid (HE2.out w6 h6 (H5.out.k.trans (show Kept (fun b => b ≠ g) w5 w6 from ⟨k6.os, k6.tape, k6.output, k6.size, k6.block⟩)))
      clear h6 k6 H5
      go_wp2_with fail
      go_end0
      exact H6.out
    case inr.inl =>
      have hcK : ¬ c = K := hs
      obtain ⟨b0, o0, rfl, hb0, -, -⟩ := H0.out.r 0 _ (List.getElem?_eq_getElem (by have := Hn.out.2; omega))
      clear hs hb0
      go_enter Tryd.func12, Tryd.ntmps12
      go_wp2_with fail
      refine Htk.out.mono ?_
      rintro e w5 ⟨rfl, h5, k5⟩
      have H5 := Lib.hid (Hn1.out.step h5 k5)
      clear h5 k5 Htk
      go_wp2_with fail
      go_still_tail 7, (by kernel_rfl)
      refine cp_mid rfl (.tmp 66) (.tmp 69) rfl rfl rfl (b.drop K) H5.out.c ((H5.out.r.cutFlat K).rb) (by rw [List.length_drop, ← Hn.out.2]; first | exact (Nat.min_eq_left (by omega)).symm | simp) (by rw [dgC_len, HD.out.1.len, List.length_drop, ← Hn.out.2]; omega) ?_
      intro w6 h6 k6
      have H6 := Lib.hid (HE2.out w6 h6 (H5.out.k.trans (show Kept (fun b => b ≠ g) w5 w6 from ⟨k6.os, k6.tape, k6.output, k6.size, k6.block⟩)))
      clear h6 k6 H5
      go_wp2_with fail
      go_end0
      exact H6.out
    case inr.inr =>
      have hcK : ¬ c = K := hs
      have hK0 : K = 0 := by have := Hk.out; omega
      subst hK0 hm0
      cases A with
      | none => exact absurd (Hc.out.2.2 rfl) hcK
      | some ad =>
        clear hs
        go_enter Tryd.func12, Tryd.ntmps12
        go_wp2_with fail
        refine Htk.out.mono ?_
        rintro e w5 ⟨rfl, h5, k5⟩
        have H5 := Lib.hid (Hn1.out.step h5 k5)
        clear h5 k5 Htk
        go_wp2_with fail
        go_still_tail 7, (by kernel_rfl)
        refine cp_mid rfl (.tmp 66) (.tmp 69) rfl rfl rfl (b.drop 0) H5.out.c (show RB w5 0 (some ad) (b.drop 0) by rw [List.drop_of_length_le (by have := Hn.out.2; omega)]; exact RB.nil _ _ _) (by rw [List.length_drop, ← Hn.out.2]; first | exact (Nat.min_eq_left (by omega)).symm | simp) (by rw [dgC_len, HD.out.1.len, List.length_drop, ← Hn.out.2]; omega) ?_
        intro w6 h6 k6
        have H6 := Lib.hid (HE2.out w6 h6 (H5.out.k.trans (show Kept (fun b => b ≠ g) w5 w6 from ⟨k6.os, k6.tape, k6.output, k6.size, k6.block⟩)))
        clear h6 k6 H5
        go_wp2_with fail
        go_end0
        exact H6.out
  case inr =>
    obtain ⟨h, hh⟩ : ∃ h, h = n % 64 := ⟨_, rfl⟩
    have hhi : (n : Int) % 64 = (h : Int) := by omega
    have hh1 : 0 < h ∧ h < 64 := by omega
    obtain ⟨hp, hp2⟩ := hh1
    have hpi : 0 < (h : Int) ∧ (h : Int) < 64 := by omega
    obtain ⟨hpi1, hpi2⟩ := hpi
    have hpi3 : (h : Int) ≤ 64 := by omega
    have hne1 : ¬ 64 = h := by omega
    have Hh := Lib.hid hh
    clear hh hh0 hK hKi hKn hKm hKmi K
    by_cases hfew : h + m < 64
    case pos =>
      have hfewi : (h : Int) + (m : Int) < 64 := by omega
      have HE : Hid (∀ w6, Cells w6 g 51 (spl (dgC v (n + m) rest) (9 + h) (bvs b)) → Kept (fun b => b ≠ g) w w6 → WrPost w g (L ++ b) (.returned (.tuple #[])) w6) := by
        intro w6 h6 k6
        rw [dgC_rest, ← Hn.out.2] at h6
        have hd := HD.out.1.few (b := b) (by rw [← Hn.out.1, ← Hn.out.2, ← Hh.out]; exact hfew)
        rw [← Hn.out.1, ← Hh.out, ← Hn.out.2] at hd
        exact ⟨rfl, ⟨_, _, by rw [List.length_append, ← Hn.out.1, ← Hn.out.2]; exact h6, hd⟩, k6⟩
      go_enter Tryd.func12, Tryd.ntmps12
      go_wp2_with (refine cp_mid rfl (.tmp 36) (.tmp 37) rfl rfl rfl b Hn1.out.c Hn1.out.r.rb (by rw [← Hn.out.2]; exact (Nat.min_eq_left (by omega)).symm) (by rw [dgC_len, HD.out.1.len, ← Hn.out.2]; omega) ?_; intro w6 h6 k6; rw [← Hn.out.2]; have H6 := Lib.hid (HE.out w6 h6 (Hn1.out.k.trans k6)); clear h6 k6)
      exact bodyPost_ret (results_none rfl _ _ _) rfl H6.out
    case neg =>
      obtain ⟨s, hs⟩ : ∃ s, h + s = 64 := ⟨64 - h, by omega⟩
      have hsm : s ≤ m := by omega
      have hsi : (h : Int) + (s : Int) = 64 := by omega
      have hsmi : (s : Int) ≤ (m : Int) := by omega
      have h64s : 64 - h = s := by omega
      obtain ⟨b0, o0, rfl, hb0, -, -⟩ := H0.out.r 0 _ (List.getElem?_eq_getElem (by have := Hn.out.2; omega))
      have Hb : Hid ((b.take s).length = s ∧ (b.drop s).length = m - s) := ⟨by rw [List.length_take, ← Hn.out.2]; omega, by rw [List.length_drop, ← Hn.out.2]⟩
      obtain ⟨R, hR⟩ : ∃ R, R = rest.take h ++ b.take s ++ rest.drop (h + s) := ⟨_, rfl⟩
      have hfill := HD.out.1.fill (b := b.take s) (by rw [← Hn.out.1, ← Hh.out, Hb.out.1]; exact hs)
      rw [← Hn.out.1, ← Hh.out, Hb.out.1, ← hR] at hfill
      have HF := Lib.hid hfill
      have HC5 : Hid (∀ w6, Cells w6 g 51 (spl (dgC v (n + m) rest) (9 + h) (bvs (b.take s))) → Cells w6 g 51 (dgC v (n + m) R)) := by
        intro w6 h6
        rw [dgC_rest, Hb.out.1, ← hR] at h6
        exact h6
      have Hs := Lib.hid (And.intro hs hfew)
      obtain ⟨V, hV⟩ : ∃ V, V = blocksN 1 v R := ⟨_, rfl⟩
      have HV : Hid (V = blocksN ((L ++ b.take s).length / 64) start8 (L ++ b.take s)) := by
        show V = _
        rw [hV, ← HF.out.2.1]
        show withL numsL v (R.take 64) = _
        rw [List.take_of_length_le (by rw [HF.out.1]; exact Nat.le_refl _)]
      have Htk1 : Hid (∀ w5, WrS w w5 g (n + m) v R (some ⟨b0, o0, none⟩) b → Calls Tryd.prog 23 #[.pointer (some ⟨g, 0, none⟩), .slice (some ⟨g, 9, none⟩) 64 64] w5 fun e w' => e = .returned (.tuple #[]) ∧ Cells w' g 51 (dgC V (n + m) R) ∧ Kept (fun b => b ≠ g) w5 w') := by
        intro w5 h5
        rw [hV]
        refine take_any' g (n + m) 1 v R _ R 64 64 w5 (HT.out.1.kept h5.k HT.out.2) h5.c HT.out.2 HF.out.1.symm HF.out.1 (by omega) (Nat.le_refl _) (by omega) ?_
        intro k x hx
        refine ⟨g, 9, rfl, h5.c.lt, .inr (Nat.le_refl _), ?_⟩
        exact h5.c.cell (by rw [dgC_at]; simp [bvs, hx])
      obtain ⟨m2, hm2⟩ : ∃ m2, m2 = m - s := ⟨_, rfl⟩
      obtain ⟨K, hK⟩ : ∃ K, K = 64 * (m2 / 64) := ⟨_, rfl⟩
      have HE : Hid (∀ w6, Cells w6 g 51 (spl (dgC (blocksN (m2 / 64) V ((b.drop s).take K)) (n + m) R) 9 (bvs ((b.drop s).drop K))) → Kept (fun b => b ≠ g) w w6 → WrPost w g (L ++ b) (.returned (.tuple #[])) w6) := by
        intro w6 h6 k6
        have hbs : (b.drop s).length = m2 := by rw [Hb.out.2, hm2]
        have e := dgC_rest (blocksN (m2 / 64) V ((b.drop s).take K)) (n + m) R ((b.drop s).drop K) 0
        rw [List.take_zero, List.nil_append, Nat.zero_add, List.length_drop, hbs] at e
        have hd := DgOk.whole (v := V) (rest := R) (L := L ++ b.take s) (b := b.drop s) HF.out.1 HV.out HF.out.2.2
        rw [List.append_assoc, List.take_append_drop, hbs, ← hK, show m2 % 64 = m2 - K from by omega] at hd
        exact ⟨rfl, ⟨_, _, by rw [List.length_append, ← Hn.out.1, ← Hn.out.2]; exact e ▸ h6, hd⟩, k6⟩
      have hKi : (m2 : Int) - (m2 : Int) % 64 = (K : Int) := by omega
      have hKn : m2 - m2 % 64 = K := by omega
      have hKm : K ≤ m2 := by omega
      have hKmi : (K : Int) ≤ (m2 : Int) := by omega
      have hm2n : m - s = m2 := hm2.symm
      have hm2i : (m2 : Int) ≤ 1000000 := by omega
      have hm2a : m2 ≤ 1000000 := by omega
      have HKm := Lib.hid (And.intro hK (And.intro hm2 hs))
      have hcs : s ≤ c := by omega
      have hcsi : (s : Int) ≤ (c : Int) := by omega
      have hnf : ¬ (h : Int) + (s : Int) < 64 := by omega
      clear hR hfill hV hK hm2 hfew hb0 hs
      by_cases hcs2 : c = s
      case pos =>
        have hm2K : m2 = 0 := by have := HKm.out; have := Hc.out.1; omega
        have hK0 : K = 0 := by have := HKm.out; omega
        have Htk : Hid (∀ w5, WrS w w5 g (n + m) V R (some ⟨b0, o0, none⟩) b → Calls Tryd.prog 23 #[.pointer (some ⟨g, 0, none⟩), .slice (some ⟨b0, o0, none⟩) 0 0] w5 fun e w' => e = .returned (.tuple #[]) ∧ Cells w' g 51 (dgC (blocksN (0 / 64) V ((b.drop s).take 0)) (n + m) R) ∧ Kept (fun b => b ≠ g) w5 w') := by
          intro w5 h5
          exact take_any' g (n + m) 0 V R _ [] 0 0 w5 (HT.out.1.kept h5.k HT.out.2) h5.c HT.out.2 rfl rfl (by omega) (Nat.le_refl _) (by omega) (RX.nil _ _ _ _)
        have HP := Lib.hid (And.intro hsi (And.intro hsmi (And.intro hKi (And.intro hKn (And.intro hKm (And.intro hKmi (And.intro hm2n (And.intro hm2i (And.intro hm2a (And.intro hcs (And.intro hcsi (And.intro hnf (And.intro hcs2 (And.intro hm2K (And.intro hK0 hsm)))))))))))))))
        clear hsi hsmi hKi hKn hKm hKmi hm2n hm2i hm2a hcs hcsi hnf hcs2 hm2K hK0
        have Hm := Lib.hid hsm
        clear hsm
        go_enter Tryd.func12, Tryd.ntmps12
        go_wp2_with (refine cp_mid rfl (.tmp 36) (.tmp 37) rfl rfl rfl (b.take s) Hn1.out.c (Hn1.out.r.take s).rb (by rw [Hb.out.1]; exact (Nat.min_eq_right Hm.out).symm) (by rw [dgC_len, HD.out.1.len, Hb.out.1]; have := HKm.out; omega) ?_; intro w5 h5 k5; rw [Hb.out.1]; have H5 := Lib.hid (Hn1.out.step (HC5.out w5 h5) k5); obtain ⟨hsi, hsmi, hKi, hKn, hKm, hKmi, hm2n, hm2i, hm2a, hcs, hcsi, hnf, hcs2, hm2K, hK0, -⟩ := HP.out; clear h5 k5)
        subst hcs2
        subst hm2K
        subst hK0
        obtain rfl : m = c := by omega
        refine (Htk1.out _ H5.out).mono ?_
        rintro e w6 ⟨rfl, h6, k6⟩
        have H6 := Lib.hid (H5.out.step h6 k6)
        clear h6 k6 H5
        go_wp2_with fail
        refine (Htk.out _ H6.out).mono ?_
        rintro e w7 ⟨rfl, h7, k7⟩
        have H7 := Lib.hid (H6.out.step h7 k7)
        clear h7 k7 H6
        go_wp2_with fail
        go_still_tail 7, (by kernel_rfl)
        refine cp_mid rfl (.tmp 66) (.tmp 69) rfl rfl rfl ((b.drop m).drop 0) H7.out.c (show RB w7 0 (some ⟨b0, o0, none⟩) ((b.drop m).drop 0) by rw [List.drop_of_length_le (by rw [Hb.out.2]; omega)]; exact RB.nil _ _ _) (by rw [List.length_drop, Hb.out.2, hm2n]; first | exact (Nat.min_eq_left (by omega)).symm | simp) (by rw [dgC_len, HF.out.1, List.length_drop, Hb.out.2, hm2n]; omega) ?_
        intro w8 h8 k8
        have H8 := Lib.hid (HE.out w8 h8 (H7.out.k.trans (show Kept (fun b => b ≠ g) w7 w8 from ⟨k8.os, k8.tape, k8.output, k8.size, k8.block⟩)))
        clear h8 k8 H7
        go_wp2_with fail
        go_end0
        exact H8.out
      case neg =>
        obtain ⟨c2, hc2⟩ : ∃ c2, c2 = c - s := ⟨_, rfl⟩
        have hc2n : c - s = c2 := hc2.symm
        have hm2c : m2 ≤ c2 := by have := HKm.out; have := Hc.out.1; omega
        have hc2m : c2 ≤ 9223372036854775807 := by have := Hc.out.2.1; omega
        have Htk : Hid (∀ w5, WrS w w5 g (n + m) V R (some ⟨b0, o0, none⟩) b → Calls Tryd.prog 23 #[.pointer (some ⟨g, 0, none⟩), .slice (some ⟨b0, o0 + s, none⟩) K c2] w5 fun e w' => e = .returned (.tuple #[]) ∧ Cells w' g 51 (dgC (blocksN (m2 / 64) V ((b.drop s).take K)) (n + m) R) ∧ Kept (fun b => b ≠ g) w5 w') := by
          intro w5 h5
          exact take_any' g (n + m) (m2 / 64) V R _ ((b.drop s).take K) K c2 w5 (HT.out.1.kept h5.k HT.out.2) h5.c HT.out.2 (by rw [List.length_take, Hb.out.2]; have := HKm.out; omega) (by rw [List.length_take, Hb.out.2]; have := HKm.out; omega) (by omega) (by omega) hc2m (((h5.r.cutFlat s).take K).wide h5.k.size).rx
        by_cases hcK : c2 = K
        case pos =>
          have hm2K : m2 = K := by omega
          have HP := Lib.hid (And.intro hsi (And.intro hsmi (And.intro hKi (And.intro hKn (And.intro hKm (And.intro hKmi (And.intro hm2n (And.intro hm2i (And.intro hm2a (And.intro hcs (And.intro hcsi (And.intro hnf (And.intro hcs2 (And.intro hc2n (And.intro hm2c (And.intro hc2m (And.intro hcK (And.intro hm2K hsm))))))))))))))))))
          clear hsi hsmi hKi hKn hKm hKmi hm2n hm2i hm2a hcs hcsi hnf hcs2 hc2n hm2c hc2m hcK hm2K hc2
          have Hm := Lib.hid hsm
          clear hsm
          go_enter Tryd.func12, Tryd.ntmps12
          go_wp2_with (refine cp_mid rfl (.tmp 36) (.tmp 37) rfl rfl rfl (b.take s) Hn1.out.c (Hn1.out.r.take s).rb (by rw [Hb.out.1]; exact (Nat.min_eq_right Hm.out).symm) (by rw [dgC_len, HD.out.1.len, Hb.out.1]; have := HKm.out; omega) ?_; intro w5 h5 k5; rw [Hb.out.1]; have H5 := Lib.hid (Hn1.out.step (HC5.out w5 h5) k5); obtain ⟨hsi, hsmi, hKi, hKn, hKm, hKmi, hm2n, hm2i, hm2a, hcs, hcsi, hnf, hcs2, hc2n, hm2c, hc2m, hcK, hm2K, -⟩ := HP.out; clear h5 k5)
          subst hcK
          subst hm2K
          refine (Htk1.out _ H5.out).mono ?_
          rintro e w6 ⟨rfl, h6, k6⟩
          have H6 := Lib.hid (H5.out.step h6 k6)
          clear h6 k6 H5
          go_wp2_with fail
          refine (Htk.out _ H6.out).mono ?_
          rintro e w7 ⟨rfl, h7, k7⟩
          have H7 := Lib.hid (H6.out.step h7 k7)
          clear h7 k7 H6
          go_wp2_with fail
          go_still_tail 7, (by kernel_rfl)
          refine cp_mid rfl (.tmp 66) (.tmp 69) rfl rfl rfl ((b.drop s).drop m2) H7.out.c (show RB w7 0 (some ⟨b0, o0 + s, none⟩) ((b.drop s).drop m2) by rw [List.drop_of_length_le (by rw [Hb.out.2, hm2n]; exact Nat.le_refl _)]; exact RB.nil _ _ _) (by rw [List.length_drop, Hb.out.2, hm2n]; first | exact (Nat.min_eq_left (by omega)).symm | simp) (by rw [dgC_len, HF.out.1, List.length_drop, Hb.out.2, hm2n]; omega) ?_
          intro w8 h8 k8
          have H8 := Lib.hid (HE.out w8 h8 (H7.out.k.trans (show Kept (fun b => b ≠ g) w7 w8 from ⟨k8.os, k8.tape, k8.output, k8.size, k8.block⟩)))
          clear h8 k8 H7
          go_wp2_with fail
          go_end0
          exact H8.out
        case neg =>
          have HP := Lib.hid (And.intro hsi (And.intro hsmi (And.intro hKi (And.intro hKn (And.intro hKm (And.intro hKmi (And.intro hm2n (And.intro hm2i (And.intro hm2a (And.intro hcs (And.intro hcsi (And.intro hnf (And.intro hcs2 (And.intro hc2n (And.intro hm2c (And.intro hc2m (And.intro hcK hsm)))))))))))))))))
          clear hsi hsmi hKi hKn hKm hKmi hm2n hm2i hm2a hcs hcsi hnf hcs2 hc2n hm2c hc2m hcK hc2
          have Hm := Lib.hid hsm
          clear hsm
          go_enter Tryd.func12, Tryd.ntmps12
          go_wp2_with (refine cp_mid rfl (.tmp 36) (.tmp 37) rfl rfl rfl (b.take s) Hn1.out.c (Hn1.out.r.take s).rb (by rw [Hb.out.1]; exact (Nat.min_eq_right Hm.out).symm) (by rw [dgC_len, HD.out.1.len, Hb.out.1]; have := HKm.out; omega) ?_; intro w5 h5 k5; rw [Hb.out.1]; have H5 := Lib.hid (Hn1.out.step (HC5.out w5 h5) k5); obtain ⟨hsi, hsmi, hKi, hKn, hKm, hKmi, hm2n, hm2i, hm2a, hcs, hcsi, hnf, hcs2, hc2n, hm2c, hc2m, hcK, -⟩ := HP.out; clear h5 k5)
          refine (Htk1.out _ H5.out).mono ?_
          rintro e w6 ⟨rfl, h6, k6⟩
          have H6 := Lib.hid (H5.out.step h6 k6)
          clear h6 k6 H5
          go_wp2_with fail
          refine (Htk.out _ H6.out).mono ?_
          rintro e w7 ⟨rfl, h7, k7⟩
          have H7 := Lib.hid (H6.out.step h7 k7)
          clear h7 k7 H6
          go_wp2_with fail
          go_still_tail 7, (by kernel_rfl)
          refine cp_mid rfl (.tmp 66) (.tmp 69) rfl rfl rfl ((b.drop s).drop K) H7.out.c (((H7.out.r.cutFlat s).cutFlat K).rb) (by rw [List.length_drop, Hb.out.2, hm2n]; first | exact (Nat.min_eq_left (by omega)).symm | simp) (by rw [dgC_len, HF.out.1, List.length_drop, Hb.out.2, hm2n]; omega) ?_
          intro w8 h8 k8
          have H8 := Lib.hid (HE.out w8 h8 (H7.out.k.trans (show Kept (fun b => b ≠ g) w7 w8 from ⟨k8.os, k8.tape, k8.output, k8.size, k8.block⟩)))
          clear h8 k8 H7
          go_wp2_with fail
          go_end0
          exact H8.out
theorem write_none (g : Nat) (v : W8) (rest b : List UInt8) (A : Option Addr) (c : Nat) (w : World) (hT : NT w) (hgt : 0 ≠ g) (hg : Cells w g 51 (dgC v 0 rest)) (hD : rest.length = 64)
    (hr : RN w w.heap.size g A b) (hc : b.length ≤ c) (hcm : c ≤ 9223372036854775807) (hAn : A = none → c = 0) (hbl : b.length ≤ 1000000) :
    Calls Tryd.prog 12 #[.pointer (some ⟨g, 0, none⟩), .slice A b.length c] w (WrPost w g b) := by
  have HT := Lib.hid (And.intro hT hgt)
  have H0 : Hid (WrS w w g 0 v rest A b) := ⟨hg, hr, Kept.refl _ _⟩
  have HD := Lib.hid (And.intro hD hbl)
  obtain ⟨u, hu⟩ : ∃ u, u = start8 := ⟨_, rfl⟩
  have Hu := Lib.hid hu
  obtain ⟨m, hm⟩ : ∃ m, m = b.length := ⟨_, rfl⟩
  have Hn := Lib.hid hm
  rw [← hm] at hc hbl ⊢
  have zn3 : (m : Int) ≤ 1000000 := by omega
  have c0 := hg.cell (i := 0) rfl
  have c1 := hg.cell (i := 1) rfl
  have c2 := hg.cell (i := 2) rfl
  have c3 := hg.cell (i := 3) rfl
  have c4 := hg.cell (i := 4) rfl
  have c5 := hg.cell (i := 5) rfl
  have c6 := hg.cell (i := 6) rfl
  have c7 := hg.cell (i := 7) rfl
  have c8 := hg.cell (i := 8) rfl
  have Hc := Lib.hid (And.intro hc (And.intro hcm hAn))
  obtain ⟨K, hK⟩ : ∃ K, K = 64 * (m / 64) := ⟨_, rfl⟩
  have hKi : (m : Int) - (m : Int) % 64 = (K : Int) := by omega
  have hKn : m - m % 64 = K := by omega
  have hKm : K ≤ m := by omega
  have hKmi : (K : Int) ≤ (m : Int) := by omega
  have Htk : Hid (∀ W, WrS w W g m u rest A b → Calls Tryd.prog 23 #[.pointer (some ⟨g, 0, none⟩), .slice A K c] W fun e w' => e = .returned (.tuple #[]) ∧ Cells w' g 51 (dgC (blocksN (m / 64) u (b.take K)) m rest) ∧ Kept (fun b => b ≠ g) W w') := by
    intro W h5
    exact take_any' g m (m / 64) u rest A (b.take K) K c W (HT.out.1.kept h5.k HT.out.2) h5.c HT.out.2 (by rw [List.length_take, ← Hn.out]; omega) (by rw [List.length_take, ← Hn.out]; omega) (by omega) (by have := Hc.out.1; omega) Hc.out.2.1 ((h5.r.take _).wide h5.k.size).rx
  have Hk := Lib.hid hK
  have hsplit : c = K ∨ (c ≠ K ∧ 0 < m) ∨ (c ≠ K ∧ m = 0) := by omega
  have HE : Hid (∀ w6, Cells w6 g 51 (spl (dgC (blocksN (m / 64) u (b.take K)) m rest) 9 (bvs (b.drop K))) → Kept (fun b => b ≠ g) w w6 → WrPost w g b (.returned (.tuple #[])) w6) := by
    intro w6 h6 k6
    have e := dgC_rest (blocksN (m / 64) u (b.take K)) m rest (b.drop K) 0
    rw [List.take_zero, List.nil_append, Nat.zero_add, List.length_drop, ← Hn.out] at e
    have hd := DgOk.whole (v := u) (rest := rest) (L := []) (b := b) HD.out.1 (by rw [Hu.out]; rfl) rfl
    rw [List.nil_append, ← Hn.out, ← Hk.out, show m % 64 = m - K from by have := Hk.out; omega] at hd
    exact ⟨rfl, ⟨_, _, by rw [← Hn.out]; exact e ▸ h6, hd⟩, k6⟩
  clear hT hgt hg hD hr hm hAn hcm hu hK
  rcases hsplit with hs | ⟨hs, hm0⟩ | ⟨hs, hm0⟩
  case inl =>
    subst hs
    obtain rfl : m = c := by omega
    go_enter Tryd.func12, Tryd.ntmps12
    go_wp2_with fail
    refine (start_any w u Hu.out).mono ?_
    rintro e wz ⟨rfl, bz⟩
    have Hz : Hid (WrS w wz g 0 v rest A b) := ⟨H0.out.c.move (bz.block _ H0.out.c.lt), H0.out.r.below bz, (Kept.refl _ _).below bz⟩
    have d0 := Hz.out.c.cell (i := 0) rfl
    have e0 := Hz.out.c.frozen 0
    have d1 := Hz.out.c.cell (i := 1) rfl
    have e1 := Hz.out.c.frozen 1
    have d2 := Hz.out.c.cell (i := 2) rfl
    have e2 := Hz.out.c.frozen 2
    have d3 := Hz.out.c.cell (i := 3) rfl
    have e3 := Hz.out.c.frozen 3
    have d4 := Hz.out.c.cell (i := 4) rfl
    have e4 := Hz.out.c.frozen 4
    have d5 := Hz.out.c.cell (i := 5) rfl
    have e5 := Hz.out.c.frozen 5
    have d6 := Hz.out.c.cell (i := 6) rfl
    have e6 := Hz.out.c.frozen 6
    have d7 := Hz.out.c.cell (i := 7) rfl
    have e7 := Hz.out.c.frozen 7
    have d8 := Hz.out.c.cell (i := 8) rfl
    have e8 := Hz.out.c.frozen 8
    have Hn1 : Hid (WrS w ((set8 wz g u).setCell ⟨g, 8, none⟩ (.int .i64 (m : Int))) g m u rest A b) := (Hz.out.step (cells_set8 Hz.out.c u) (kept_set8 _ _ _)).step (cells_n (cells_set8 Hz.out.c u) m) (kept_set _ _ _ _)
    clear bz Hz
    go_wp2_with fail
    refine (Htk.out _ Hn1.out).mono ?_
    rintro e w5 ⟨rfl, h5, k5⟩
    have H5 := Lib.hid (Hn1.out.step h5 k5)
    clear h5 k5 Htk
    go_wp2_with fail
    go_still_tail 7, (by kernel_rfl)
    refine cp_mid rfl (.tmp 66) (.tmp 69) rfl rfl rfl (b.drop m) H5.out.c (show RB w5 0 A (b.drop m) by rw [List.drop_of_length_le (by have := Hn.out; omega)]; exact RB.nil _ _ _) (by rw [List.length_drop, ← Hn.out]; first | exact (Nat.min_eq_left (by omega)).symm | simp) (by rw [dgC_len, HD.out.1, List.length_drop, ← Hn.out]; omega) ?_
    intro w6 h6 k6
    have H6 := Lib.hid (HE.out w6 h6 (H5.out.k.trans (show Kept (fun b => b ≠ g) w5 w6 from ⟨k6.os, k6.tape, k6.output, k6.size, k6.block⟩)))
    clear h6 k6 H5
    go_wp2_with fail
    go_end0
    exact H6.out
  case inr.inl =>
    have hcK : ¬ c = K := hs
    obtain ⟨b0, o0, rfl, hb0, -, -⟩ := H0.out.r 0 _ (List.getElem?_eq_getElem (by have := Hn.out; omega))
    clear hs hb0
    go_enter Tryd.func12, Tryd.ntmps12
    go_wp2_with fail
    refine (start_any w u Hu.out).mono ?_
    rintro e wz ⟨rfl, bz⟩
    have Hz : Hid (WrS w wz g 0 v rest (some ⟨b0, o0, none⟩) b) := ⟨H0.out.c.move (bz.block _ H0.out.c.lt), H0.out.r.below bz, (Kept.refl _ _).below bz⟩
    have d0 := Hz.out.c.cell (i := 0) rfl
    have e0 := Hz.out.c.frozen 0
    have d1 := Hz.out.c.cell (i := 1) rfl
    have e1 := Hz.out.c.frozen 1
    have d2 := Hz.out.c.cell (i := 2) rfl
    have e2 := Hz.out.c.frozen 2
    have d3 := Hz.out.c.cell (i := 3) rfl
    have e3 := Hz.out.c.frozen 3
    have d4 := Hz.out.c.cell (i := 4) rfl
    have e4 := Hz.out.c.frozen 4
    have d5 := Hz.out.c.cell (i := 5) rfl
    have e5 := Hz.out.c.frozen 5
    have d6 := Hz.out.c.cell (i := 6) rfl
    have e6 := Hz.out.c.frozen 6
    have d7 := Hz.out.c.cell (i := 7) rfl
    have e7 := Hz.out.c.frozen 7
    have d8 := Hz.out.c.cell (i := 8) rfl
    have e8 := Hz.out.c.frozen 8
    have Hn1 : Hid (WrS w ((set8 wz g u).setCell ⟨g, 8, none⟩ (.int .i64 (m : Int))) g m u rest (some ⟨b0, o0, none⟩) b) := (Hz.out.step (cells_set8 Hz.out.c u) (kept_set8 _ _ _)).step (cells_n (cells_set8 Hz.out.c u) m) (kept_set _ _ _ _)
    clear bz Hz
    go_wp2_with fail
    refine (Htk.out _ Hn1.out).mono ?_
    rintro e w5 ⟨rfl, h5, k5⟩
    have H5 := Lib.hid (Hn1.out.step h5 k5)
    clear h5 k5 Htk
    go_wp2_with fail
    go_still_tail 7, (by kernel_rfl)
    refine cp_mid rfl (.tmp 66) (.tmp 69) rfl rfl rfl (b.drop K) H5.out.c ((H5.out.r.cutFlat K).rb) (by rw [List.length_drop, ← Hn.out]; first | exact (Nat.min_eq_left (by omega)).symm | simp) (by rw [dgC_len, HD.out.1, List.length_drop, ← Hn.out]; omega) ?_
    intro w6 h6 k6
    have H6 := Lib.hid (HE.out w6 h6 (H5.out.k.trans (show Kept (fun b => b ≠ g) w5 w6 from ⟨k6.os, k6.tape, k6.output, k6.size, k6.block⟩)))
    clear h6 k6 H5
    go_wp2_with fail
    go_end0
    exact H6.out
  case inr.inr =>
    have hcK : ¬ c = K := hs
    have hK0 : K = 0 := by have := Hk.out; omega
    subst hK0 hm0
    cases A with
    | none => exact absurd (Hc.out.2.2 rfl) hcK
    | some ad =>
      clear hs
      go_enter Tryd.func12, Tryd.ntmps12
      go_wp2_with fail
      refine (start_any w u Hu.out).mono ?_
      rintro e wz ⟨rfl, bz⟩
      have Hz : Hid (WrS w wz g 0 v rest (some ad) b) := ⟨H0.out.c.move (bz.block _ H0.out.c.lt), H0.out.r.below bz, (Kept.refl _ _).below bz⟩
      have d0 := Hz.out.c.cell (i := 0) rfl
      have e0 := Hz.out.c.frozen 0
      have d1 := Hz.out.c.cell (i := 1) rfl
      have e1 := Hz.out.c.frozen 1
      have d2 := Hz.out.c.cell (i := 2) rfl
      have e2 := Hz.out.c.frozen 2
      have d3 := Hz.out.c.cell (i := 3) rfl
      have e3 := Hz.out.c.frozen 3
      have d4 := Hz.out.c.cell (i := 4) rfl
      have e4 := Hz.out.c.frozen 4
      have d5 := Hz.out.c.cell (i := 5) rfl
      have e5 := Hz.out.c.frozen 5
      have d6 := Hz.out.c.cell (i := 6) rfl
      have e6 := Hz.out.c.frozen 6
      have d7 := Hz.out.c.cell (i := 7) rfl
      have e7 := Hz.out.c.frozen 7
      have d8 := Hz.out.c.cell (i := 8) rfl
      have e8 := Hz.out.c.frozen 8
      have Hn1 : Hid (WrS w ((set8 wz g u).setCell ⟨g, 8, none⟩ (.int .i64 ((0 : Nat) : Int))) g 0 u rest (some ad) b) := (Hz.out.step (cells_set8 Hz.out.c u) (kept_set8 _ _ _)).step (cells_n (cells_set8 Hz.out.c u) 0) (kept_set _ _ _ _)
      clear bz Hz
      go_wp2_with fail
      refine (Htk.out _ Hn1.out).mono ?_
      rintro e w5 ⟨rfl, h5, k5⟩
      have H5 := Lib.hid (Hn1.out.step h5 k5)
      clear h5 k5 Htk
      go_wp2_with fail
      go_still_tail 7, (by kernel_rfl)
      refine cp_mid rfl (.tmp 66) (.tmp 69) rfl rfl rfl (b.drop 0) H5.out.c (show RB w5 0 (some ad) (b.drop 0) by rw [List.drop_of_length_le (by have := Hn.out; omega)]; exact RB.nil _ _ _) (by rw [List.length_drop, ← Hn.out]; first | exact (Nat.min_eq_left (by omega)).symm | simp) (by rw [dgC_len, HD.out.1, List.length_drop, ← Hn.out]; omega) ?_
      intro w6 h6 k6
      have H6 := Lib.hid (HE.out w6 h6 (H5.out.k.trans (show Kept (fun b => b ≠ g) w5 w6 from ⟨k6.os, k6.tape, k6.output, k6.size, k6.block⟩)))
      clear h6 k6 H5
      go_wp2_with fail
      go_end0
      exact H6.out
/-- Write, whatever was written -/
def DgAt (w : World) (g : Nat) (L : List UInt8) : Prop := ∃ v rest, Cells w g 51 (dgC v L.length rest) ∧ rest.length = 64 ∧ (L ≠ [] → DgOk v rest L)
theorem DgAt.move {w w' : World} {g : Nat} {L : List UInt8} (h : DgAt w g L) (e : w'.heap[g]? = w.heap[g]?) : DgAt w' g L := by
  obtain ⟨v, rest, h1, h2⟩ := h
  exact ⟨v, rest, h1.move e, h2⟩
theorem DgAt.lt {w : World} {g : Nat} {L : List UInt8} (h : DgAt w g L) : g < w.heap.size := by obtain ⟨v, rest, h1, h2⟩ := h; exact h1.lt
theorem write_any (g : Nat) (L b : List UInt8) (A : Option Addr) (c : Nat) (w : World) (hT : NT w) (hgt : 0 ≠ g) (hg : DgAt w g L)
    (hr : RN w w.heap.size g A b) (hc : b.length ≤ c) (hcm : c ≤ 9223372036854775807) (hAn : A = none → c = 0) (hL : L.length ≤ 1000000) (hbl : b.length ≤ 1000000) :
    Calls Tryd.prog 12 #[.pointer (some ⟨g, 0, none⟩), .slice A b.length c] w fun e w' => e = .returned (.tuple #[]) ∧ DgAt w' g (L ++ b) ∧ Kept (fun b => b ≠ g) w w' := by
  obtain ⟨v, rest, h1, h2, h3⟩ := hg
  have post : ∀ e w', WrPost w g (L ++ b) e w' → e = .returned (.tuple #[]) ∧ DgAt w' g (L ++ b) ∧ Kept (fun b => b ≠ g) w w' := by
    rintro e w' ⟨q1, ⟨v', r', q2, q3⟩, q4⟩
    exact ⟨q1, ⟨v', r', q2, q3.len, fun _ => q3⟩, q4⟩
  by_cases h0 : L = []
  · subst h0
    exact (write_none g v rest b A c w hT hgt h1 h2 hr hc hcm hAn hbl).mono post
  · exact (write_some g v rest L b A c w hT hgt h1 (h3 h0) h0 hr hc hcm hAn hL hbl).mono post
end
end Go.Proofs.YtabhpgacnenacaaDoor
