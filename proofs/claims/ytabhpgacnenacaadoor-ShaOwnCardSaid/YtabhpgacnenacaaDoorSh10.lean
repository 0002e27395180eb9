/-
  sha.Sum, New, Len.
-/
import Derived.Test.YtabhpgacnenacaaDoorSh9
namespace Go.Proofs.YtabhpgacnenacaaDoor
open Go.RowKit

theorem RN.of_rb {w : World} {B g : Nat} {A : Option Addr} {l : List UInt8} (h : RB w B A l) (hg : B ≤ g) : RN w B g A l := fun k x hx => by
  have h0 : 0 < l.length := by have := (List.getElem?_eq_some_iff.1 hx).1; omega
  obtain ⟨b, o, e, hb⟩ := h.flat h0
  obtain ⟨ad, e2, _, h3⟩ := h k x hx
  rw [e] at e2
  cases e2
  rw [add_flat] at h3
  exact ⟨b, o, e, hb, by omega, h3⟩
/-- THE SLICE AT A READS AS THE SLICES ls, below B -/
def RWB (w : World) (B : Nat) (A : Option Addr) (ls : List (List UInt8)) : Prop :=
  ∀ k l, ls[k]? = some l → ∃ b o A' c, A = some ⟨b, o, none⟩ ∧ b < B ∧ w.cell? ⟨b, o + k, none⟩ = some (.slice A' l.length c) ∧ RB w B A' l ∧ l.length ≤ c ∧ c ≤ 9223372036854775807 ∧ (A' = none → c = 0)
theorem RWB.below {w w' : World} {B : Nat} {A : Option Addr} {ls : List (List UInt8)} (h : RWB w B A ls) (hb : Below B w w') : RWB w' B A ls := fun k l hk => by
  obtain ⟨b, o, A', c, h1, h2, h3, h4, h5⟩ := h k l hk
  exact ⟨b, o, A', c, h1, h2, (hb.cell (p := ⟨b, o + k, none⟩) h2).trans h3, h4.below hb, h5⟩
theorem RWB.wide {w : World} {B B' : Nat} {A : Option Addr} {ls : List (List UInt8)} (h : RWB w B A ls) (hB : B ≤ B') : RWB w B' A ls := fun k l hk => by
  obtain ⟨b, o, A', c, h1, h2, h3, h4, h5⟩ := h k l hk
  exact ⟨b, o, A', c, h1, Nat.lt_of_lt_of_le h2 hB, h3, h4.wide hB, h5⟩
/-- a new slice of one slice -/
theorem RWB.one (w : World) {B : Nat} {A : Option Addr} {l : List UInt8} (c : Nat) (t : TypeId) (h : RB w B A l) (hB : B ≤ w.heap.size) (hc : l.length ≤ c) (hcm : c ≤ 9223372036854775807) (hn : A = none → c = 0) :
    RWB (w.alloc (.cells #[.slice A l.length c] t)) (w.heap.size + 1) (some ⟨w.heap.size, 0, none⟩) [l] := fun k l' hk => by
  have hk0 : k = 0 := by
    have := (List.getElem?_eq_some_iff.1 hk).1
    simp at this
    exact this
  subst hk0
  simp at hk
  subst hk
  exact ⟨_, _, A, c, rfl, Nat.lt_succ_self _, cell_new w _ _, (h.alloc hB _).wide (by omega), hc, hcm, hn⟩
theorem RWB.nil (w : World) (B : Nat) (A : Option Addr) : RWB w B A [] := fun k l h => by simp at h
theorem dg_new (w : World) : DgAt (w.alloc (.cells #[.int .u32 0, .int .u32 0, .int .u32 0, .int .u32 0, .int .u32 0, .int .u32 0, .int .u32 0, .int .u32 0, .int .i64 0, .int .u8 0, .int .u8 0, .int .u8 0, .int .u8 0, .int .u8 0, .int .u8 0, .int .u8 0, .int .u8 0, .int .u8 0, .int .u8 0, .int .u8 0, .int .u8 0, .int .u8 0, .int .u8 0, .int .u8 0, .int .u8 0, .int .u8 0, .int .u8 0, .int .u8 0, .int .u8 0, .int .u8 0, .int .u8 0, .int .u8 0, .int .u8 0, .int .u8 0, .int .u8 0, .int .u8 0, .int .u8 0, .int .u8 0, .int .u8 0, .int .u8 0, .int .u8 0, .int .u8 0, .int .u8 0, .int .u8 0, .int .u8 0, .int .u8 0, .int .u8 0, .int .u8 0, .int .u8 0, .int .u8 0, .int .u8 0, .int .u8 0, .int .u8 0, .int .u8 0, .int .u8 0, .int .u8 0, .int .u8 0, .int .u8 0, .int .u8 0, .int .u8 0, .int .u8 0, .int .u8 0, .int .u8 0, .int .u8 0, .int .u8 0, .int .u8 0, .int .u8 0, .int .u8 0, .int .u8 0, .int .u8 0, .int .u8 0, .int .u8 0, .int .u8 0] 51)) w.heap.size [] := by
  refine ⟨⟨0, 0, 0, 0, 0, 0, 0, 0⟩, List.replicate 64 0, ?_, by simp, fun h => absurd rfl h⟩
  exact Cells.new w #[.int .u32 0, .int .u32 0, .int .u32 0, .int .u32 0, .int .u32 0, .int .u32 0, .int .u32 0, .int .u32 0, .int .i64 0, .int .u8 0, .int .u8 0, .int .u8 0, .int .u8 0, .int .u8 0, .int .u8 0, .int .u8 0, .int .u8 0, .int .u8 0, .int .u8 0, .int .u8 0, .int .u8 0, .int .u8 0, .int .u8 0, .int .u8 0, .int .u8 0, .int .u8 0, .int .u8 0, .int .u8 0, .int .u8 0, .int .u8 0, .int .u8 0, .int .u8 0, .int .u8 0, .int .u8 0, .int .u8 0, .int .u8 0, .int .u8 0, .int .u8 0, .int .u8 0, .int .u8 0, .int .u8 0, .int .u8 0, .int .u8 0, .int .u8 0, .int .u8 0, .int .u8 0, .int .u8 0, .int .u8 0, .int .u8 0, .int .u8 0, .int .u8 0, .int .u8 0, .int .u8 0, .int .u8 0, .int .u8 0, .int .u8 0, .int .u8 0, .int .u8 0, .int .u8 0, .int .u8 0, .int .u8 0, .int .u8 0, .int .u8 0, .int .u8 0, .int .u8 0, .int .u8 0, .int .u8 0, .int .u8 0, .int .u8 0, .int .u8 0, .int .u8 0, .int .u8 0, .int .u8 0] 51
/-- sha.Sum under way -/
structure SuSt (w wr : World) (M : List UInt8) : Prop where
  c0 : Cells wr w.heap.size 28 (bvs (padB 32 []))
  d : DgAt wr (w.heap.size + 1) M
  bel : Below w.heap.size w wr
section
set_option maxRecDepth 100000
set_option maxHeartbeats 1000000
theorem new_any (w : World) : Calls Tryd.prog 11 #[] w fun e w' => ∃ g, e = .returned (.pointer (some ⟨g, 0, none⟩)) ∧ DgAt w' g [] ∧ Below w.heap.size w w' ∧ w.heap.size ≤ g := by
  have hz2 : ∀ w, (zeroValue 51).run Tryd.prog w = .ok (.agg #[.int .u32 0, .int .u32 0, .int .u32 0, .int .u32 0, .int .u32 0, .int .u32 0, .int .u32 0, .int .u32 0, .int .i64 0, .int .u8 0, .int .u8 0, .int .u8 0, .int .u8 0, .int .u8 0, .int .u8 0, .int .u8 0, .int .u8 0, .int .u8 0, .int .u8 0, .int .u8 0, .int .u8 0, .int .u8 0, .int .u8 0, .int .u8 0, .int .u8 0, .int .u8 0, .int .u8 0, .int .u8 0, .int .u8 0, .int .u8 0, .int .u8 0, .int .u8 0, .int .u8 0, .int .u8 0, .int .u8 0, .int .u8 0, .int .u8 0, .int .u8 0, .int .u8 0, .int .u8 0, .int .u8 0, .int .u8 0, .int .u8 0, .int .u8 0, .int .u8 0, .int .u8 0, .int .u8 0, .int .u8 0, .int .u8 0, .int .u8 0, .int .u8 0, .int .u8 0, .int .u8 0, .int .u8 0, .int .u8 0, .int .u8 0, .int .u8 0, .int .u8 0, .int .u8 0, .int .u8 0, .int .u8 0, .int .u8 0, .int .u8 0, .int .u8 0, .int .u8 0, .int .u8 0, .int .u8 0, .int .u8 0, .int .u8 0, .int .u8 0, .int .u8 0, .int .u8 0, .int .u8 0]) w := fun _ => by kernel_rfl
  have HD := Lib.hid (dg_new w)
  go_enter Tryd.func11, Tryd.ntmps11
  go_wp2_with fail
  go_ret
  exact ⟨_, rfl, HD.out, (Below.refl _ _).alloc (Nat.le_refl _) _, Nat.le_refl _⟩
theorem len_any (g : Nat) (L : List UInt8) (w : World) (hg : DgAt w g L) : Calls Tryd.prog 14 #[.pointer (some ⟨g, 0, none⟩)] w fun e w' => e = .returned (.int .i64 (L.length : Int)) ∧ w' = w := by
  obtain ⟨n, hn⟩ : ∃ n, n = L.length := ⟨_, rfl⟩
  have c8 : w.cell? ⟨g, 8, none⟩ = some (.int .i64 (n : Int)) := by
    obtain ⟨v, rest, h1, _⟩ := hg
    rw [hn]
    exact h1.cell rfl
  rw [← hn]
  clear hg hn
  go_enter Tryd.func14, Tryd.ntmps14
  go_wp2_with fail
  go_ret
  exact ⟨rfl, rfl⟩
theorem flatten_take {ls : List (List UInt8)} {i : Nat} {l : List UInt8} (h : ls[i]? = some l) : (ls.take (i + 1)).flatten = (ls.take i).flatten ++ l := by
  rw [List.take_add_one, h, List.flatten_append]; simp
theorem flatten_le (ls : List (List UInt8)) (i : Nat) : (ls.take i).flatten.length ≤ ls.flatten.length := by
  conv => rhs; rw [← List.take_append_drop i ls, List.flatten_append, List.length_append]
  omega
theorem sums_any (A : Option Addr) (c : Nat) (ls : List (List UInt8)) (w : World) (hT : NT w) (hr : RWB w w.heap.size A ls) (hl : ls.length ≤ 1000000) (hll : ls.flatten.length ≤ 800000) :
    Calls Tryd.prog 9 #[.slice A ls.length c] w fun e w' => e = .returned (.agg (bvs (shaL ls.flatten)).toArray) ∧ Below w.heap.size w w' := by
  have HT := Lib.hid hT
  have HR := Lib.hid hr
  have HL := Lib.hid (And.intro hl hll)
  have hz2 : ∀ w, (zeroValue 51).run Tryd.prog w = .ok (.agg #[.int .u32 0, .int .u32 0, .int .u32 0, .int .u32 0, .int .u32 0, .int .u32 0, .int .u32 0, .int .u32 0, .int .i64 0, .int .u8 0, .int .u8 0, .int .u8 0, .int .u8 0, .int .u8 0, .int .u8 0, .int .u8 0, .int .u8 0, .int .u8 0, .int .u8 0, .int .u8 0, .int .u8 0, .int .u8 0, .int .u8 0, .int .u8 0, .int .u8 0, .int .u8 0, .int .u8 0, .int .u8 0, .int .u8 0, .int .u8 0, .int .u8 0, .int .u8 0, .int .u8 0, .int .u8 0, .int .u8 0, .int .u8 0, .int .u8 0, .int .u8 0, .int .u8 0, .int .u8 0, .int .u8 0, .int .u8 0, .int .u8 0, .int .u8 0, .int .u8 0, .int .u8 0, .int .u8 0, .int .u8 0, .int .u8 0, .int .u8 0, .int .u8 0, .int .u8 0, .int .u8 0, .int .u8 0, .int .u8 0, .int .u8 0, .int .u8 0, .int .u8 0, .int .u8 0, .int .u8 0, .int .u8 0, .int .u8 0, .int .u8 0, .int .u8 0, .int .u8 0, .int .u8 0, .int .u8 0, .int .u8 0, .int .u8 0, .int .u8 0, .int .u8 0, .int .u8 0, .int .u8 0]) w := fun _ => by kernel_rfl
  obtain ⟨W0, hW0⟩ : ∃ W0, W0 = (w.alloc (.cells #[.int .u8 0, .int .u8 0, .int .u8 0, .int .u8 0, .int .u8 0, .int .u8 0, .int .u8 0, .int .u8 0, .int .u8 0, .int .u8 0, .int .u8 0, .int .u8 0, .int .u8 0, .int .u8 0, .int .u8 0, .int .u8 0, .int .u8 0, .int .u8 0, .int .u8 0, .int .u8 0, .int .u8 0, .int .u8 0, .int .u8 0, .int .u8 0, .int .u8 0, .int .u8 0, .int .u8 0, .int .u8 0, .int .u8 0, .int .u8 0, .int .u8 0, .int .u8 0] 28)).alloc (.cells #[.int .u32 0, .int .u32 0, .int .u32 0, .int .u32 0, .int .u32 0, .int .u32 0, .int .u32 0, .int .u32 0, .int .i64 0, .int .u8 0, .int .u8 0, .int .u8 0, .int .u8 0, .int .u8 0, .int .u8 0, .int .u8 0, .int .u8 0, .int .u8 0, .int .u8 0, .int .u8 0, .int .u8 0, .int .u8 0, .int .u8 0, .int .u8 0, .int .u8 0, .int .u8 0, .int .u8 0, .int .u8 0, .int .u8 0, .int .u8 0, .int .u8 0, .int .u8 0, .int .u8 0, .int .u8 0, .int .u8 0, .int .u8 0, .int .u8 0, .int .u8 0, .int .u8 0, .int .u8 0, .int .u8 0, .int .u8 0, .int .u8 0, .int .u8 0, .int .u8 0, .int .u8 0, .int .u8 0, .int .u8 0, .int .u8 0, .int .u8 0, .int .u8 0, .int .u8 0, .int .u8 0, .int .u8 0, .int .u8 0, .int .u8 0, .int .u8 0, .int .u8 0, .int .u8 0, .int .u8 0, .int .u8 0, .int .u8 0, .int .u8 0, .int .u8 0, .int .u8 0, .int .u8 0, .int .u8 0, .int .u8 0, .int .u8 0, .int .u8 0, .int .u8 0, .int .u8 0, .int .u8 0] 51) := ⟨_, rfl⟩
  have H0 : Hid (SuSt w W0 (ls.take 0).flatten) := by
    rw [hW0]
    refine ⟨(Cells.new w _ _).alloc _, ?_, ((Below.refl _ _).alloc (Nat.le_refl _) _).alloc (by simp) _⟩
    have := dg_new (w.alloc (.cells #[.int .u8 0, .int .u8 0, .int .u8 0, .int .u8 0, .int .u8 0, .int .u8 0, .int .u8 0, .int .u8 0, .int .u8 0, .int .u8 0, .int .u8 0, .int .u8 0, .int .u8 0, .int .u8 0, .int .u8 0, .int .u8 0, .int .u8 0, .int .u8 0, .int .u8 0, .int .u8 0, .int .u8 0, .int .u8 0, .int .u8 0, .int .u8 0, .int .u8 0, .int .u8 0, .int .u8 0, .int .u8 0, .int .u8 0, .int .u8 0, .int .u8 0, .int .u8 0] 28))
    rw [World.size_alloc] at this
    exact this
  have HW0 := Lib.hid hW0
  obtain ⟨n, hn⟩ : ∃ n, n = ls.length := ⟨_, rfl⟩
  have Hn := Lib.hid hn
  rw [← hn] at hl ⊢
  clear hT hr hll hW0 hn
  go_enter Tryd.func9, Tryd.ntmps9
  go_wp2_with fail
  rw [← HW0.out]
  clear hz2
  go_loopw [8] (fun iv wr => ∃ i : Nat, iv = .int .i64 (i : Int) ∧ i ≤ n ∧ Hid (SuSt w wr (ls.take i).flatten)) (fun iv _ => n - (intOf iv).toNat)
  case atStart => exact ⟨0, rfl, Nat.zero_le _, H0⟩
  case round =>
    obtain ⟨i, rfl, hi, Hs⟩ := hrel
    clear H0
    have hni : (n : Int) ≤ 1000000 := by omega
    by_cases hlt : i < n
    case pos =>
      obtain ⟨l, hk⟩ : ∃ l, ls[i]? = some l := ⟨_, List.getElem?_eq_getElem (by rw [← Hn.out]; exact hlt)⟩
      obtain ⟨b, o, A', c', rfl, hb, hcell, hrb, hlc, hcm, hAn⟩ := HR.out i l hk
      have k0 : wr.cell? ⟨b, o + i, none⟩ = some (.slice A' l.length c') := (Hs.out.bel.cell (p := ⟨b, o + i, none⟩) hb).trans hcell
      have htk := flatten_take hk
      have hle := flatten_le ls i
      have hle1 := flatten_le ls (i + 1)
      rw [htk, List.length_append] at hle1
      have Htk := Lib.hid htk
      have Hwr := Lib.hid (write_any (w.heap.size + 1) (ls.take i).flatten l A' c' wr (HT.out.below Hs.out.bel (Nat.le_refl _)) (by have := HT.out.2; omega) Hs.out.d (((RN.of_rb (hrb.below Hs.out.bel) (by omega : w.heap.size ≤ w.heap.size + 1)).wide Hs.out.bel.size)) hlc hcm hAn (by have := HL.out.2; omega) (by have := HL.out.2; omega))
      generalize l.length = m at *
      clear hk hb hcell hrb hlc hcm hAn htk hle hle1
      go_wp2_with fail
      refine Hwr.out.mono ?_
      rintro e w5 ⟨rfl, h5, k5⟩
      have H5 : Hid (SuSt w w5 (ls.take (i + 1)).flatten) := ⟨Hs.out.c0.move (k5.block _ Hs.out.c0.lt (by show w.heap.size ≠ w.heap.size + 1; omega)), by rw [Htk.out]; exact h5, Hs.out.bel.trans (k5.to_below (fun b hb => by show b ≠ w.heap.size + 1; omega) Hs.out.bel.size)⟩
      clear h5 k5 Hwr Hs
      go_wp2_with fail
      go_roundw
      case rel => exact ⟨i + 1, (by first | rfl | simp), by omega, H5⟩
      case measure => simp [intOf]; omega
    case neg =>
      obtain rfl : i = n := by omega
      have hge : ¬ (i : Int) < (i : Int) := by omega
      have Hs2 : Hid (SuSt w wr ls.flatten) := by have h := Hs.out; rw [List.take_of_length_le (by rw [← Hn.out]; exact Nat.le_refl _)] at h; exact h
      have Hsm := Lib.hid (sum_any (w.heap.size + 1) ls.flatten wr (HT.out.below Hs2.out.bel (Nat.le_refl _)) Hs2.out.d (by have := HL.out.2; omega))
      clear hge Hs hlt hi
      go_wp2_with fail
      refine Hsm.out.mono ?_
      rintro e w7 ⟨rfl, b7⟩
      obtain ⟨us, hus⟩ : ∃ us, us = bvs (shaL ls.flatten) := ⟨_, rfl⟩
      have hn2 : us.length = 32 := by rw [hus, bvs_length]; rfl
      rw [← hus]
      have Hus := Lib.hid hus
      have hagH : ∀ w, (isAgg 28).run Tryd.prog w = .ok true w := fun _ => by kernel_rfl
      have hszH : ∀ w, (sizeOf 28).run Tryd.prog w = .ok us.length w := by rw [hn2]; exact fun _ => by kernel_rfl
      have HH2 := Lib.hid (And.intro hagH (And.intro hszH (And.intro (show ∀ u ∈ us, u.oneCell' = true by rw [hus]; exact bvs_one _) (show us.length = (bvs (padB 32 [])).length by rw [hn2, bvs_length, padB_len (by simp)]))))
      have HP7 : Hid (Below w.heap.size w w7 ∧ Cells w7 w.heap.size 28 (bvs (padB 32 []))) := ⟨Hs2.out.bel.trans (b7.mono Hs2.out.bel.size), Hs2.out.c0.move (b7.block _ Hs2.out.c0.lt)⟩
      clear b7 hn2 hus hagH hszH Hsm
      go_wp2_with (refine st_row rfl 28 (.tmp 2) (.tmp 15) rfl rfl rfl HP7.out.2 HH2.out.2.1 HH2.out.2.2.2 HH2.out.2.2.1 ?_; intro w8 h8 k8; have H8 := Lib.hid (And.intro h8 k8); clear h8 k8)
      refine bodyPost_ret (v := .agg us.toArray) (res_row rfl _ rfl H8.out.1 HH2.out.1 HH2.out.2.1) rfl ⟨by rw [Hus.out], ?_⟩
      exact HP7.out.1.trans (H8.out.2.to_below (fun b hb => by show b ≠ w.heap.size; omega) HP7.out.1.size)
end
end Go.Proofs.YtabhpgacnenacaaDoor
