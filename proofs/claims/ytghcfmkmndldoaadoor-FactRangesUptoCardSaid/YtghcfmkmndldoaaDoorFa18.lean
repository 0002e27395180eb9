/-
  slices.BinarySearchFunc over facts; place, Len.
-/
import Derived.Test.YtghcfmkmndldoaaDoorKFa3
namespace Go.Proofs.YtghcfmkmndldoaaDoor
open Go.RowKit Go.Sort Go.Lib

def LowF (fs : List Fc) (t : Fc) (i : Nat) : Prop := ∀ k f, k < i → fs[k]? = some f → cmpF f t < 0
def HighF (fs : List Fc) (t : Fc) (j : Nat) : Prop := ∀ k f, j ≤ k → fs[k]? = some f → ¬ cmpF f t < 0
/-- i is where facts from t on begin -/
def PosF (fs : List Fc) (t : Fc) (i : Nat) : Prop := i ≤ fs.length ∧ LowF fs t i ∧ HighF fs t i
/-- what the search answers -/
def SrP (fs : List Fc) (t : Fc) (w : World) (e : Ending) (w' : World) : Prop := ∃ (i : Nat) (v : Value), e = .returned (.tuple #[.int .i64 (i : Int), v]) ∧ PosF fs t i ∧ Gr w w'
section
set_option maxRecDepth 100000
set_option maxHeartbeats 40000000
theorem search_any (A : Option Addr) (c : Nat) (fs : List Fc) (t : Fc) (vt : Value) (w : World) (hl : fs.length ≤ 1099511627776) (hri : fs.Pairwise Ahead) (hr : RF w w.heap.size A fs) :
    Calls Tryd.prog 108 #[.slice A fs.length c, fcV t vt, .func (.func 21) #[] #[]] w fun e w' => SrP fs t w e w' := by
  obtain ⟨tk, ts, tl⟩ := t
  unfold fcV
  dsimp only
  obtain ⟨W, hW⟩ : ∃ W, W = w.alloc (.cells #[.string tk, .int .u64 (ts : Int), vt] 40) := ⟨_, rfl⟩
  have hC : Cells W w.heap.size 40 [.string tk, .int .u64 (ts : Int), vt] := by rw [hW]; exact Cells.new w _ _
  have hG : Gr w W := by rw [hW]; exact Gr.alloc w _
  have HC : Hid (Cells W w.heap.size 40 [.string tk, .int .u64 (ts : Int), vt] ∧ Gr w W ∧ RF W W.heap.size A fs) := ⟨hC, hG, (hr.gr hG (Nat.le_refl _)).wide hG.below.size⟩
  have hl' : ((fs.length : Nat) : Int) ≤ 1099511627776 := by omega
  have Hlen : Hid (∀ k : Nat, k < fs.length → ∃ u, fs[k]? = some u) := fun k hk => ⟨_, List.getElem?_eq_getElem hk⟩
  have Hri : Hid (∀ i k f g, i < k → fs[i]? = some f → fs[k]? = some g → Ahead f g) := fun i k f g hik hf hg => by
    obtain ⟨h1, rfl⟩ := List.getElem?_eq_some_iff.1 hf
    obtain ⟨h2, rfl⟩ := List.getElem?_eq_some_iff.1 hg
    exact List.pairwise_iff_getElem.1 hri i k h1 h2 hik
  have Hc := Lib.hid cmp_any
  unfold fcV at Hc
  obtain ⟨n, hn⟩ : ∃ n, n = fs.length := ⟨_, rfl⟩
  rw [← hn] at hl' Hlen ⊢
  have Hn := Lib.hid hn
  clear hC hG hr hri hl hn
  go_enter Tryd.func108, Tryd.ntmps108
  go_upto_region 1 with fail
  rw [← hW]
  clear hW
  go_wp2_with fail
  go_loopw [9, 10] (fun iv jv wr => ∃ i j : Nat, iv = .int .i64 (i : Int) ∧ jv = .int .i64 (j : Int) ∧ i ≤ j ∧ j ≤ n ∧ Hid (LowF fs (tk, ts, tl) i) ∧ Hid (HighF fs (tk, ts, tl) j) ∧ Hid (Gr W wr)) (fun iv jv _ => (intOf jv - intOf iv).toNat)
  case atStart => exact ⟨0, n, rfl, rfl, Nat.zero_le _, Nat.le_refl _, fun k f h => absurd h (Nat.not_lt_zero k), (fun k f h hf => by have h1 := (List.getElem?_eq_some_iff.1 hf).1; have := Hn.out; omega : HighF fs (tk, ts, tl) n), Gr.refl W⟩
  case round =>
    obtain ⟨i, j, rfl, rfl, hij, hjn, hlo, hhi, hg⟩ := hrel
    by_cases hlt : i < j
    · obtain ⟨h, hh⟩ : ∃ h, h = (i + j) / 2 := ⟨_, rfl⟩
      have hh1 : i ≤ h ∧ h < j := by omega
      obtain ⟨f, hf⟩ := Hlen.out h (by omega)
      have hrw := HC.out.2.2.gr hg.out (Nat.le_refl _)
      obtain ⟨b, o, V, rfl, hblt, c0, c1, c2, _⟩ := hrw.at_ hf
      have hCw := HC.out.1.move (hg.out.below.block _ HC.out.1.lt)
      have t0 := hCw.cell (i := 0) rfl
      have t1 := hCw.cell (i := 1) rfl
      have t2 := hCw.cell (i := 2) rfl
      have hlt' : (i : Int) < (j : Int) := by omega
      have hw1 : IntKind.i64.wrap ((i : Int) + (j : Int)) = (i : Int) + (j : Int) := by rw [IntKind.wrap_i64]; omega
      have hw2 : IntKind.u64.wrap ((i : Int) + (j : Int)) = (i : Int) + (j : Int) := by rw [IntKind.wrap_u64]; omega
      have hw3 : ((i : Int) + (j : Int)) / 2 = (h : Int) := by omega
      have hw4 : IntKind.i64.wrap (h : Int) = (h : Int) := by rw [IntKind.wrap_i64]; omega
      have hhn : (h : Int) < (n : Int) := by omega
      have hhn2 : h < n := by omega
      have hw5 : IntKind.i64.wrap ((h : Int) + 1) = (h : Int) + 1 := by rw [IntKind.wrap_i64]; omega
      have Hcc := Lib.hid (fun w1 => Hc.out f (tk, ts, tl) V vt w1)
      have Hw : Hid (∀ w1, Gr wr w1 → Gr W w1) := fun w1 h1 => hg.out.trans h1
      have Hlow : Hid (cmpF f (tk, ts, tl) < 0 → LowF fs (tk, ts, tl) (h + 1)) := fun hc k g hk hgk => by
        by_cases hkh : k = h
        · subst hkh; rw [hf] at hgk; cases hgk; exact hc
        · exact cmpF_lt.2 ((Hri.out k h g f (by omega) hgk hf).trans (cmpF_lt.1 hc))
      have Hhigh : Hid (¬ cmpF f (tk, ts, tl) < 0 → HighF fs (tk, ts, tl) h) := fun hc k g hk hgk q => by
        by_cases hkh : k = h
        · subst hkh; rw [hf] at hgk; cases hgk; exact hc q
        · exact hc (cmpF_lt.2 ((Hri.out h k f g (by omega) hf hgk).trans (cmpF_lt.1 q)))
      generalize cmpF f (tk, ts, tl) = cv at Hlow Hhigh Hcc
      obtain ⟨ka, sa, la⟩ := f
      dsimp only at c0 c1 c2 Hcc
      have Hlo := hlo
      have Hhi := hhi
      have HCC : Hid (h = (i + j) / 2 ∧ i ≤ h ∧ h < j ∧ j ≤ n) := ⟨hh, hh1.1, hh1.2, hjn⟩
      clear hf hrw hg hlo hhi hh hh1 hCw Hri Hlen
      have d0 : wr.drew.cell? ⟨b, o + h * 3, none⟩ = some (.string ka) := c0
      have d1 : wr.drew.cell? ⟨b, o + h * 3 + 1, none⟩ = some (.int .u64 (sa : Int)) := c1
      have d2 : wr.drew.cell? ⟨b, o + h * 3 + 2, none⟩ = some V := c2
      have e0 : wr.drew.cell? ⟨w.heap.size, 0, none⟩ = some (.string tk) := t0
      have e1 : wr.drew.cell? ⟨w.heap.size, 1, none⟩ = some (.int .u64 (ts : Int)) := t1
      have e2 : wr.drew.cell? ⟨w.heap.size, 2, none⟩ = some vt := t2
      by_cases hq : cv < 0
      · have Ha := Lib.hid (Hlow.out hq)
        clear Hlow Hhigh
        go_upto_region 5 with fail
        clear hw1 hw2 hw3 hw4
        go_region_with (go_at_call 21; refine (Hcc.out _).mono ?_; rintro e w3 ⟨rfl, h3⟩; have H3 := Lib.hid h3; clear h3)
        all_goals
          go_wp2_with fail
          exact ⟨⟨h + 1, j, by go_num, rfl, by have := HCC.out; omega, HCC.out.2.2.2, Ha.out, Hhi.out, (by first | exact Hw.out _ H3.out | exact Hw.out _ ((Gr.drewN wr 1).trans H3.out))⟩, by have := HCC.out; simp [intOf]; omega⟩
      · have Ha := Lib.hid (Hhigh.out hq)
        clear Hlow Hhigh
        go_upto_region 5 with fail
        clear hw1 hw2 hw3 hw4
        go_region_with (go_at_call 21; refine (Hcc.out _).mono ?_; rintro e w3 ⟨rfl, h3⟩; have H3 := Lib.hid h3; clear h3)
        all_goals
          go_wp2_with fail
          exact ⟨⟨i, h, rfl, rfl, HCC.out.2.1, by have := HCC.out; omega, Hlo.out, Ha.out, (by first | exact Hw.out _ H3.out | exact Hw.out _ ((Gr.drewN wr 1).trans H3.out))⟩, by have := HCC.out; simp [intOf]; omega⟩
    · obtain rfl : i = j := by omega
      have hlt' : ¬ (i : Int) < (i : Int) := by omega
      have HP : Hid (PosF fs (tk, ts, tl) i) := ⟨by rw [← Hn.out]; exact hjn, hlo.out, hhi.out⟩
      have Hg := hg
      clear hlo hhi
      by_cases hin : i < n
      · obtain ⟨f, hf⟩ := Hlen.out i hin
        have hrw := HC.out.2.2.gr hg.out (Nat.le_refl _)
        obtain ⟨b, o, V, rfl, hblt, c0, c1, c2, _⟩ := hrw.at_ hf
        have hCw := HC.out.1.move (hg.out.below.block _ HC.out.1.lt)
        have t0 := hCw.cell (i := 0) rfl
        have t1 := hCw.cell (i := 1) rfl
        have t2 := hCw.cell (i := 2) rfl
        have hin' : (i : Int) < (n : Int) := by omega
        have Hcc := Lib.hid (fun w1 => Hc.out f (tk, ts, tl) V vt w1)
        have Hw : Hid (∀ w1, Gr wr w1 → Gr w w1) := fun w1 h1 => (HC.out.2.1.trans Hg.out).trans h1
        generalize cmpF f (tk, ts, tl) = cv at Hcc
        obtain ⟨ka, sa, la⟩ := f
        dsimp only at c0 c1 c2 Hcc
        clear hf hrw hg hCw Hri Hlen
        have d0 : wr.drew.cell? ⟨b, o + i * 3, none⟩ = some (.string ka) := c0
        have d1 : wr.drew.cell? ⟨b, o + i * 3 + 1, none⟩ = some (.int .u64 (sa : Int)) := c1
        have d2 : wr.drew.cell? ⟨b, o + i * 3 + 2, none⟩ = some V := c2
        have e0 : wr.drew.cell? ⟨w.heap.size, 0, none⟩ = some (.string tk) := t0
        have e1 : wr.drew.cell? ⟨w.heap.size, 1, none⟩ = some (.int .u64 (ts : Int)) := t1
        have e2 : wr.drew.cell? ⟨w.heap.size, 2, none⟩ = some vt := t2
        go_upto_region 8 with fail
        go_region_with (go_at_call 21; refine (Hcc.out _).mono ?_; rintro e w3 ⟨rfl, h3⟩; have H3 := Lib.hid h3; clear h3)
        all_goals
          go_wp2_with fail
          exact bodyPost_ret (v := .tuple #[.int .i64 (i : Int), .bool (cv == 0)]) (by simp [results, Tryd.results108, go_sem]) rfl ⟨i, _, rfl, HP.out, (by first | exact Hw.out _ H3.out | exact Hw.out _ ((Gr.drewN wr 1).trans H3.out))⟩
      · have hin' : ¬ (i : Int) < (n : Int) := by omega
        go_upto_region 8 with fail
        go_quiet (fail)
        go_wp2_with fail
        exact bodyPost_ret (v := .tuple #[.int .i64 (i : Int), .bool false]) (by simp [results, Tryd.results108, go_sem]) rfl ⟨i, _, rfl, HP.out, (HC.out.2.1.trans Hg.out).trans (Gr.drewN wr nq)⟩
end
end Go.Proofs.YtghcfmkmndldoaaDoor
