/-
  Range: stretches of a table's facts.
-/
import Derived.Test.YtghcfmkmndldoaaDoorKFa43
import Derived.Test.YtghcfmkmndldoaaDoorKFaR2
import Derived.Test.YtghcfmkmndldoaaDoorKFa9
namespace Go.Proofs.YtghcfmkmndldoaaDoor
open Go.RowKit Go.Sort Go.Lib

/-- a fact's key stands ahead of k -/
def lessK (k : ByteArray) (f : Fc) : Bool := Op.bytesLess f.1.toList k.toList
/-- the facts of keys from lo on, below hi -/
def rangeF (lo hi : ByteArray) (fs : List Fc) : List Fc := fs.filter fun f => !lessK lo f && lessK hi f
/-- how many facts have keys ahead of k -/
def cntF (fs : List Fc) (k : ByteArray) : Nat := (fs.filter (lessK k)).length
theorem filter_prefix {α : Type} (P : α → Bool) : ∀ (l : List α) (m : Nat), (∀ k f, l[k]? = some f → (P f = true ↔ k < m)) → l.filter P = l.take m
  | [], _, _ => by simp
  | a :: l, 0, h => by
    have h0 : ¬ P a = true := fun q => by have := (h 0 a rfl).1 q; omega
    rw [List.filter_cons_of_neg h0, filter_prefix P l 0 fun k f hk => by
      have := h (k + 1) f (by simpa using hk)
      constructor
      · intro q; have := this.1 q; omega
      · intro q; omega]
    simp
  | a :: l, m + 1, h => by
    have h0 : P a = true := (h 0 a rfl).2 (by omega)
    rw [List.filter_cons_of_pos h0, List.take_succ_cons, filter_prefix P l m fun k f hk => by
      have := h (k + 1) f (by simpa using hk)
      constructor
      · intro q; have := this.1 q; omega
      · intro q; exact this.2 (by omega)]
theorem posF_iff {fs : List Fc} {k : ByteArray} {i : Nat} (h : PosF fs (k, 18446744073709551615, []) i) (hs : ∀ f ∈ fs, f.2.1 < two64) : ∀ j f, fs[j]? = some f → (lessK k f = true ↔ j < i) := fun j f hj => by
  have hf := hs f (List.mem_of_getElem? hj)
  rw [two64_eq] at hf
  have ha : cmpF f (k, 18446744073709551615, []) < 0 ↔ lessK k f = true := by
    rw [cmpF_lt]
    constructor
    · rintro (q | ⟨_, q⟩)
      · exact q
      · dsimp only at q; omega
    · exact fun q => .inl q
  rw [← ha]
  constructor
  · intro q
    apply Decidable.byContradiction
    intro hn
    exact h.2.2 j f (by omega) hj q
  · exact fun q => h.2.1 j f q hj
theorem posF_cnt {fs : List Fc} {k : ByteArray} {i : Nat} (h : PosF fs (k, 18446744073709551615, []) i) (hs : ∀ f ∈ fs, f.2.1 < two64) : i = cntF fs k := by
  unfold cntF
  rw [filter_prefix (lessK k) fs i (posF_iff h hs), List.length_take]
  have := h.1
  omega
theorem cntF_le (fs : List Fc) (k : ByteArray) : cntF fs k ≤ fs.length := List.length_filter_le _ _
/-- stretches, by where keys begin -/
theorem range_eq {fs : List Fc} {lo hi : ByteArray} {i j : Nat} (h1 : PosF fs (lo, 18446744073709551615, []) i) (h2 : PosF fs (hi, 18446744073709551615, []) j) (hs : ∀ f ∈ fs, f.2.1 < two64) : (fs.take (max i j)).drop i = rangeF lo hi fs := by
  have p1 := posF_iff h1 hs
  have p2 := posF_iff h2 hs
  have e1 : rangeF lo hi fs = (fs.drop i).filter (lessK hi) := by
    unfold rangeF
    have : fs = fs.take i ++ fs.drop i := (List.take_append_drop i fs).symm
    conv => lhs; rw [this]
    rw [List.filter_append]
    have t1 : (fs.take i).filter (fun f => !lessK lo f && lessK hi f) = [] := by
      rw [List.filter_eq_nil_iff]
      intro f hf
      obtain ⟨k, hk⟩ := List.getElem?_of_mem hf
      rw [List.getElem?_take] at hk
      split at hk
      · rename_i hki
        rw [(p1 k f hk).2 hki]
        simp
      · cases hk
    have t2 : (fs.drop i).filter (fun f => !lessK lo f && lessK hi f) = (fs.drop i).filter (lessK hi) := by
      apply List.filter_congr
      intro f hf
      obtain ⟨k, hk⟩ := List.getElem?_of_mem hf
      rw [List.getElem?_drop] at hk
      have : lessK lo f = false := by
        cases q : lessK lo f with
        | false => rfl
        | true => have := (p1 _ f hk).1 q; omega
      rw [this]
      simp
    rw [t1, t2, List.nil_append]
  rw [e1, filter_prefix (lessK hi) (fs.drop i) (j - i) fun k f hk => by
    rw [List.getElem?_drop] at hk
    rw [p2 _ f hk]
    omega, List.drop_take]
  congr 1
  omega
/-- a list of facts from one place up to another -/
theorem cut2F_run (A : Option Addr) (n c lo hi : Nat) (h1 : lo ≤ hi) (h2 : hi ≤ n) (h3 : n ≤ c) (hA : A = none → c = 0) (hS : ∀ ad, A = some ad → ∃ b o, ad = ⟨b, o, none⟩) : ∃ A' : Option Addr, (∀ W : World, (Instr.sliceAt 42 (.slice A n c) (some (.int .i64 (lo : Int))) (some (.int .i64 (hi : Int))) none).run Tryd.prog W = .ok (.slice A' (hi - lo) (c - lo)) W) ∧
    ∀ w B (fs : List Fc), fs.length = n → RF w B A fs → RF w B A' ((fs.take hi).drop lo) := by
  have h4 : (lo : Int) ≤ (hi : Int) := by omega
  have h5 : (hi : Int) ≤ (c : Int) := by omega
  rcases A with _ | ad
  · have hc := hA rfl
    have : n = 0 := by omega
    have : hi = 0 := by omega
    have : lo = 0 := by omega
    subst_vars
    refine ⟨none, fun W => by simp [go_sem, sliced], fun w B fs hf hr => ?_⟩
    rw [List.take_zero, List.drop_nil]
    exact RF.nil _ _ _
  · obtain ⟨b, o, rfl⟩ := hS ad rfl
    by_cases h6 : lo < c
    · have h7 : ¬ c = lo := by omega
      have h8 : ¬ lo = c := by omega
      exact ⟨some ⟨b, o + lo * 3, none⟩, fun W => by simp [go_sem, h4, h5, h7, h8, sliced, Addr.add], fun w B fs hf hr => (hr.take hi).cut lo⟩
    · have h7 : c = lo := by omega
      have h8 : hi = lo := by omega
      subst h8
      subst h7
      refine ⟨some ⟨b, o, none⟩, fun W => by simp [go_sem, sliced], fun w B fs hf hr => ?_⟩
      rw [List.drop_eq_nil_of_le (by rw [List.length_take]; omega)]
      exact RF.nil _ _ _
section
set_option maxRecDepth 100000
set_option maxHeartbeats 8000000
theorem placeC_any (g : Nat) (A : Option Addr) (c : Nat) (fs : List Fc) (k : ByteArray) (w : World) (hc : Cells w g 131 [.slice A fs.length c]) (hl : fs.length ≤ 1099511627776) (hri : fs.Pairwise Ahead) (hr : RF w w.heap.size A fs) (hs : ∀ f ∈ fs, f.2.1 < two64) :
    Calls Tryd.prog 77 #[.pointer (some ⟨g, 0, none⟩), .string k] w fun e w' => e = .returned (.int .i64 (cntF fs k : Nat)) ∧ PosF fs (k, 18446744073709551615, []) (cntF fs k) ∧ Gr w w' := by
  refine (place_any g A c fs k w hc hl hri hr).mono ?_
  rintro e w' ⟨i, rfl, hp, hg⟩
  have := posF_cnt hp hs
  subst this
  exact ⟨rfl, hp, hg⟩
theorem range_any (g : Nat) (A : Option Addr) (c : Nat) (fs : List Fc) (lo hi : ByteArray) (n₀ : Nat) (w : World) (hc : Cells w g 131 [.slice A fs.length c]) (hl : fs.length ≤ 1099511627776) (hcc : fs.length ≤ c) (hA : A = none → c = 0) (hri : fs.Pairwise Ahead) (hn : n₀ ≤ w.heap.size) (hr : RF w n₀ A fs) (hs : ∀ f ∈ fs, f.2.1 < two64) (hS : ∀ ad, A = some ad → ∃ b o, ad = ⟨b, o, none⟩) :
    Calls Tryd.prog 79 #[.pointer (some ⟨g, 0, none⟩), .string lo, .string hi] w fun e w' => SeqP n₀ (rangeF lo hi fs) w e w' := by
  have HP : Hid (∀ k W, Below w.heap.size w W → Calls Tryd.prog 77 #[.pointer (some ⟨g, 0, none⟩), .string k] W fun e w' => e = .returned (.int .i64 (cntF fs k : Nat)) ∧ PosF fs (k, 18446744073709551615, []) (cntF fs k) ∧ Below w.heap.size w w') := fun k W hW => by
    refine (placeC_any g A c fs k W (hc.move (hW.block g hc.lt)) hl hri (((hr.wide hn).below hW).wide hW.size) hs).mono ?_
    rintro e w' ⟨rfl, hp, hg⟩
    exact ⟨rfl, hp, hW.trans (hg.below.mono hW.size)⟩
  have hi1 := cntF_le fs lo
  have hj1 := cntF_le fs hi
  have Hrng := Lib.hid (fun (p1 : PosF fs (lo, 18446744073709551615, []) (cntF fs lo)) (p2 : PosF fs (hi, 18446744073709551615, []) (cntF fs hi)) => range_eq p1 p2 hs)
  obtain ⟨A', hsl, hA'⟩ := cut2F_run A fs.length c (cntF fs lo) (max (cntF fs lo) (cntF fs hi)) (by omega) (by omega) hcc hA hS
  have Hsub : Hid (∀ W, Below w.heap.size w W → RF W n₀ A' ((fs.take (max (cntF fs lo) (cntF fs hi))).drop (cntF fs lo))) := fun W hW => hA' W n₀ fs rfl (hr.below ⟨hW.os, hW.tape, hW.output, hW.size, fun b hb => hW.block b (Nat.lt_of_lt_of_le hb hn)⟩)
  have Hsl : Hid (((fs.take (max (cntF fs lo) (cntF fs hi))).drop (cntF fs lo)).length = max (cntF fs lo) (cntF fs hi) - cntF fs lo) := by show _ = _; rw [List.length_drop, List.length_take]; omega
  have HX : Hid (∀ W, Below w.heap.size w W → W.cell? ⟨g, 0, none⟩ = some (.slice A fs.length c)) := fun W hW => (hc.move (hW.block g hc.lt)).cell rfl
  have HO := Lib.hid (fun W => over_any A' (max (cntF fs lo) (cntF fs hi) - cntF fs lo) (c - cntF fs lo) W)
  have hil : (cntF fs lo : Int) ≤ 1099511627776 := by omega
  have HP1 := Lib.hid (HP.out lo)
  have HP2 := Lib.hid (HP.out hi)
  have hjl : (cntF fs hi : Int) ≤ 1099511627776 := by omega
  obtain ⟨n, hn'⟩ : ∃ n, n = fs.length := ⟨_, rfl⟩
  rw [← hn'] at hsl HX
  generalize rangeF lo hi fs = rg at *
  generalize (fs.take (max (cntF fs lo) (cntF fs hi))).drop (cntF fs lo) = sub at *
  generalize cntF fs lo = i at *
  generalize cntF fs hi = j at *
  clear hc hl hcc hA hri hn hr hs hS hi1 hj1 hA' hn' HP
  by_cases hij : i < j
  · have hmx : max i j = j := by omega
    rw [hmx] at hsl Hsl HO
    have hij' : (i : Int) < (j : Int) := by omega
    clear hmx hij
    go_enter Tryd.func79, Tryd.ntmps79
    go_wp2_with fail
    refine (HP1.out w (Below.refl _ _)).mono ?_
    rintro e w1 ⟨rfl, hp1, hb1⟩
    have H1 : Hid (Below w.heap.size w w1 ∧ PosF fs (lo, 18446744073709551615, []) i) := ⟨hb1, hp1⟩
    have c0 := HX.out w1 hb1
    have d0 := HX.out w1.drew hb1.drew
    clear hp1 hb1 HP1
    go_upto_region 2 with fail
    go_region_law (first
      | (go_simp; go_at_call 77; refine (HP2.out _ (by first | exact H1.out.1 | exact H1.out.1.drew)).mono ?_; rintro e w2 ⟨rfl, hp2, hb2⟩; have H2 : Hid (Below w.heap.size w w2 ∧ PosF fs (hi, 18446744073709551615, []) j) := ⟨hb2, hp2⟩; have c2 := HX.out w2 hb2; have d2 := HX.out w2.drew hb2.drew; clear hp2 hb2 HP2)
      | (go_simp; go_at_call 78; refine (HO.out _).mono ?_; rintro e w3 ⟨rfl, hw3⟩; have H3 : Hid (Cells w3 w2.heap.size 42 [.slice A' (j - i) (c - i)] ∧ Below w.heap.size w w3) := (by rw [hw3]; first | exact ⟨Cells.new w2 _ _, H2.out.1.alloc H2.out.1.size _⟩ | exact ⟨Cells.new w2.drew _ _, H2.out.1.drew.alloc H2.out.1.size _⟩); clear hw3 HO))
    all_goals
      go_simp
      go_wp2_with fail
      go_ret
      exact ⟨w2.heap.size, A', c - i, rfl, by rw [← Hrng.out H1.out.2 H2.out.2, Hsl.out]; exact H3.out.1, by rw [← Hrng.out H1.out.2 H2.out.2]; exact Hsub.out w3 H3.out.2, H3.out.2⟩
  · have hmx : max i j = i := by omega
    rw [hmx, Nat.sub_self] at hsl Hsl HO
    have hij' : (i < j) = False := eq_false hij
    have hij2 : ((i : Int) < (j : Int)) = False := eq_false (by omega)
    clear hmx hij
    go_enter Tryd.func79, Tryd.ntmps79
    go_wp2_with fail
    refine (HP1.out w (Below.refl _ _)).mono ?_
    rintro e w1 ⟨rfl, hp1, hb1⟩
    have H1 : Hid (Below w.heap.size w w1 ∧ PosF fs (lo, 18446744073709551615, []) i) := ⟨hb1, hp1⟩
    have c0 := HX.out w1 hb1
    have d0 := HX.out w1.drew hb1.drew
    clear hp1 hb1 HP1
    go_upto_region 2 with fail
    go_region_law (first
      | (go_simp; go_at_call 77; refine (HP2.out _ (by first | exact H1.out.1 | exact H1.out.1.drew)).mono ?_; rintro e w2 ⟨rfl, hp2, hb2⟩; have H2 : Hid (Below w.heap.size w w2 ∧ PosF fs (hi, 18446744073709551615, []) j) := ⟨hb2, hp2⟩; have c2 := HX.out w2 hb2; have d2 := HX.out w2.drew hb2.drew; clear hp2 hb2 HP2)
      | (go_simp; go_at_call 78; refine (HO.out _).mono ?_; rintro e w3 ⟨rfl, hw3⟩; have H3 : Hid (Cells w3 w2.heap.size 42 [.slice A' 0 (c - i)] ∧ Below w.heap.size w w3) := (by rw [hw3]; first | exact ⟨Cells.new w2 _ _, H2.out.1.alloc H2.out.1.size _⟩ | exact ⟨Cells.new w2.drew _ _, H2.out.1.drew.alloc H2.out.1.size _⟩); clear hw3 HO))
    all_goals
      go_simp
      go_wp2_with fail
      go_ret
      exact ⟨w2.heap.size, A', c - i, rfl, by rw [← Hrng.out H1.out.2 H2.out.2, Hsl.out]; exact H3.out.1, by rw [← Hrng.out H1.out.2 H2.out.2]; exact Hsub.out w3 H3.out.2, H3.out.2⟩
end
end Go.Proofs.YtghcfmkmndldoaaDoor
