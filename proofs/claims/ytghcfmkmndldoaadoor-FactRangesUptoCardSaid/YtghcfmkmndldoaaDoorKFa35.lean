/-
  The law's known: the walk.
-/
import Derived.Test.YtghcfmkmndldoaaDoorKFa43
import Derived.Lib.SlBytesConst
import Derived.Test.YtghcfmkmndldoaaDoorKFaR2
import Derived.Test.YtghcfmkmndldoaaDoorKFa3
namespace Go.Proofs.YtghcfmkmndldoaaDoor
open Go.RowKit Go.Sort Go.Lib

theorem RB.mark1 (w : World) (cs : Array Value) (t : TypeId) (fr : Nat × Nat) (l : List UInt8) (h : cs.toList = bvs l) : RB (w.alloc (.cells cs t fr)) (w.heap.size + 1) (some ⟨w.heap.size, 0, none⟩) l := fun k x hx => by
  refine ⟨_, rfl, by show w.heap.size < _; omega, ?_⟩
  have e : (⟨w.heap.size, 0, none⟩ : Addr).add k = ⟨w.heap.size, k, none⟩ := by unfold Addr.add; split <;> simp_all
  have hb : (w.alloc (.cells cs t fr)).heap[w.heap.size]? = some (.cells cs t fr) := heap_alloc_new _ _
  have hk : cs[k]? = some (.int .u8 (x.toNat : Int)) := by rw [← Array.getElem?_toList, h]; simp [bvs, hx, bv]
  rw [e]
  unfold World.cell?
  dsimp only
  rw [hb]
  exact hk
/-- what Open answers where there is no error -/
def TabP (w w' : World) (v : Value) (fs : List Fc) : Prop := ∃ g u, v = .pointer (some ⟨g, 0, none⟩) ∧ w.heap.size ≤ g ∧ g < w'.heap.size ∧ Cells w' g 131 [u] ∧ RowO w' w.heap.size u fs
section
set_option maxRecDepth 100000
set_option maxHeartbeats 8000000
theorem known11_any (w : World) (ht : Tab w) : Calls Tryd.prog 19 #[] w fun e w' => e = .returned (.bool true) ∧ Below w.heap.size w w' := by
  have Ht := Lib.hid ht
  have kc := fun (w : World) (C : Array Value) (n c : Nat) => Lib.run_convert_bytes_const (P := Tryd.prog) w 25 5 C n c Tryd.underlying25 Tryd.underlying5
  have HB0 : Hid (Calls Tryd.prog 28 #[.slice none 0 0, .int .i64 10] w fun e w' => ∃ A c, e = .returned (.tuple #[.slice A 16 c, .int .i64 0]) ∧ 16 ≤ c ∧ RB w' w'.heap.size A (buildB [] 10) ∧ Below w.heap.size w w') := by
    refine Calls.mono (build_any none 0 [] 10 w ht (by simp) (by simp) ⟨fun f h => by (cases h), by show 0 ≤ _; omega⟩ (RF.nil _ _ _)) ?_
    rintro e w' ⟨v, rfl, ho, hb⟩
    obtain ⟨A, c, rfl, h1, h2, _⟩ := ho.rb
    rw [k_len0] at h1
    exact ⟨A, c, by rw [k_len0, k_build0]; rfl, h1, h2, hb⟩
  have HO0 : Hid (∀ A c W, 16 ≤ c → Tab W → RB W W.heap.size A (buildB [] 10) → Calls Tryd.prog 30 #[.slice A 16 c] W fun e w' => ∃ v, e = .returned (.tuple #[v, .int .i64 0]) ∧ TabP W w' v [] ∧ Below W.heap.size W w') := fun A c W h1 h2 h3 => by
    have := open_any A c (buildB [] 10) W h2 h3 (by rw [k_len0]; omega) (by rw [k_len0]; exact h1)
    rw [k_len0, k_open0] at this
    refine this.mono ?_
    rintro e w' ⟨v, rfl, hp, hb⟩
    exact ⟨v, rfl, hp.2 rfl, hb⟩
  obtain ⟨nb, hnb⟩ : ∃ nb, nb = (buildB [kFact] 10).length := ⟨_, rfl⟩
  have HB1 : Hid (∀ A c W, 1 ≤ c → Tab W → RF W W.heap.size A [kFact] → Calls Tryd.prog 28 #[.slice A 1 c, .int .i64 10] W fun e w' => ∃ A' c', e = .returned (.tuple #[.slice A' nb c', .int .i64 0]) ∧ nb ≤ c' ∧ RB w' w'.heap.size A' (buildB [kFact] 10) ∧ Below W.heap.size W w') := fun A c W h1 h2 h3 => by
    refine Calls.mono (build_any A c [kFact] 10 W h2 (by simp) h1 ⟨fun f h => by rw [List.mem_singleton.1 h]; exact ⟨by show 1 ≤ _; omega, by show 1 ≤ _; omega⟩, by rw [k_blk]; omega⟩ h3) ?_
    rintro e w' ⟨v, rfl, ho, hb⟩
    obtain ⟨A', c', rfl, q1, q2, _⟩ := ho.rb
    rw [← hnb] at q1
    exact ⟨A', c', by rw [hnb, k_build1]; rfl, q1, q2, hb⟩
  have HO1 : Hid (∀ A c W, nb ≤ c → Tab W → RB W W.heap.size A (buildB [kFact] 10) → Calls Tryd.prog 30 #[.slice A nb c] W fun e w' => ∃ v, e = .returned (.tuple #[v, .int .i64 0]) ∧ TabP W w' v [kFact] ∧ Below W.heap.size W w') := fun A c W h1 h2 h3 => by
    have := open_any A c (buildB [kFact] 10) W h2 h3 (by have := k_len1; omega) (by rw [← hnb]; exact h1)
    rw [← hnb, k_open1] at this
    refine this.mono ?_
    rintro e w' ⟨v, rfl, hp, hb⟩
    exact ⟨v, rfl, hp.2 rfl, hb⟩
  clear ht hnb
  go_enter Tryd.func19, Tryd.ntmps19
  go_wp2_with fail
  refine HB0.out.mono ?_
  rintro e w1 ⟨A1, c1, rfl, h1, h2, hb1⟩
  have H1 : Hid (16 ≤ c1 ∧ RB w1 w1.heap.size A1 (buildB [] 10) ∧ Below w.heap.size w w1) := ⟨h1, h2, hb1⟩
  clear h1 h2 hb1 HB0
  go_wp2_with fail
  refine (HO0.out A1 c1 w1 H1.out.1 (Ht.out.below H1.out.2.2 Ht.out.pos) H1.out.2.1).mono ?_
  rintro e w2 ⟨t1, rfl, ⟨g1, u1, rfl, hg1, hg2, hc1, hr1⟩, hb2⟩
  have H2 : Hid (Cells w2 g1 131 [u1] ∧ RowO w2 w1.heap.size u1 [] ∧ Below w.heap.size w w2) := ⟨hc1, hr1, H1.out.2.2.trans (hb2.mono H1.out.2.2.size)⟩
  clear hg1 hg2 hc1 hr1 hb2 HO0
  have HW : Hid (∀ W, W = ((w2.alloc (.cells #[.int .u8 118] 5 (1, 2))).alloc (.cells #[.string ⟨#[107]⟩, .int .u64 3, .slice (some ⟨w2.heap.size, 0, none⟩) 1 1] 40)) → Below w2.heap.size w2 W ∧ RF W W.heap.size (some ⟨w2.heap.size + 1, 0, none⟩) [kFact]) := fun W hW => by
    have e1 : (w2.alloc (.cells #[.int .u8 118] 5 (1, 2))).heap.size = w2.heap.size + 1 := by simp
    refine ⟨by rw [hW]; exact ((Below.refl _ _).alloc (Nat.le_refl _) _).alloc (by simp) _, [(kFact, .slice (some ⟨w2.heap.size, 0, none⟩) 1 1)], rfl, ?_, fun p hp => ?_⟩
    · have h := RP.one (w2.alloc (.cells #[.int .u8 118] 5 (1, 2))) kFact (.slice (some ⟨w2.heap.size, 0, none⟩) 1 1)
      rw [e1] at h
      rw [hW]
      exact h.wide (by simp)
    · have : p = (kFact, .slice (some ⟨w2.heap.size, 0, none⟩) 1 1) := by simpa using hp
      subst this
      refine ⟨⟨_, 1, rfl, Nat.le_refl _, (fun e => by cases e), ?_⟩, by show 3 < _; rw [two64_eq]; omega⟩
      have h := RB.mark1 w2 #[.int .u8 118] 5 (1, 2) [118] rfl
      rw [hW]
      exact (h.alloc (by simp) _).wide (by simp)
  go_upto_region 3 with fail
  go_wp2_with fail
  obtain ⟨hW1, hW2⟩ := HW.out _ rfl
  have HbW : Hid (Below w.heap.size w _) := H2.out.2.2.trans (hW1.mono H2.out.2.2.size)
  have HbW2 := Lib.hid hW1
  refine (HB1.out _ 1 _ (Nat.le_refl 1) (Ht.out.below HbW.out Ht.out.pos) hW2).mono ?_
  clear hW1 hW2 HW HB1
  rintro e w3 ⟨A3, c3, rfl, h1, h2, hb3⟩
  have H3 : Hid (nb ≤ c3 ∧ RB w3 w3.heap.size A3 (buildB [kFact] 10) ∧ Below w.heap.size w w3 ∧ Below w2.heap.size w2 w3) := ⟨h1, h2, HbW.out.trans (hb3.mono HbW.out.size), HbW2.out.trans (hb3.mono HbW2.out.size)⟩
  clear h1 h2 hb3 HbW HbW2
  go_wp2_with fail
  refine (HO1.out A3 c3 w3 H3.out.1 (Ht.out.below H3.out.2.2.1 Ht.out.pos) H3.out.2.1).mono ?_
  rintro e w4 ⟨t4, rfl, ⟨g2, u2, rfl, hg1, hg2, hc2, hr2⟩, hb4⟩
  obtain ⟨A5, c5, rfl, q1, q2, q3, q4⟩ := hr2.rd
  have HG : Hid (∀ W k, Below w4.heap.size w4 W → Calls Tryd.prog 33 #[.pointer (some ⟨g2, 0, none⟩), .string k] W fun e w' => GetP [kFact] k W e w') := fun W k hW =>
    tget_any g2 A5 c5 [kFact] k W (hc2.move (hW.block g2 hc2.lt)) (by simp) q1 (List.pairwise_singleton _ _) ((q3.below hW).wide hW.size) (fun f hf => by rw [List.mem_singleton.1 hf]; show 1 ≤ _; omega)
  have H4 : Hid (Below w.heap.size w w4 ∧ Below w2.heap.size w2 w4) := ⟨H3.out.2.2.1.trans (hb4.mono H3.out.2.2.1.size), H3.out.2.2.2.trans (hb4.mono H3.out.2.2.2.size)⟩
  clear hg1 hg2 hc2 hr2 hb4 q1 q2 q3 q4 HO1
  go_wp2_with fail
  refine (HG.out _ _ (Below.refl _ _)).mono ?_
  intro e w5 h
  obtain ⟨hb5, V5, rfl, ho5⟩ := k_get h
  obtain ⟨A6, c6, rfl, _⟩ := ho5.rb
  have H5 : Hid (Below w4.heap.size w4 w5 ∧ Own w5 w4.heap.size (.slice A6 1 c6) [118]) := ⟨hb5, ho5⟩
  clear hb5 ho5 h
  obtain ⟨W6, hW6⟩ : ∃ W6, W6 = w5.alloc (.cells #[.string ⟨#[107]⟩, .int .u64 3, .slice A6 1 c6] 40) := ⟨_, rfl⟩
  have H6 : Hid (Cells W6 w5.heap.size 40 [.string ⟨#[107]⟩, .int .u64 3, .slice A6 1 c6] ∧ Below w5.heap.size w5 W6) := ⟨by rw [hW6]; exact Cells.new w5 _ _, by rw [hW6]; exact (Below.refl _ _).alloc (Nat.le_refl _) _⟩
  go_upto_region 8 with fail
  rw [← hW6]
  clear hW6
  go_wp2_with fail
  refine (HG.out _ _ (H5.out.1.trans (H6.out.2.mono H5.out.1.size))).mono ?_
  intro e w7 h
  obtain ⟨hb7, rfl⟩ := k_get2 h
  obtain ⟨W8, hW8⟩ : ∃ W8, W8 = w7.alloc (.cells #[.string ⟨#[]⟩, .int .u64 0, .slice none 0 0] 40) := ⟨_, rfl⟩
  have hb8 : Below W6.heap.size W6 W8 := by rw [hW8]; exact hb7.alloc hb7.size _
  have hb58 : Below w5.heap.size w5 W8 := H6.out.2.trans (hb8.mono H6.out.2.size)
  have hb28 : Below w2.heap.size w2 W8 := H4.out.2.trans ((H5.out.1.trans (hb58.mono H5.out.1.size)).mono H4.out.2.size)
  have hb08 : Below w.heap.size w W8 := H4.out.1.trans ((H5.out.1.trans (hb58.mono H5.out.1.size)).mono H4.out.1.size)
  have hc8 := H6.out.1.move (hb8.block _ H6.out.1.lt)
  obtain ⟨A0, c0, rfl, _⟩ := H2.out.2.1.rd
  have hg8 : Cells W8 g1 131 [.slice A0 0 c0] := H2.out.1.move (hb28.block _ H2.out.1.lt)
  have HLn := Lib.hid (len_any g1 A0 0 c0 W8 hg8 (by omega))
  have f1 := hc8.cell (i := 1) rfl
  have f2 := hc8.cell (i := 2) rfl
  obtain ⟨A9, c9, e9, _, hr9, _⟩ := (H5.out.2.below hb58).rb
  cases e9
  have hcv : (convert 25 9 (.slice A6 1 c6)).run Tryd.prog W8 = .ok (.string ⟨#[118]⟩) W8 := text_run W8 W8.heap.size A6 [118] c6 hr9
  have Hb08 := Lib.hid hb08
  clear hb7 hb8 hb58 hb28 hb08 hc8 hg8 hr9 h
  go_upto_region 9 with fail
  rw [← hW8]
  clear hW8
  go_wp2_with fail
  refine HLn.out.mono ?_
  rintro e w10 ⟨rfl, rfl⟩
  go_wp2_with fail
  go_ret
  exact ⟨rfl, Hb08.out⟩
end
end Go.Proofs.YtghcfmkmndldoaaDoor

/-
  FactSteps: the walk.
-/
namespace Go.Proofs.YtghcfmkmndldoaaDoor
open Go.RowKit Go.Sort Go.Lib

/-- a merge of two lists, or three, at a slice built just now -/
theorem RFF.two {w : World} {Aa Ab : Option Addr} {ca cb : Nat} {xs ys : List Fc} (ha : RF w w.heap.size Aa xs) (hb : RF w w.heap.size Ab ys) (la : xs.length ≤ ca) (lb : ys.length ≤ cb) :
    RFF (w.alloc (.cells #[.slice Aa xs.length ca, .slice Ab ys.length cb] 42)) (w.heap.size + 1) (some ⟨w.heap.size, 0, none⟩) [xs, ys] := fun k l hk => by
  have hc := Cells.new w #[.slice Aa xs.length ca, .slice Ab ys.length cb] 42
  have hbl : Below w.heap.size w (w.alloc (.cells #[.slice Aa xs.length ca, .slice Ab ys.length cb] 42)) := (Below.refl _ _).alloc (Nat.le_refl _) _
  rcases k with _ | _ | k
  · cases hk
    exact ⟨_, 0, Aa, ca, rfl, Nat.lt_succ_self _, hc.cell (i := 0) rfl, la, (ha.below hbl).wide (Nat.le_succ _)⟩
  · cases hk
    exact ⟨_, 0, Ab, cb, rfl, Nat.lt_succ_self _, hc.cell (i := 1) rfl, lb, (hb.below hbl).wide (Nat.le_succ _)⟩
  · simp at hk
theorem RFF.three {w : World} {Aa Ab Ac : Option Addr} {ca cb cc : Nat} {xs ys zs : List Fc} (ha : RF w w.heap.size Aa xs) (hb : RF w w.heap.size Ab ys) (hc' : RF w w.heap.size Ac zs) (la : xs.length ≤ ca) (lb : ys.length ≤ cb) (lc : zs.length ≤ cc) :
    RFF (w.alloc (.cells #[.slice Aa xs.length ca, .slice Ab ys.length cb, .slice Ac zs.length cc] 42)) (w.heap.size + 1) (some ⟨w.heap.size, 0, none⟩) [xs, ys, zs] := fun k l hk => by
  have hc := Cells.new w #[.slice Aa xs.length ca, .slice Ab ys.length cb, .slice Ac zs.length cc] 42
  have hbl : Below w.heap.size w (w.alloc (.cells #[.slice Aa xs.length ca, .slice Ab ys.length cb, .slice Ac zs.length cc] 42)) := (Below.refl _ _).alloc (Nat.le_refl _) _
  rcases k with _ | _ | _ | k
  · cases hk
    exact ⟨_, 0, Aa, ca, rfl, Nat.lt_succ_self _, hc.cell (i := 0) rfl, la, (ha.below hbl).wide (Nat.le_succ _)⟩
  · cases hk
    exact ⟨_, 0, Ab, cb, rfl, Nat.lt_succ_self _, hc.cell (i := 1) rfl, lb, (hb.below hbl).wide (Nat.le_succ _)⟩
  · cases hk
    exact ⟨_, 0, Ac, cc, rfl, Nat.lt_succ_self _, hc.cell (i := 2) rfl, lc, (hc'.below hbl).wide (Nat.le_succ _)⟩
  · simp at hk
/-- each value is short -/
def Short (fs : List Fc) : Prop := fs.length ≤ 4194304 ∧ rightF fs = true ∧ ∀ f ∈ fs, f.2.2.length ≤ 1099511627776
theorem two_of {xs ys : List Fc} (hx : Short xs) (hy : Short ys) : mergE [xs, ys] = 0 ∧ mergB [xs, ys] = twoF xs ys := by
  have h : mergE [xs, ys] = 0 := by unfold mergE; simp [hx.2.1, hy.2.1]
  refine ⟨h, ?_⟩
  unfold mergB
  rw [if_pos h]
  unfold mergeF
  rw [List.foldl_cons, List.foldl_cons, List.foldl_nil, nil_twoF]
theorem twoF_ok {xs ys : List Fc} (hx : Short xs) (hy : Short ys) : rightF (twoF xs ys) = true ∧ (twoF xs ys).length ≤ xs.length + ys.length ∧ ∀ f ∈ twoF xs ys, f.2.2.length ≤ 1099511627776 :=
  ⟨rightF_pair.2 (twoF_right (rightF_pair.1 hx.2.1) (rightF_pair.1 hy.2.1)), twoF_length xs ys, fun f hf => by
    rcases twoF_mem xs ys f hf with h | h
    · exact hx.2.2 f h
    · exact hy.2.2 f h⟩
theorem merge_two (w : World) (Aa Ab : Option Addr) (ca cb na nb : Nat) (xs ys : List Fc) (en : na = xs.length) (em : nb = ys.length) (hx : Short xs) (hy : Short ys) (ha : RF w w.heap.size Aa xs) (hb : RF w w.heap.size Ab ys) (la : na ≤ ca) (lb : nb ≤ cb) :
    Calls Tryd.prog 25 #[.slice (some ⟨w.heap.size, 0, none⟩) 2 2] (w.alloc (.cells #[.slice Aa na ca, .slice Ab nb cb] 42)) fun e w' => ∃ v, e = .returned (.tuple #[v, .int .i64 0]) ∧ RowO w' w.heap.size v (twoF xs ys) ∧ Below w.heap.size w w' := by
  subst en
  subst em
  obtain ⟨e1, e2⟩ := two_of hx hy
  have hs : sumL [xs, ys] = xs.length + ys.length := by simp [sumL]
  have hsz : (w.alloc (.cells #[.slice Aa xs.length ca, .slice Ab ys.length cb] 42)).heap.size = w.heap.size + 1 := by simp
  have := merge_any (some ⟨w.heap.size, 0, none⟩) 2 [xs, ys] (w.alloc (.cells #[.slice Aa xs.length ca, .slice Ab ys.length cb] 42)) (by simp) (by simp) (by rw [hs]; have := hx.1; have := hy.1; omega)
    (fun l hl f hf => by
      simp only [List.mem_cons, List.not_mem_nil, or_false] at hl
      rcases hl with rfl | rfl
      · exact hx.2.2 f hf
      · exact hy.2.2 f hf) (by rw [hsz]; exact RFF.two ha hb la lb)
  rw [e1, e2] at this
  refine this.mono ?_
  rintro e w' ⟨v, rfl, h1, h2⟩
  refine ⟨v, rfl, RowO.wide h1 (by rw [hsz]; omega), ?_⟩
  exact ((Below.refl _ _).alloc (Nat.le_refl _) _).trans (h2.mono (by rw [hsz]; omega))
theorem merge_three (w : World) (Aa Ab Ac : Option Addr) (ca cb cc na nb nc : Nat) (xs ys zs : List Fc) (en : na = xs.length) (em : nb = ys.length) (eo : nc = zs.length) (hx : Short xs) (hy : Short ys) (hz : Short zs) (ha : RF w w.heap.size Aa xs) (hb : RF w w.heap.size Ab ys) (hc : RF w w.heap.size Ac zs) (la : na ≤ ca) (lb : nb ≤ cb) (lc : nc ≤ cc) :
    Calls Tryd.prog 25 #[.slice (some ⟨w.heap.size, 0, none⟩) 3 3] (w.alloc (.cells #[.slice Aa na ca, .slice Ab nb cb, .slice Ac nc cc] 42)) fun e w' => ∃ v, e = .returned (.tuple #[v, .int .i64 0]) ∧ RowO w' w.heap.size v (twoF (twoF xs ys) zs) ∧ Below w.heap.size w w' := by
  subst en
  subst em
  subst eo
  have e1 : mergE [xs, ys, zs] = 0 := by unfold mergE; simp [hx.2.1, hy.2.1, hz.2.1]
  have e2 : mergB [xs, ys, zs] = twoF (twoF xs ys) zs := by
    unfold mergB
    rw [if_pos e1]
    unfold mergeF
    rw [List.foldl_cons, List.foldl_cons, List.foldl_cons, List.foldl_nil, nil_twoF]
  have hs : sumL [xs, ys, zs] = xs.length + (ys.length + zs.length) := by simp [sumL]
  have hsz : (w.alloc (.cells #[.slice Aa xs.length ca, .slice Ab ys.length cb, .slice Ac zs.length cc] 42)).heap.size = w.heap.size + 1 := by simp
  have := merge_any (some ⟨w.heap.size, 0, none⟩) 3 [xs, ys, zs] (w.alloc (.cells #[.slice Aa xs.length ca, .slice Ab ys.length cb, .slice Ac zs.length cc] 42)) (by simp) (by simp) (by rw [hs]; have := hx.1; have := hy.1; have := hz.1; omega)
    (fun l hl f hf => by
      simp only [List.mem_cons, List.not_mem_nil, or_false] at hl
      rcases hl with rfl | rfl | rfl
      · exact hx.2.2 f hf
      · exact hy.2.2 f hf
      · exact hz.2.2 f hf) (by rw [hsz]; exact RFF.three ha hb hc la lb lc)
  rw [e1, e2] at this
  refine this.mono ?_
  rintro e w' ⟨v, rfl, h1, h2⟩
  refine ⟨v, rfl, RowO.wide h1 (by rw [hsz]; omega), ?_⟩
  exact ((Below.refl _ _).alloc (Nat.le_refl _) _).trans (h2.mono (by rw [hsz]; omega))
end Go.Proofs.YtghcfmkmndldoaaDoor

/-
  FactSteps: the walk.
-/
namespace Go.Proofs.YtghcfmkmndldoaaDoor
open Go.RowKit Go.Sort Go.Lib

/-- a list of facts that a law is handed -/
def ArgF (w : World) (A : Option Addr) (c : Nat) (fs : List Fc) : Prop := RF w w.heap.size A fs ∧ fs.length ≤ c ∧ fs.length ≤ 1048576 ∧ sumF fs ≤ 4611686018427387904 ∧ ∀ f ∈ fs, f.2.2.length ≤ 1099511627776
section
set_option maxRecDepth 100000
set_option maxHeartbeats 8000000
theorem argF_few {w : World} {A : Option Addr} {c : Nat} {fs : List Fc} (h : ArgF w A c fs) (n : Nat) (hn : n = fs.length) : ∃ b, ∀ W, Below w.heap.size w W → Calls Tryd.prog 20 #[.slice A n c, .int .i64 400] W fun e w' => e = .returned (.bool b) ∧ Below w.heap.size w w' := by
  subst hn
  refine ⟨decide ((fs.length : Int) ≤ 400) && decide (sumF fs ≤ 131072), fun W hW => (few_any A c fs 400 W (by have := h.2.2.1; omega) h.2.2.2.1 ((h.1.below hW).wide hW.size)).mono ?_⟩
  rintro e w' ⟨rfl, hb⟩
  exact ⟨rfl, hW.trans (hb.mono hW.size)⟩
theorem argF_right {w : World} {A : Option Addr} {c : Nat} {fs : List Fc} (h : ArgF w A c fs) (n : Nat) (hn : n = fs.length) : ∀ W, Below w.heap.size w W → Calls Tryd.prog 24 #[.slice A n c] W fun e w' => e = .returned (.bool (rightF fs)) ∧ Below w.heap.size w w' := by
  subst hn
  refine fun W hW => (rright_any A c fs W (by have := h.2.2.1; omega) ((h.1.below hW).wide hW.size)).mono ?_
  rintro e w' ⟨rfl, hb⟩
  exact ⟨rfl, hW.trans (hb.below.mono hW.size)⟩
theorem steps_any (A0 A1 A2 : Option Addr) (c0 c1 c2 : Nat) (ps qs rs : List Fc) (w : World) (ht : Tab w) (h0 : ArgF w A0 c0 ps) (h1 : ArgF w A1 c1 qs) (h2 : ArgF w A2 c2 rs) :
    Calls Tryd.prog 10 #[.slice A0 ps.length c0, .slice A1 qs.length c1, .slice A2 rs.length c2] w fun e w' => e = .returned (.bool true) ∧ Below w.heap.size w w' := by
  have HK := Lib.hid (known11_any w ht)
  obtain ⟨n0, hn0⟩ : ∃ n0, n0 = ps.length := ⟨_, rfl⟩
  obtain ⟨n1, hn1⟩ : ∃ n1, n1 = qs.length := ⟨_, rfl⟩
  obtain ⟨n2, hn2⟩ : ∃ n2, n2 = rs.length := ⟨_, rfl⟩
  rw [← hn0, ← hn1, ← hn2]
  obtain ⟨b0, hf0⟩ := argF_few h0 n0 hn0
  obtain ⟨b1, hf1⟩ := argF_few h1 n1 hn1
  obtain ⟨b2, hf2⟩ := argF_few h2 n2 hn2
  have HF0 := Lib.hid hf0
  have HF1 := Lib.hid hf1
  have HF2 := Lib.hid hf2
  have HR0 := Lib.hid (argF_right h0 n0 hn0)
  have HR1 := Lib.hid (argF_right h1 n1 hn1)
  have HR2 := Lib.hid (argF_right h2 n2 hn2)
  have HA : Hid (ArgF w A0 c0 ps ∧ ArgF w A1 c1 qs ∧ ArgF w A2 c2 rs ∧ n0 = ps.length ∧ n1 = qs.length ∧ n2 = rs.length) := ⟨h0, h1, h2, hn0, hn1, hn2⟩
  obtain ⟨r0, hr0⟩ : ∃ r, r = rightF ps := ⟨_, rfl⟩
  obtain ⟨r1, hr1⟩ : ∃ r, r = rightF qs := ⟨_, rfl⟩
  obtain ⟨r2, hr2⟩ : ∃ r, r = rightF rs := ⟨_, rfl⟩
  rw [← hr0] at HR0
  rw [← hr1] at HR1
  rw [← hr2] at HR2
  have Hr : Hid (r0 = rightF ps ∧ r1 = rightF qs ∧ r2 = rightF rs) := ⟨hr0, hr1, hr2⟩
  clear hf0 hf1 hf2 h0 h1 h2 hn0 hn1 hn2 hr0 hr1 hr2 ht
  go_enter Tryd.func10, Tryd.ntmps10
  go_wp2_with fail
  refine HK.out.mono ?_
  rintro e w1 ⟨rfl, hb1⟩
  have H1 := Lib.hid hb1
  clear hb1 HK
  go_wp2_with fail
  refine (HF0.out w1 H1.out).mono ?_
  rintro e w2 ⟨rfl, hb2⟩
  have H2 := Lib.hid hb2
  clear hb2 HF0 H1
  cases b0 with
  | false =>
    go_wp2_with fail
    go_ret
    exact ⟨rfl, H2.out⟩
  | true =>
  go_wp2_with fail
  refine (HF1.out w2 H2.out).mono ?_
  rintro e w3 ⟨rfl, hb3⟩
  have H3 := Lib.hid hb3
  clear hb3 HF1 H2
  cases b1 with
  | false =>
    go_wp2_with fail
    go_ret
    exact ⟨rfl, H3.out⟩
  | true =>
  go_wp2_with fail
  refine (HF2.out w3 H3.out).mono ?_
  rintro e w4 ⟨rfl, hb4⟩
  have H4 := Lib.hid hb4
  clear hb4 HF2 H3
  cases b2 with
  | false =>
    go_wp2_with fail
    go_ret
    exact ⟨rfl, H4.out⟩
  | true =>
  go_wp2_with fail
  refine (HR0.out w4 H4.out).mono ?_
  rintro e w5 ⟨rfl, hb5⟩
  have H5 := Lib.hid hb5
  clear hb5 HR0 H4
  cases r0 with
  | false =>
    go_wp2_with fail
    go_ret
    exact ⟨rfl, H5.out⟩
  | true =>
  go_wp2_with fail
  refine (HR1.out w5 H5.out).mono ?_
  rintro e w6 ⟨rfl, hb6⟩
  have H6 := Lib.hid hb6
  clear hb6 HR1 H5
  cases r1 with
  | false =>
    go_wp2_with fail
    go_ret
    exact ⟨rfl, H6.out⟩
  | true =>
  go_wp2_with fail
  refine (HR2.out w6 H6.out).mono ?_
  rintro e w7 ⟨rfl, hb7⟩
  have H7 := Lib.hid hb7
  clear hb7 HR2 H6
  cases r2 with
  | false =>
    go_wp2_with fail
    go_ret
    exact ⟨rfl, H7.out⟩
  | true =>
  have HS : Hid (Short ps ∧ Short qs ∧ Short rs) := by
    obtain ⟨h0, h1, h2, _⟩ := HA.out
    obtain ⟨q0, q1, q2⟩ := Hr.out
    exact ⟨⟨by have := h0.2.2.1; omega, q0.symm, h0.2.2.2.2⟩, ⟨by have := h1.2.2.1; omega, q1.symm, h1.2.2.2.2⟩, ⟨by have := h2.2.2.1; omega, q2.symm, h2.2.2.2.2⟩⟩
  have HR : Hid (∀ W, Below w.heap.size w W → RF W W.heap.size A0 ps ∧ RF W W.heap.size A1 qs ∧ RF W W.heap.size A2 rs) := fun W hW => by
    obtain ⟨h0, h1, h2, _⟩ := HA.out
    exact ⟨(h0.1.below hW).wide hW.size, (h1.1.below hW).wide hW.size, (h2.1.below hW).wide hW.size⟩
  have HN : Hid (n0 = ps.length ∧ n1 = qs.length ∧ n2 = rs.length ∧ n0 ≤ c0 ∧ n1 ≤ c1 ∧ n2 ≤ c2) := by
    obtain ⟨h0, h1, h2, e0, e1, e2⟩ := HA.out
    exact ⟨e0, e1, e2, by rw [e0]; exact h0.2.1, by rw [e1]; exact h1.2.1, by rw [e2]; exact h2.2.1⟩
  have Hs2 : Hid (Short (twoF ps qs) ∧ Short (twoF qs rs) ∧ twoF (twoF ps qs) rs = twoF ps (twoF qs rs) ∧ rightF (twoF (twoF ps qs) rs) = true ∧ (twoF (twoF ps qs) rs).length ≤ 1099511627776) := by
    obtain ⟨h0, h1, h2, _⟩ := HA.out
    obtain ⟨s0, s1, s2⟩ := HS.out
    obtain ⟨t1, t2, t3⟩ := twoF_ok s0 s1
    obtain ⟨u1, u2, u3⟩ := twoF_ok s1 s2
    have l0 := h0.2.2.1
    have l1 := h1.2.2.1
    have l2 := h2.2.2.1
    have S1 : Short (twoF ps qs) := ⟨by omega, t1, t3⟩
    have S2 : Short (twoF qs rs) := ⟨by omega, u1, u3⟩
    obtain ⟨v1, v2, _⟩ := twoF_ok S1 s2
    exact ⟨S1, S2, twoF_assoc (rightF_pair.1 s0.2.1) (rightF_pair.1 s1.2.1) (rightF_pair.1 s2.2.1), v1, by omega⟩
  clear HA Hr
  go_wp2_with fail
  obtain ⟨k0, k1, k2⟩ := HR.out w7 H7.out
  refine (merge_three w7 A0 A1 A2 c0 c1 c2 n0 n1 n2 ps qs rs HN.out.1 HN.out.2.1 HN.out.2.2.1 HS.out.1 HS.out.2.1 HS.out.2.2 k0 k1 k2 HN.out.2.2.2.1 HN.out.2.2.2.2.1 HN.out.2.2.2.2.2).mono ?_
  clear k0 k1 k2
  rintro e w8 ⟨v8, rfl, ho8, hb8⟩
  have H8 : Hid (RowO w8 w7.heap.size v8 (twoF (twoF ps qs) rs) ∧ Below w.heap.size w w8) := ⟨ho8, H7.out.trans (hb8.mono H7.out.size)⟩
  clear ho8 hb8
  go_wp2_with fail
  obtain ⟨k0, k1, k2⟩ := HR.out w8 H8.out.2
  refine (merge_two w8 A0 A1 c0 c1 n0 n1 ps qs HN.out.1 HN.out.2.1 HS.out.1 HS.out.2.1 k0 k1 HN.out.2.2.2.1 HN.out.2.2.2.2.1).mono ?_
  clear k0 k1 k2
  rintro e w9 ⟨v9, rfl, ho9, hb9⟩
  have H9 : Hid (RowO w9 w7.heap.size v8 (twoF (twoF ps qs) rs) ∧ Below w.heap.size w w9) := ⟨H8.out.1.below hb9, H8.out.2.trans (hb9.mono H8.out.2.size)⟩
  obtain ⟨A9, c9, rfl, k4, _, k3, _⟩ := ho9.rd
  obtain ⟨m9, hm9⟩ : ∃ m9, m9 = (twoF ps qs).length := ⟨_, rfl⟩
  rw [← hm9] at k4 ⊢
  have Hm9 := Lib.hid hm9
  have K9 : Hid (RF w9 w9.heap.size A9 (twoF ps qs) ∧ m9 ≤ c9) := ⟨k3, k4⟩
  clear ho9 hb9 H8 k3 k4 hm9
  go_wp2_with fail
  obtain ⟨k0, k1, k2⟩ := HR.out w9 H9.out.2
  refine (merge_two w9 A9 A2 c9 c2 m9 n2 (twoF ps qs) rs Hm9.out HN.out.2.2.1 Hs2.out.1 HS.out.2.2 K9.out.1 k2 K9.out.2 HN.out.2.2.2.2.2).mono ?_
  clear k0 k1 k2
  rintro e w10 ⟨v10, rfl, ho10, hb10⟩
  have H10 : Hid (RowO w10 w7.heap.size v8 (twoF (twoF ps qs) rs) ∧ Below w.heap.size w w10 ∧ RowO w10 w9.heap.size v10 (twoF (twoF ps qs) rs)) := ⟨H9.out.1.below hb10, H9.out.2.trans (hb10.mono H9.out.2.size), ho10⟩
  clear ho10 hb10 H9 K9
  go_wp2_with fail
  obtain ⟨k0, k1, k2⟩ := HR.out w10 H10.out.2.1
  refine (merge_two w10 A1 A2 c1 c2 n1 n2 qs rs HN.out.2.1 HN.out.2.2.1 HS.out.2.1 HS.out.2.2 k1 k2 HN.out.2.2.2.2.1 HN.out.2.2.2.2.2).mono ?_
  clear k0 k1 k2
  rintro e w11 ⟨v11, rfl, ho11, hb11⟩
  have H11 : Hid (RowO w11 w7.heap.size v8 (twoF (twoF ps qs) rs) ∧ Below w.heap.size w w11 ∧ RowO w11 w9.heap.size v10 (twoF (twoF ps qs) rs)) := ⟨H10.out.1.below hb11, H10.out.2.1.trans (hb11.mono H10.out.2.1.size), H10.out.2.2.below hb11⟩
  obtain ⟨A11, c11, rfl, k4, _, k3, _⟩ := ho11.rd
  obtain ⟨m11, hm11⟩ : ∃ m11, m11 = (twoF qs rs).length := ⟨_, rfl⟩
  rw [← hm11] at k4 ⊢
  have Hm11 := Lib.hid hm11
  have K11 : Hid (RF w11 w11.heap.size A11 (twoF qs rs) ∧ m11 ≤ c11) := ⟨k3, k4⟩
  clear ho11 hb11 H10 k3 k4 hm11
  go_wp2_with fail
  obtain ⟨k0, k1, k2⟩ := HR.out w11 H11.out.2.1
  refine (merge_two w11 A0 A11 c0 c11 n0 m11 ps (twoF qs rs) HN.out.1 Hm11.out HS.out.1 Hs2.out.2.1 k0 K11.out.1 HN.out.2.2.2.1 K11.out.2).mono ?_
  clear k0 k1 k2
  rintro e w12 ⟨v12, rfl, ho12, hb12⟩
  rw [← Hs2.out.2.2.1] at ho12
  have H12 : Hid (RowO w12 w7.heap.size v8 (twoF (twoF ps qs) rs) ∧ Below w.heap.size w w12 ∧ RowO w12 w9.heap.size v10 (twoF (twoF ps qs) rs) ∧ RowO w12 w11.heap.size v12 (twoF (twoF ps qs) rs)) := ⟨H11.out.1.below hb12, H11.out.2.1.trans (hb12.mono H11.out.2.1.size), H11.out.2.2.below hb12, ho12⟩
  clear ho12 hb12 H11 K11
  have Hfin : Hid (rightF (twoF (twoF ps qs) rs) = true ∧ (twoF (twoF ps qs) rs).length ≤ 1099511627776) := Hs2.out.2.2.2
  generalize twoF (twoF ps qs) rs = tt at *
  obtain ⟨A8, c8, rfl, _, _, r8, _⟩ := H12.out.1.rd
  obtain ⟨A10, c10, rfl, _, _, r10, _⟩ := H12.out.2.2.1.rd
  obtain ⟨A12, c12, rfl, _, _, r12, _⟩ := H12.out.2.2.2.rd
  have HSa := Lib.hid (sameRows_any A8 A10 c8 c10 tt tt w12 Hfin.out.2 Hfin.out.2 r8 r10)
  have HSb : Hid (∀ W, Gr w12 W → Calls Tryd.prog 27 #[.slice A8 tt.length c8, .slice A12 tt.length c12] W fun e w' => e = .returned (.bool (decide (tt = tt))) ∧ Gr W w') := fun W hW =>
    sameRows_any A8 A12 c8 c12 tt tt W Hfin.out.2 Hfin.out.2 ((r8.below hW.below).wide hW.below.size) ((r12.below hW.below).wide hW.below.size)
  have HRt : Hid (∀ W, Gr w12 W → Calls Tryd.prog 23 #[.slice A8 tt.length c8] W fun e w' => e = .returned (.bool (rightF tt)) ∧ Gr W w') := fun W hW =>
    right_any A8 c8 tt W Hfin.out.2 ((r8.below hW.below).wide hW.below.size)
  rw [decide_eq_true rfl] at HSa
  simp only [decide_true] at HSb
  rw [Hfin.out.1] at HRt
  have Hb12 := Lib.hid H12.out.2.1
  clear r8 r10 r12 H12 HR HN HS Hs2 Hfin
  generalize tt.length = nt at *
  go_wp2_with fail
  refine HSa.out.mono ?_
  rintro e w13 ⟨rfl, hg13⟩
  have H13 := Lib.hid hg13
  clear hg13 HSa
  go_wp2_with fail
  refine (HSb.out w13 H13.out).mono ?_
  rintro e w14 ⟨rfl, hg14⟩
  have H14 := Lib.hid (H13.out.trans hg14)
  clear hg14 HSb H13
  go_wp2_with fail
  refine (HRt.out w14 H14.out).mono ?_
  rintro e w15 ⟨rfl, hg15⟩
  have H15 := Lib.hid (Hb12.out.trans ((H14.out.trans hg15).below.mono Hb12.out.size))
  clear hg15 HRt H14
  go_wp2_with fail
  go_ret
  exact ⟨rfl, H15.out⟩
end
end Go.Proofs.YtghcfmkmndldoaaDoor

/-
  FactBuilds: the walk.
-/
namespace Go.Proofs.YtghcfmkmndldoaaDoor
open Go.RowKit Go.Sort Go.Lib

theorem RF.nums {w : World} {B : Nat} {A : Option Addr} {fs : List Fc} (h : RF w B A fs) : ∀ f ∈ fs, f.2.1 < two64 := fun f hf => by
  obtain ⟨k, hk⟩ := List.getElem?_of_mem hf
  obtain ⟨_, _, _, _, _, _, _, _, _, q⟩ := h.at_ hk
  exact q
/-- what Few says, and what follows -/
theorem argF_fit {w : World} {A : Option Addr} {c : Nat} {fs : List Fc} (h : ArgF w A c fs) {m : Int} (hm : m ≤ 400) (hq : (decide ((fs.length : Int) ≤ m) && decide (sumF fs ≤ 131072)) = true) : SFit fs := by
  simp only [Bool.and_eq_true, decide_eq_true_eq] at hq
  exact ⟨by omega, hq.2, h.1.nums⟩
theorem argF_few2 {w : World} {A : Option Addr} {c : Nat} {fs : List Fc} (h : ArgF w A c fs) (n : Nat) (hn : n = fs.length) (m : Int) : ∀ W, Below w.heap.size w W → Calls Tryd.prog 20 #[.slice A n c, .int .i64 m] W fun e w' => e = .returned (.bool (decide ((fs.length : Int) ≤ m) && decide (sumF fs ≤ 131072))) ∧ Below w.heap.size w w' := by
  subst hn
  refine fun W hW => (few_any A c fs m W (by have := h.2.2.1; omega) h.2.2.2.1 ((h.1.below hW).wide hW.size)).mono ?_
  rintro e w' ⟨rfl, hb⟩
  exact ⟨rfl, hW.trans (hb.mono hW.size)⟩
theorem argF_build {w : World} {A : Option Addr} {c : Nat} {fs : List Fc} (h : ArgF w A c fs) (ht : Tab w) (hs : SFit fs) (n : Nat) (hn : n = fs.length) (block : Int) (nb : Nat) (hnb : nb = (buildB fs block).length) : ∀ W, Below w.heap.size w W → Calls Tryd.prog 28 #[.slice A n c, .int .i64 block] W fun e w' => ∃ A' c', e = .returned (.tuple #[.slice A' nb c', .int .i64 (buildE fs block : Nat)]) ∧ Own w' W.heap.size (.slice A' nb c') (buildB fs block) ∧ Below W.heap.size W w' := by
  subst hn
  refine fun W hW => Calls.mono (build_any A c fs block W (ht.below hW ht.pos) (by have := hs.1; omega) h.2.1 hs.fit ((h.1.below hW).wide hW.size)) ?_
  rintro e w' ⟨v, rfl, ho, hb⟩
  obtain ⟨A', c', rfl, _⟩ := ho.rb
  rw [← hnb] at ho ⊢
  exact ⟨A', c', rfl, ho, hb⟩
section
set_option maxRecDepth 100000
set_option maxHeartbeats 8000000
theorem builds_any (A : Option Addr) (c : Nat) (fs : List Fc) (block : Int) (w : World) (ht : Tab w) (h : ArgF w A c fs) :
    Calls Tryd.prog 5 #[.slice A fs.length c, .int .i64 block] w fun e w' => e = .returned (.bool true) ∧ Below w.heap.size w w' := by
  have HK := Lib.hid (known11_any w ht)
  obtain ⟨n, hn⟩ : ∃ n, n = fs.length := ⟨_, rfl⟩
  have HF := Lib.hid (argF_few2 h n hn 400)
  have Hfit := Lib.hid (fun q => argF_fit h (Int.le_refl 400) q)
  obtain ⟨nb, hnb⟩ : ∃ nb, nb = (buildB fs block).length := ⟨_, rfl⟩
  have HB1 := Lib.hid (fun hs => argF_build h ht hs n hn block nb hnb)
  have HB2 : Hid (SFit fs → ∀ W, Below w.heap.size w W → Calls Tryd.prog 29 #[.slice A n c, .int .i64 block] W fun e w' => ∃ A' c', e = .returned (.tuple #[.slice A' nb c', .int .i64 (buildE fs block : Nat)]) ∧ RB w' w'.heap.size A' (buildB fs block) ∧ Below W.heap.size W w') := fun hs W hW => by
    rw [hn]
    refine Calls.mono (rbuild_any A c fs block W hs ((h.1.below hW).wide hW.size)) ?_
    rintro e w' ⟨v, rfl, ho, hb⟩
    obtain ⟨A', c', rfl, _, hr, _⟩ := ho.rb
    rw [← hnb]
    exact ⟨A', c', rfl, hr, hb⟩
  rw [← hn]
  have Hnb := Lib.hid hnb
  generalize buildE fs block = eb at *
  generalize buildB fs block = bb at *
  generalize (decide ((fs.length : Int) ≤ 400) && decide (sumF fs ≤ 131072)) = q at HF Hfit
  have heb : ((eb : Int) == (eb : Int)) = true := by simp
  clear hn hnb h ht
  go_enter Tryd.func5, Tryd.ntmps5
  go_wp2_with fail
  refine HK.out.mono ?_
  rintro e w1 ⟨rfl, hb1⟩
  have H1 := Lib.hid hb1
  clear hb1 HK
  go_wp2_with fail
  refine (HF.out w1 H1.out).mono ?_
  rintro e w2 ⟨rfl, hb2⟩
  have H2 := Lib.hid hb2
  clear hb2 HF H1
  cases q with
  | false =>
    go_wp2_with fail
    go_ret
    exact ⟨rfl, H2.out⟩
  | true =>
  have Hs := Lib.hid (Hfit.out rfl)
  go_wp2_with fail
  refine (HB1.out Hs.out w2 H2.out).mono ?_
  rintro e w3 ⟨A3, c3, rfl, ho3, hb3⟩
  have H3 : Hid (Own w3 w2.heap.size (.slice A3 nb c3) bb ∧ Below w.heap.size w w3) := ⟨ho3, H2.out.trans (hb3.mono H2.out.size)⟩
  clear ho3 hb3 HB1 H2
  go_wp2_with fail
  refine (HB2.out Hs.out w3 H3.out.2).mono ?_
  rintro e w4 ⟨A4, c4, rfl, hr4, hb4⟩
  have ho4 := H3.out.1.below hb4
  obtain ⟨A3', c3', e3, _, hr3, _⟩ := ho4.rb
  cases e3
  have t1 := text_run w4 w4.heap.size A3 bb c3 hr3
  have t2 := text_run w4 w4.heap.size A4 bb c4 hr4
  rw [← Hnb.out] at t1 t2
  generalize (⟨bb.toArray⟩ : ByteArray) = x at t1 t2
  have hx : (x.toList == x.toList) = true := by simp
  have H4 : Hid (Below w.heap.size w w4) := H3.out.2.trans (hb4.mono H3.out.2.size)
  clear HB2 H3 hr3 hr4 ho4 hb4 Hfit Hs
  go_wp2_with fail
  go_ret
  exact ⟨rfl, H4.out⟩
end
end Go.Proofs.YtghcfmkmndldoaaDoor

/-
  FactMerges: the walk.
-/
namespace Go.Proofs.YtghcfmkmndldoaaDoor
open Go.RowKit Go.Sort Go.Lib

/-- lists of facts that a law is handed -/
def ArgFF (w : World) (A : Option Addr) (c : Nat) (ls : List (List Fc)) : Prop :=
  RFF w w.heap.size A ls ∧ ls.length ≤ c ∧ ls.length ≤ 1048576 ∧ sumL ls ≤ 1048576 ∧ ∀ l ∈ ls, sumF l ≤ 4611686018427387904 ∧ ∀ f ∈ l, f.2.2.length ≤ 1099511627776
def fewB (l : List Fc) : Bool := decide ((l.length : Int) ≤ 400) && decide (sumF l ≤ 131072)
theorem sumL_snoc {ls : List (List Fc)} {i : Nat} {l : List Fc} (h : ls[i]? = some l) : sumL (ls.take (i + 1)) = sumL (ls.take i) + l.length := by
  rw [List.take_add_one, h, sumL_append]
  simp [sumL]
theorem mergB_len (ls : List (List Fc)) : (mergB ls).length ≤ sumL ls := by
  unfold mergB
  split
  · rename_i h
    unfold mergE at h
    split at h
    · rename_i h2
      exact mergeF_length ls fun l hl => rightF_pair.1 (List.all_eq_true.1 h2 l hl)
    · cases h
  · exact Nat.zero_le _
section
set_option maxRecDepth 100000
set_option maxHeartbeats 8000000
theorem merges_any (fa fb : Fc) (va vb : Value) (A : Option Addr) (c : Nat) (ls : List (List Fc)) (w : World) (ht : Tab w) (ha : Vb w w.heap.size va fa.2.2) (hb : Vb w w.heap.size vb fb.2.2) (h : ArgFF w A c ls) :
    Calls Tryd.prog 4 #[fcV fa va, fcV fb vb, .slice A ls.length c] w fun e w' => e = .returned (.bool true) ∧ Below w.heap.size w w' := by
  obtain ⟨ka, sa, xa⟩ := fa
  obtain ⟨kb, sb, xb⟩ := fb
  dsimp only at ha hb
  obtain ⟨Aa, ca, rfl, _⟩ := ha
  obtain ⟨Ab, cb, rfl, _⟩ := hb
  obtain ⟨W, hW⟩ : ∃ W, W = (w.alloc (.cells #[.string ka, .int .u64 (sa : Int), .slice Aa xa.length ca] 40)).alloc (.cells #[.string kb, .int .u64 (sb : Int), .slice Ab xb.length cb] 40) := ⟨_, rfl⟩
  have e1 : (w.alloc (.cells #[.string ka, .int .u64 (sa : Int), .slice Aa xa.length ca] 40)).heap.size = w.heap.size + 1 := by simp
  have hB : Below w.heap.size w W := by rw [hW]; exact ((Below.refl _ _).alloc (Nat.le_refl _) _).alloc (by simp) _
  have hCa : Cells W w.heap.size 40 [.string ka, .int .u64 (sa : Int), .slice Aa xa.length ca] := by rw [hW]; exact (Cells.new w _ _).alloc _
  have hCb : Cells W (w.heap.size + 1) 40 [.string kb, .int .u64 (sb : Int), .slice Ab xb.length cb] := by rw [hW, ← e1]; exact Cells.new _ _ _
  have HC : Hid (Cells W w.heap.size 40 [.string ka, .int .u64 (sa : Int), .slice Aa xa.length ca] ∧ Cells W (w.heap.size + 1) 40 [.string kb, .int .u64 (sb : Int), .slice Ab xb.length cb] ∧ Below w.heap.size w W) := ⟨hCa, hCb, hB⟩
  have HK := Lib.hid (known11_any W (ht.below hB ht.pos))
  have H := Lib.hid h
  have hn1 : (ls.length : Int) ≤ 1048576 := by have := h.2.2.1; omega
  have Hlen : Hid (∀ k : Nat, k < ls.length → ∃ u, ls[k]? = some u) := fun k hk => ⟨_, List.getElem?_eq_getElem hk⟩
  obtain ⟨n, hn⟩ : ∃ n, n = ls.length := ⟨_, rfl⟩
  rw [← hn] at hn1 Hlen
  rw [← hn]
  have Hn := Lib.hid hn
  unfold fcV
  dsimp only
  clear hCa hCb hB e1 h hn ht
  go_enter Tryd.func4, Tryd.ntmps4
  go_upto_region 1 with fail
  rw [← hW]
  clear hW
  go_wp2_with fail
  refine HK.out.mono ?_
  rintro e w1 ⟨rfl, hb1⟩
  have H1 := Lib.hid hb1
  clear hb1 HK
  go_wp2_with fail
  go_loopw [7, 8] (fun tv iv wr => ∃ i : Nat, iv = .int .i64 (i : Int) ∧ i ≤ n ∧ tv = .int .i64 ((sumL (ls.take i) : Nat) : Int) ∧ Hid (Below W.heap.size W wr)) (fun _ iv _ => n - (intOf iv).toNat)
  case atStart => exact ⟨0, rfl, Nat.zero_le _, rfl, H1.out⟩
  case round =>
    obtain ⟨i, rfl, hi, rfl, hg⟩ := hrel
    have Hbw : Hid (Below w.heap.size w wr) := HC.out.2.2.trans (hg.out.mono HC.out.2.2.size)
    by_cases hlt : i < n
    · obtain ⟨l, hli⟩ := Hlen.out i hlt
      obtain ⟨b, o, A', cl, rfl, hblt, x0, x1, x2⟩ := (H.out.1.below Hbw.out) i l hli
      have hlt' : (i : Int) < (n : Int) := by omega
      have hsn := sumL_snoc hli
      have hle := sumL_take ls (i + 1)
      have hsl := H.out.2.2.2.1
      have HF := Lib.hid (few_any A' cl l 400 wr (by omega) (H.out.2.2.2.2 l (List.mem_of_getElem? hli)).1 (x2.wide Hbw.out.size))
      generalize sumL (ls.take i) = tt at *
      have hw1 : IntKind.i64.wrap ((tt : Int) + (l.length : Int)) = (tt : Int) + (l.length : Int) := by rw [IntKind.wrap_i64]; omega
      have Ht : Hid ((tt : Int) + (l.length : Int) = ((sumL (ls.take (i + 1)) : Nat) : Int)) := by show _ = _; rw [hsn]; omega
      generalize (decide ((l.length : Int) ≤ 400) && decide (sumF l ≤ 131072)) = q at HF
      clear hli hblt x1 x2 hsn hle hsl Hlen hlt
      cases q with
      | false =>
        go_wp2_with fail
        refine HF.out.mono ?_
        rintro e w2 ⟨rfl, hb2⟩
        have H2 : Hid (Below w.heap.size w w2) := Hbw.out.trans (hb2.mono Hbw.out.size)
        clear hb2 HF x0
        go_wp2_with fail
        go_ret
        exact ⟨rfl, H2.out⟩
      | true =>
        go_wp2_with fail
        refine HF.out.mono ?_
        rintro e w2 ⟨rfl, hb2⟩
        have H2 : Hid (Below W.heap.size W w2) := hg.out.trans (hb2.mono hg.out.size)
        clear hb2 HF x0 hg
        go_wp2_with fail
        go_roundw
        case rel => exact ⟨i + 1, by go_num, by omega, by rw [Ht.out], H2.out⟩
        case measure => simp [intOf]; omega
    · obtain rfl : i = n := by omega
      have he : ls.take i = ls := by rw [Hn.out]; exact List.take_of_length_le (Nat.le_refl _)
      rw [he]
      obtain ⟨sl, hsl⟩ : ∃ sl, sl = sumL ls := ⟨_, rfl⟩
      rw [← hsl]
      have Hsl := Lib.hid hsl
      have Hg := hg
      clear hg he hsl
      by_cases h20 : 20 < i
      · have h20' : (i : Int) > 20 := by omega
        go_wp2_with fail
        go_ret
        exact ⟨rfl, Hbw.out⟩
      have h20' : ¬ (i : Int) > 20 := by omega
      by_cases h800 : 800 < sl
      · have h800' : (sl : Int) > 800 := by omega
        go_wp2_with fail
        go_ret
        exact ⟨rfl, Hbw.out⟩
      have h800' : ¬ (sl : Int) > 800 := by omega
      have HL : Hid (∀ X, Below W.heap.size W X → X.cell? ⟨w.heap.size, 0, none⟩ = some (.string ka) ∧ X.cell? ⟨w.heap.size, 1, none⟩ = some (.int .u64 (sa : Int)) ∧ X.cell? ⟨w.heap.size, 2, none⟩ = some (.slice Aa xa.length ca) ∧ X.cell? ⟨w.heap.size + 1, 0, none⟩ = some (.string kb) ∧ X.cell? ⟨w.heap.size + 1, 1, none⟩ = some (.int .u64 (sb : Int)) ∧ X.cell? ⟨w.heap.size + 1, 2, none⟩ = some (.slice Ab xb.length cb)) := fun X hX => by
        have h1 := HC.out.1.move (hX.block _ HC.out.1.lt)
        have h2 := HC.out.2.1.move (hX.block _ HC.out.2.1.lt)
        exact ⟨h1.cell (i := 0) rfl, h1.cell (i := 1) rfl, h1.cell (i := 2) rfl, h2.cell (i := 0) rfl, h2.cell (i := 1) rfl, h2.cell (i := 2) rfl⟩
      obtain ⟨q, hq⟩ : ∃ q, q = cmpF (ka, sa, xa) (kb, sb, xb) := ⟨_, rfl⟩
      have HC1 : Hid (∀ X, Below W.heap.size W X → Calls Tryd.prog 21 #[.agg #[.string ka, .int .u64 (sa : Int), .slice Aa xa.length ca], .agg #[.string kb, .int .u64 (sb : Int), .slice Ab xb.length cb]] X fun e w' => e = .returned (.int .i64 q) ∧ Below W.heap.size W w') := fun X hX => by
        have h := cmp_any (ka, sa, xa) (kb, sb, xb) (.slice Aa xa.length ca) (.slice Ab xb.length cb) X
        rw [← hq] at h
        refine h.mono ?_
        rintro e w' ⟨rfl, h⟩
        exact ⟨rfl, hX.trans (h.below.mono hX.size)⟩
      have HC2 : Hid (∀ X, Below W.heap.size W X → Calls Tryd.prog 22 #[.agg #[.string ka, .int .u64 (sa : Int), .slice Aa xa.length ca], .agg #[.string kb, .int .u64 (sb : Int), .slice Ab xb.length cb]] X fun e w' => e = .returned (.int .i64 q) ∧ Below W.heap.size W w') := fun X hX => by
        have h := rcmp_any (ka, sa, xa) (kb, sb, xb) (.slice Aa xa.length ca) (.slice Ab xb.length cb) X
        rw [← hq] at h
        refine h.mono ?_
        rintro e w' ⟨rfl, h⟩
        exact ⟨rfl, hX.trans (h.below.mono hX.size)⟩
      have hqq : (q != q) = false := by simp
      clear hq
      go_upto_region 12 with fail
      go_cut [48] (fun v wx => v = .bool false ∧ Hid (Below W.heap.size W wx))
      case first => as_aux_lemma =>
        obtain ⟨y0, y1, y2, y3, y4, y5⟩ := HL.out wr Hg.out
        obtain ⟨z0, z1, z2, z3, z4, z5⟩ := HL.out wr.drew Hg.out.drew
        clear H Hlen Hn Hsl Hbw HC h20 h20' h800 h800' hn1
        go_region_law (first
          | (go_simp; go_at_call 21; refine (HC1.out _ (by first | exact Hg.out | exact Hg.out.drew)).mono ?_; rintro e w3 ⟨rfl, h3⟩; have H3 := Lib.hid h3; obtain ⟨a0, a1, a2, a3, a4, a5⟩ := HL.out w3 h3; obtain ⟨b0, b1, b2, b3, b4, b5⟩ := HL.out w3.drew h3.drew; clear h3 HC1)
          | (go_simp; go_at_call 22; refine (HC2.out _ (by first | exact H3.out | exact H3.out.drew)).mono ?_; rintro e w4 ⟨rfl, h4⟩; have H4 := Lib.hid h4; clear h4 HC2))
        all_goals
          go_wp2_with fail
          go_meet
          exact ⟨rfl, H4.out⟩
      case rest =>
        obtain ⟨rfl, hbx⟩ := hcut
        have Hb0 : Hid (Below w.heap.size w wc) := HC.out.2.2.trans (hbx.out.mono HC.out.2.2.size)
        clear hbx HL HC1 HC2 hqq Hbw Hg HC
        go_wp2_with fail
        go_loopw [9] (fun iv wr => ∃ j : Nat, iv = .int .i64 (j : Int) ∧ j ≤ i ∧ Hid (Below w.heap.size w wr)) (fun iv _ => i - (intOf iv).toNat)
        case atStart => exact ⟨0, rfl, Nat.zero_le _, Hb0.out⟩
        case round =>
          have hrel2 := hrel
          clear hrel
          obtain ⟨j, rfl, hj, Hg⟩ := hrel2
          by_cases hlt : j < i
          · obtain ⟨l, hli⟩ := Hlen.out j hlt
            obtain ⟨b, o, A', cl, rfl, hblt, x0, x1, x2⟩ := H.out.1 j l hli
            have hlt' : (j : Int) < (i : Int) := by omega
            have hll : l.length ≤ 1099511627776 := by
              have := sumL_mem (List.mem_of_getElem? hli)
              have := H.out.2.2.2.1
              omega
            have HX : Hid (∀ X, Below w.heap.size w X → X.cell? ⟨b, o + j, none⟩ = some (.slice A' l.length cl)) := fun X hX => (hX.cell (p := ⟨b, o + j, none⟩) hblt).trans x0
            have HR1 : Hid (∀ X, Below w.heap.size w X → Calls Tryd.prog 23 #[.slice A' l.length cl] X fun e w' => e = .returned (.bool (rightF l)) ∧ Below w.heap.size w w') := fun X hX => by
              refine (right_any A' cl l X hll ((x2.below hX).wide hX.size)).mono ?_
              rintro e w' ⟨rfl, h⟩
              exact ⟨rfl, hX.trans (h.below.mono hX.size)⟩
            have HR2 : Hid (∀ X, Below w.heap.size w X → Calls Tryd.prog 24 #[.slice A' l.length cl] X fun e w' => e = .returned (.bool (rightF l)) ∧ Below w.heap.size w w') := fun X hX => by
              refine (rright_any A' cl l X hll ((x2.below hX).wide hX.size)).mono ?_
              rintro e w' ⟨rfl, h⟩
              exact ⟨rfl, hX.trans (h.below.mono hX.size)⟩
            have y0 := HX.out wr Hg.out
            have y1 := HX.out wr.drew Hg.out.drew
            generalize rightF l = q at HR1 HR2
            generalize l.length = nl at *
            clear hli x0 x1 x2 hll hblt H Hn Hsl Hb0 Hlen hlt
            go_upto_region 17 with fail
            cases q
            all_goals
              go_region_law (first
                | (go_simp; go_at_call 23; refine (HR1.out _ (by first | exact Hg.out | exact Hg.out.drew)).mono ?_; rintro e w3 ⟨rfl, h3⟩; have H3 := Lib.hid h3; have a0 := HX.out w3 h3; have a1 := HX.out w3.drew h3.drew; clear h3 HR1)
                | (go_simp; go_at_call 24; refine (HR2.out _ (by first | exact H3.out | exact H3.out.drew)).mono ?_; rintro e w4 ⟨rfl, h4⟩; have H4 := Lib.hid h4; clear h4 HR2))
              all_goals
                go_wp2_with fail
                exact ⟨⟨j + 1, by go_num, by omega, H4.out⟩, by simp [intOf]; omega⟩
          · obtain rfl : j = i := by omega
            have hmE := mergB_len ls
            have HM1 : Hid (∀ X, Below w.heap.size w X → Calls Tryd.prog 25 #[.slice A j c] X fun e w' => ∃ A' c', e = .returned (.tuple #[.slice A' (mergB ls).length c', .int .i64 (mergE ls : Nat)]) ∧ RF w' w'.heap.size A' (mergB ls) ∧ Below w.heap.size w w') := fun X hX => by
              have h := merge_any A c ls X (by have := H.out.2.2.1; omega) H.out.2.1 (by have := H.out.2.2.2.1; omega) (fun l hl f hf => (H.out.2.2.2.2 l hl).2 f hf) ((H.out.1.below hX).wide hX.size)
              rw [← Hn.out] at h
              refine h.mono ?_
              rintro e w' ⟨v, rfl, h1, h2⟩
              obtain ⟨A1, c1, rfl, _, _, h3, _⟩ := h1.rd
              exact ⟨A1, c1, rfl, h3, hX.trans (h2.mono hX.size)⟩
            have HM2 : Hid (∀ X, Below w.heap.size w X → Calls Tryd.prog 26 #[.slice A j c] X fun e w' => ∃ A' c', e = .returned (.tuple #[.slice A' (mergB ls).length c', .int .i64 (mergE ls : Nat)]) ∧ RF w' w'.heap.size A' (mergB ls) ∧ Below X.heap.size X w') := fun X hX => by
              have h := rmerge_any A c ls X (by have := H.out.2.2.1; omega) H.out.2.2.2.1 ((H.out.1.below hX).wide hX.size)
              rw [← Hn.out] at h
              refine h.mono ?_
              rintro e w' ⟨A1, c1, rfl, h1, h2⟩
              exact ⟨A1, c1, rfl, h1, h2⟩
            have Hml : Hid ((mergB ls).length ≤ 1099511627776) := by show _ ≤ _; have := H.out.2.2.2.1; omega
            generalize mergB ls = mb at *
            generalize mergE ls = me at *
            have hme : ((me : Int) == (me : Int)) = true := by simp
            clear hmE H Hlen Hsl Hn Hb0
            go_wp2_with fail
            refine (HM1.out wr Hg.out).mono ?_
            rintro e w5 ⟨A5, c5, rfl, r5, b5⟩
            have H5 : Hid (RF w5 w5.heap.size A5 mb ∧ Below w.heap.size w w5) := ⟨r5, b5⟩
            clear r5 b5 HM1
            go_wp2_with fail
            refine (HM2.out w5 H5.out.2).mono ?_
            rintro e w6 ⟨A6, c6, rfl, r6, b6⟩
            have HS := Lib.hid (sameRows_any A5 A6 c5 c6 mb mb w6 Hml.out Hml.out (RF.now H5.out.1 b6) r6)
            rw [decide_eq_true rfl] at HS
            have H6 : Hid (Below w.heap.size w w6) := H5.out.2.trans (b6.mono H5.out.2.size)
            generalize mb.length = nm at *
            clear r6 b6 HM2 H5 Hml
            go_wp2_with fail
            refine HS.out.mono ?_
            rintro e w7 ⟨rfl, h7⟩
            have H7 : Hid (Below w.heap.size w w7) := H6.out.trans (h7.below.mono H6.out.size)
            clear h7 HS H6
            go_wp2_with fail
            go_ret
            exact ⟨rfl, H7.out⟩
end
end Go.Proofs.YtghcfmkmndldoaaDoor
