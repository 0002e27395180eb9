/-
  GfSolves, walked: the inverse where there is none, the product with a vector, the law.
-/
import Derived.Test.YtbfbjmngcojaoaaGf19
import Derived.Test.YtbfbjmngcojaoaaGf21
namespace Go.Proofs.Ytbfbjmngcojaoaa
open Go.RowKit

set_option maxRecDepth 20000
set_option maxHeartbeats 1000000 in
theorem inverse_no (A : Option Addr) (c : Nat) (M : Mtx) (w : World) (h : RM w w.heap.size A M) (hl : M.length ≤ 1048576) (hll : ∀ (k : Nat) (l : List UInt8), M[k]? = some l → l.length ≤ 1048576) (hs : sqB M = false) :
    Calls Try.prog 33 #[.slice A M.length c] w fun e w' => e = .returned (.tuple #[.slice none 0 0, .int .i64 1]) ∧ w = w' := by
  have HR := Lib.hid (right_any A c M w _ h hl hll)
  by_cases hr : rightB M = true
  · rw [hr] at HR
    obtain ⟨n, h1, h2, h3, h4, h5, h6, h7⟩ := right_facts hr
    have hne : M.length ≠ n := fun e => by
      unfold sqB at hs
      rw [hr, h6, decide_eq_true e] at hs
      cases hs
    obtain ⟨b, o, rfl, hb⟩ := h.at_ (by omega)
    obtain ⟨A0, c0, q0, _, _⟩ := h.row h5
    rw [h6, Nat.add_zero] at q0
    have hbb : (((M.length : Nat) : Int) != (n : Int)) = true := by simp; omega
    have h1' : (0 : Int) < ((M.length : Nat) : Int) := by omega
    generalize M.length = N at *
    clear h hl hll hs hr h1 h2 h3 h4 h5 h6 h7 hne hb
    go_enter Try.func33, Try.ntmps33
    go_wp2_with fail
    refine HR.out.mono ?_
    rintro e w1 ⟨rfl, rfl⟩
    go_wp2_with fail
    go_ret2
    exact ⟨rfl, rfl⟩
  · rw [Bool.not_eq_true] at hr
    rw [hr] at HR
    generalize M.length = N at *
    clear h hl hll hs hr
    go_enter Try.func33, Try.ntmps33
    go_wp2_with fail
    refine HR.out.mono ?_
    rintro e w1 ⟨rfl, rfl⟩
    go_wp2_with fail
    go_ret2
    exact ⟨rfl, rfl⟩
set_option maxHeartbeats 1000000 in
theorem apply_ok (A : Option Addr) (c : Nat) (M : Mtx) (Av : Option Addr) (cv : Nat) (v : List UInt8) (w : World) (h : RM w w.heap.size A M) (hv : RB w w.heap.size Av v) (hr : rightB M = true) (hn : (M.headD []).length = v.length) :
    Calls Try.prog 31 #[.slice A M.length c, .slice Av v.length cv] w fun e w' => e = .returned (.tuple #[.slice (some ⟨w.heap.size, 0, none⟩) M.length M.length, .int .i64 0]) ∧ Blk w' w.heap.size (applyL M v) ∧ Below w.heap.size w w' := by
  obtain ⟨n, h1, h2, h3, h4, h5, h6, h7⟩ := right_facts hr
  rw [hn] at h6
  subst h6
  have HR := Lib.hid (right_any A c M w _ h (by omega) (fun k l hk => by rw [h7 k l hk]; omega))
  rw [hr] at HR
  have HA := Lib.hid (apply_any A c M Av cv v w h hv h1 h2 h7 h4)
  obtain ⟨b, o, rfl, hb⟩ := h.at_ (by omega)
  obtain ⟨A0, c0, q0, _, _⟩ := h.row h5
  rw [hn, Nat.add_zero] at q0
  have h1' : (0 : Int) < ((M.length : Nat) : Int) := by omega
  generalize M.length = N at *
  generalize v.length = n at *
  clear h hv hr h1 h2 h3 h4 h5 h7 hn hb
  go_enter Try.func31, Try.ntmps31
  go_wp2_with fail
  refine HR.out.mono ?_
  rintro e w1 ⟨rfl, rfl⟩
  go_wp2_with fail
  refine HA.out.mono ?_
  rintro e w2 ⟨rfl, hb2, hb3⟩
  have Hb2 := Lib.hid hb2
  have Hb3 := Lib.hid hb3
  clear hb2 hb3
  go_wp2_with fail
  go_ret2
  exact ⟨rfl, Hb2.out, Hb3.out⟩
set_option maxHeartbeats 2000000 in
theorem solves_any (A : Option Addr) (c : Nat) (M : Mtx) (Av : Option Addr) (cv : Nat) (v : List UInt8) (w : World) (h : RM w w.heap.size A M) (hl : M.length ≤ 1048576) (hll : ∀ (k : Nat) (l : List UInt8), M[k]? = some l → l.length ≤ 1048576) (hv : RB w w.heap.size Av v) (hvl : v.length ≤ 1048576) :
    Calls Try.prog 10 #[.slice A M.length c, .slice Av v.length cv] w fun e w' => e = .returned (.bool true) ∧ Below w.heap.size w w' := by
  have Hk := Lib.hid (known_any w)
  have HF : Hid (∀ W, Below w.heap.size w W → Calls Try.prog 21 #[.slice A M.length c] W fun e w' => e = .returned (.bool (fewM M)) ∧ W = w') := fun W hb => few_any A c M W _ (h.below hb) hl hll
  have HN : Hid (∀ W, Below w.heap.size w W → sqB M = false → Calls Try.prog 33 #[.slice A M.length c] W fun e w' => e = .returned (.tuple #[.slice none 0 0, .int .i64 1]) ∧ W = w') := fun W hb hs => inverse_no A c M W ((h.below hb).wide hb.size) hl hll hs
  have Hh := Lib.hid h
  have Hv := Lib.hid hv
  have hvl' : ((v.length : Nat) : Int) ≤ 1048576 := by omega
  have hl' : ((M.length : Nat) : Int) ≤ 1048576 := by omega
  clear h hv
  cases hfb : fewM M
  · rw [hfb] at HF
    generalize M.length = N at *
    generalize v.length = n at *
    clear hl hll HN Hh Hv hfb
    go_enter Try.func10, Try.ntmps10
    go_wp2_with fail
    refine Hk.out.mono ?_
    rintro e w1 ⟨rfl, hb1⟩
    have Hb1 := Lib.hid hb1
    have Hf := Lib.hid (HF.out w1 hb1)
    clear hb1
    go_wp2_with fail
    refine Hf.out.mono ?_
    rintro e w2 ⟨rfl, rfl⟩
    go_wp2_with fail
    go_ret
    exact ⟨rfl, Hb1.out⟩
  rw [hfb] at HF
  by_cases h20 : M.length ≤ 20
  case neg =>
    have h20' : ¬ ((M.length : Nat) : Int) ≤ 20 := by omega
    have h20'' : (20 : Int) < ((M.length : Nat) : Int) := by omega
    generalize M.length = N at *
    generalize v.length = n at *
    clear hl hll HN Hh Hv hfb h20
    go_enter Try.func10, Try.ntmps10
    go_wp2_with fail
    refine Hk.out.mono ?_
    rintro e w1 ⟨rfl, hb1⟩
    have Hb1 := Lib.hid hb1
    have Hf := Lib.hid (HF.out w1 hb1)
    clear hb1
    go_wp2_with fail
    refine Hf.out.mono ?_
    rintro e w2 ⟨rfl, rfl⟩
    go_wp2_with fail
    go_ret
    exact ⟨rfl, Hb1.out⟩
  have h20' : ((M.length : Nat) : Int) ≤ 20 := by omega
  have h20'' : ¬ (20 : Int) < ((M.length : Nat) : Int) := by omega
  cases hsq : sqB M
  · have HN' : Hid (∀ W, Below w.heap.size w W → Calls Try.prog 33 #[.slice A M.length c] W fun e w' => e = .returned (.tuple #[.slice none 0 0, .int .i64 1]) ∧ W = w') := fun W hb => HN.out W hb hsq
    generalize M.length = N at *
    generalize v.length = n at *
    clear hl hll HN Hh Hv hfb h20
    go_enter Try.func10, Try.ntmps10
    go_wp2_with fail
    refine Hk.out.mono ?_
    rintro e w1 ⟨rfl, hb1⟩
    have Hb1 := Lib.hid hb1
    have Hf := Lib.hid (HF.out w1 hb1)
    have Hi := Lib.hid (HN'.out w1 hb1)
    clear hb1
    go_wp2_with fail
    refine Hf.out.mono ?_
    rintro e w2 ⟨rfl, rfl⟩
    go_wp2_with fail
    refine Hi.out.mono ?_
    rintro e w2 ⟨rfl, rfl⟩
    go_wp2_with fail
    go_ret
    exact ⟨rfl, Hb1.out⟩
  obtain ⟨n, hn1, hn2, hd, _⟩ := inv_sq hsq
  have hr : rightB M = true := by
    unfold sqB at hsq
    rw [Bool.and_eq_true] at hsq
    exact hsq.1
  have hhd : (M.headD []).length = n := by
    unfold sqB at hsq
    rw [Bool.and_eq_true, decide_eq_true_eq] at hsq
    rw [← hsq.2]; exact hd.1
  have hnl := hd.1
  rw [hnl] at HF h20' h20'' hl' ⊢
  have HI : Hid (∀ W, Below w.heap.size w W → Calls Try.prog 33 #[.slice A n c] W fun e w' => (∃ S, invK n M n = some S ∧ ∃ g lo hi, e = .returned (.tuple #[.slice (some ⟨g, 0, none⟩) n n, .int .i64 0]) ∧ MatO w' lo hi (.slice (some ⟨g, 0, none⟩) n n) S.2 ∧ W.heap.size ≤ lo ∧ hi ≤ w'.heap.size ∧ Dim S.2 n ∧ Below W.heap.size W w') ∨
      (invK n M n = none ∧ e = .returned (.tuple #[.slice none 0 0, .int .i64 4]) ∧ Below W.heap.size W w')) := fun W hb => inverse_sq A c n M W ((Hh.out.below hb).wide hb.size) hn1 hn2 hd hr
  clear HN
  rcases hk : invK n M n with _ | S
  · have HI' : Hid (∀ W, Below w.heap.size w W → Calls Try.prog 33 #[.slice A n c] W fun e w' => e = .returned (.tuple #[.slice none 0 0, .int .i64 4]) ∧ Below w.heap.size w w') := fun W hb => (HI.out W hb).mono fun e w' hx => by
      rcases hx with ⟨S, e1, _⟩ | ⟨_, e2, e3⟩
      · rw [hk] at e1; cases e1
      · exact ⟨e2, hb.trans (e3.mono hb.size)⟩
    generalize v.length = m at *
    clear hl hll HI Hh Hv hfb h20 hsq hd hr hhd hnl hn1 hn2 hk
    go_enter Try.func10, Try.ntmps10
    go_wp2_with fail
    refine Hk.out.mono ?_
    rintro e w1 ⟨rfl, hb1⟩
    have Hb1 := Lib.hid hb1
    have Hf := Lib.hid (HF.out w1 hb1)
    have Hi := Lib.hid (HI'.out w1 hb1)
    clear hb1
    go_wp2_with fail
    refine Hf.out.mono ?_
    rintro e w2 ⟨rfl, rfl⟩
    go_wp2_with fail
    refine Hi.out.mono ?_
    rintro e w2 ⟨rfl, hb2⟩
    have Hb2 := Lib.hid hb2
    clear hb2
    go_wp2_with fail
    go_ret
    exact ⟨rfl, Hb2.out⟩
  have HI' : Hid (∀ W, Below w.heap.size w W → Calls Try.prog 33 #[.slice A n c] W fun e w' => ∃ g, e = .returned (.tuple #[.slice (some ⟨g, 0, none⟩) n n, .int .i64 0]) ∧ RM w' w'.heap.size (some ⟨g, 0, none⟩) S.2 ∧ Below w.heap.size w w') := fun W hb => (HI.out W hb).mono fun e w' hx => by
    rcases hx with ⟨S', e1, g, lo, hi, e2, e3, e4, e5, e6, e7⟩ | ⟨e1, _⟩
    · rw [hk] at e1
      cases e1
      refine ⟨g, e2, ?_, hb.trans (e7.mono hb.size)⟩
      obtain ⟨A2, c2, q1, _, q2⟩ := e3.rm
      cases q1
      exact q2
    · rw [hk] at e1; cases e1
  clear HI
  by_cases hvn : v.length = n
  case neg =>
    have hbb : (((v.length : Nat) : Int) != (n : Int)) = true := by simp; omega
    generalize v.length = m at *
    clear hl hll Hh Hv hfb h20 hsq hd hr hhd hnl hn1 hn2 hk hvn
    go_enter Try.func10, Try.ntmps10
    go_wp2_with fail
    refine Hk.out.mono ?_
    rintro e w1 ⟨rfl, hb1⟩
    have Hb1 := Lib.hid hb1
    have Hf := Lib.hid (HF.out w1 hb1)
    have Hi := Lib.hid (HI'.out w1 hb1)
    clear hb1
    go_wp2_with fail
    refine Hf.out.mono ?_
    rintro e w2 ⟨rfl, rfl⟩
    go_wp2_with fail
    refine Hi.out.mono ?_
    rintro e w2 ⟨g, rfl, hm2, hb2⟩
    have Hb2 := Lib.hid hb2
    clear hb2 hm2
    go_wp2_with fail
    go_ret
    exact ⟨rfl, Hb2.out⟩
  have hdS : Dim S.2 n := (invK_good hd n S (Nat.le_refl _) hk).d2
  have hrS : rightB S.2 = true := by
    refine decide_eq_true ⟨by rw [hdS.1]; exact hn1, by rw [hdS.1]; exact hn2, ?_, ?_, ?_⟩
    · rw [hdS.2 0 _ (head_get (by rw [hdS.1]; omega))]; exact hn1
    · rw [hdS.2 0 _ (head_get (by rw [hdS.1]; omega))]; exact hn2
    · intro l hl'
      obtain ⟨j, hj⟩ := List.getElem?_of_mem hl'
      rw [hdS.2 j l hj, hdS.2 0 _ (head_get (by rw [hdS.1]; omega))]
  have hheadS : (S.2.headD []).length = n := hdS.2 0 _ (head_get (by rw [hdS.1]; omega))
  have hun := inv_undoes hd hk v hvn
  have hbl : (applyL M v).length = n := by unfold applyL; rw [List.length_map]; exact hd.1
  have HA1 : Hid (∀ W, Below w.heap.size w W → Calls Try.prog 31 #[.slice A n c, .slice Av n cv] W fun e w' => e = .returned (.tuple #[.slice (some ⟨W.heap.size, 0, none⟩) n n, .int .i64 0]) ∧ Blk w' W.heap.size (applyL M v) ∧ Below W.heap.size W w') := fun W hb => by
    have := apply_ok A c M Av cv v W ((Hh.out.below hb).wide hb.size) ((Hv.out.below hb).wide hb.size) hr (by rw [hhd, hvn])
    rw [hnl, hvn] at this
    exact this
  have HA2 : Hid (∀ (W : World) (g b : Nat), RM W W.heap.size (some ⟨g, 0, none⟩) S.2 → Blk W b (applyL M v) → Calls Try.prog 31 #[.slice (some ⟨g, 0, none⟩) n n, .slice (some ⟨b, 0, none⟩) n n] W fun e w' => e = .returned (.tuple #[.slice (some ⟨W.heap.size, 0, none⟩) n n, .int .i64 0]) ∧ Blk w' W.heap.size v ∧ Below W.heap.size W w') := fun W g b q1 q2 => by
    have := apply_ok (some ⟨g, 0, none⟩) n S.2 (some ⟨b, 0, none⟩) n (applyL M v) W q1 ((q2.rb 0).wide q2.lt) hrS (by rw [hheadS, hbl])
    rw [hdS.1, hbl, hun] at this
    exact this
  have HT1 : Hid (∀ (W : World), Below w.heap.size w W → ∀ q, (convert 46 9 (.slice Av n cv)).run Try.prog (W.drewN q) = .ok (.string ⟨v.toArray⟩) (W.drewN q)) := fun W hb => by
    have := eql_str_conv W _ Av v cv (Hv.out.below hb)
    rw [hvn] at this
    exact this
  have HT2 : Hid (∀ (W : World) (b : Nat), Blk W b v → ∀ q, (convert 46 9 (.slice (some ⟨b, 0, none⟩) n n)).run Try.prog (W.drewN q) = .ok (.string ⟨v.toArray⟩) (W.drewN q)) := fun W b hb => by
    have := eql_str_conv W _ (some ⟨b, 0, none⟩) v n (hb.rb 0)
    rw [hvn] at this
    exact this
  rw [hvn] at hvl' ⊢
  generalize (⟨v.toArray⟩ : ByteArray) = X at HT1 HT2
  clear hl hll Hh Hv hfb h20 hsq hd hr hhd hnl hn1 hn2 hk hdS hrS hheadS hun hbl hvl hvn
  go_enter Try.func10, Try.ntmps10
  go_wp2_with fail
  refine Hk.out.mono ?_
  rintro e w1 ⟨rfl, hb1⟩
  have Hf := Lib.hid (HF.out w1 hb1)
  have Hi := Lib.hid (HI'.out w1 hb1)
  clear hb1 HF HI' Hk
  go_wp2_with fail
  refine Hf.out.mono ?_
  rintro e w2 ⟨rfl, rfl⟩
  go_wp2_with fail
  refine Hi.out.mono ?_
  rintro e w2 ⟨g, rfl, hm2, hb2⟩
  have Hb2 := Lib.hid hb2
  have Hm2 := Lib.hid hm2
  have Ha := Lib.hid (HA1.out w2 hb2)
  clear hb2 hm2 Hi Hf HA1
  go_wp2_with fail
  refine Ha.out.mono ?_
  rintro e w3 ⟨rfl, hk3, hb3⟩
  have Hb3 : Hid (Below w.heap.size w w3) := Hb2.out.trans (hb3.mono Hb2.out.size)
  have Ha2 := Lib.hid (HA2.out w3 g w2.heap.size ((Hm2.out.below hb3).wide hb3.size) hk3)
  clear hk3 hb3 Ha HA2 Hb2 Hm2
  go_wp2_with fail
  refine Ha2.out.mono ?_
  rintro e w4 ⟨rfl, hk4, hb4⟩
  have Hb4 : Hid (Below w.heap.size w w4) := Hb3.out.trans (hb4.mono Hb3.out.size)
  have t1 : (convert 46 9 (.slice Av n cv)).run Try.prog w4 = .ok (.string X) w4 := HT1.out w4 Hb4.out 0
  have t2 : (convert 46 9 (.slice (some ⟨w3.heap.size, 0, none⟩) n n)).run Try.prog w4 = .ok (.string X) w4 := HT2.out w4 w3.heap.size hk4 0
  clear hk4 hb4 Ha2 HT1 HT2 Hb3
  go_wp2_with fail
  go_ret
  exact ⟨by simp, Hb4.out⟩
end Go.Proofs.Ytbfbjmngcojaoaa
