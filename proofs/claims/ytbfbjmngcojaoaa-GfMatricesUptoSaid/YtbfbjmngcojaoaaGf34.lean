/-
  GfMatrices, walked.
-/
import Derived.Test.YtbfbjmngcojaoaaGf33
namespace Go.Proofs.Ytbfbjmngcojaoaa
open Go.RowKit

set_option maxRecDepth 20000
set_option maxHeartbeats 1000000 in
theorem rinverse_no (A : Option Addr) (c : Nat) (M : Mtx) (w : World) (h : RM w w.heap.size A M) (hl : M.length ≤ 1048576) (hll : ∀ (k : Nat) (l : List UInt8), M[k]? = some l → l.length ≤ 1048576) (hs : sqB M = false) :
    Calls Try.prog 34 #[.slice A M.length c] w (TellsR w [] 1) := by
  have HR := Lib.hid (rright_any A c M w _ h hl hll)
  by_cases hr : rightB M = true
  · rw [hr] at HR
    obtain ⟨n, h1, h2, h3, h4, h5, h6, h7⟩ := right_facts hr
    have hne : M.length ≠ n := fun e => by
      unfold sqB at hs
      rw [hr, h6, decide_eq_true e] at hs
      cases hs
    obtain ⟨b, o, rfl, hb⟩ := h.at_ (by omega)
    obtain ⟨A0, c0, q0, _, _⟩ := h.row h5
    rw [h6, Nat.add_zero] at q0
    have hbb : (((M.length : Nat) : Int) != (n : Int)) = true := by simp; omega
    have h1' : (0 : Int) < ((M.length : Nat) : Int) := by omega
    generalize M.length = N at *
    clear h hl hll hs hr h1 h2 h3 h4 h5 h6 h7 hne hb
    go_enter Try.func34, Try.ntmps34
    go_wp2_with fail
    refine HR.out.mono ?_
    rintro e w1 ⟨rfl, q, hw⟩
    have Hb : Hid (Below w.heap.size w w1) := by rw [hw]; exact drewN_below (Below.refl _ _) q
    have q1 : w1.cell? ⟨b, o, none⟩ = some (.slice A0 n c0) := by rw [hw]; exact q0
    clear hw q0
    go_wp2_with fail
    go_ret2
    exact ⟨none, 0, rfl, RM.nil _ _ _, Hb.out⟩
  · rw [Bool.not_eq_true] at hr
    rw [hr] at HR
    generalize M.length = N at *
    clear h hl hll hs hr
    go_enter Try.func34, Try.ntmps34
    go_wp2_with fail
    refine HR.out.mono ?_
    rintro e w1 ⟨rfl, q, hw⟩
    have Hb : Hid (Below w.heap.size w w1) := by rw [hw]; exact drewN_below (Below.refl _ _) q
    clear hw
    go_wp2_with fail
    go_ret2
    exact ⟨none, 0, rfl, RM.nil _ _ _, Hb.out⟩
theorem rinverse_told (A : Option Addr) (c : Nat) (M : Mtx) (w : World) (h : RM w w.heap.size A M) (hl : M.length ≤ 1048576) (hll : ∀ (k : Nat) (l : List UInt8), M[k]? = some l → l.length ≤ 1048576) :
    Calls Try.prog 34 #[.slice A M.length c] w (TellsR w (invL M) (invC M)) := by
  by_cases hs : sqB M = true
  · obtain ⟨n, hn1, hn2, hd, _⟩ := inv_sq hs
    have hr : rightB M = true := by
      unfold sqB at hs
      rw [Bool.and_eq_true] at hs
      exact hs.1
    have := rinverse_sq A c n M w h hn1 hn2 hd hr
    rw [← hd.1] at this
    refine this.mono fun e w' hx => ?_
    unfold invL invC
    rw [if_pos hs, if_pos hs]
    rcases hx with ⟨S, e1, e2⟩ | ⟨e1, e2⟩
    · rw [e1]; exact e2
    · rw [e1]; exact e2
  · rw [Bool.not_eq_true] at hs
    have e1 : invL M = [] := by unfold invL; rw [hs]; rfl
    have e2 : ((invC M : Nat) : Int) = 1 := by unfold invC; rw [hs]; rfl
    rw [e1, e2]
    exact rinverse_no A c M w h hl hll hs
theorem invC_le (M : Mtx) : invC M ≤ 4 := by
  unfold invC
  split
  · split <;> omega
  · omega
set_option maxHeartbeats 4000000 in
theorem matrices_any (A : Option Addr) (c : Nat) (M : Mtx) (A2 : Option Addr) (c2 : Nat) (O : Mtx) (A3 : Option Addr) (c3 : Nat) (v : List UInt8) (A4 : Option Addr) (c4 : Nat) (ns : List Int) (w : World) (h : RM w w.heap.size A M) (hs : Small M) (h2 : RM w w.heap.size A2 O) (hs2 : Small O) (h3 : RB w w.heap.size A3 v) (hl3 : v.length ≤ 1048576) (h4 : RI w w.heap.size A4 ns) (hl4 : ns.length ≤ 1048576) :
    Calls Try.prog 5 #[.slice A M.length c, .slice A2 O.length c2, .slice A3 v.length c3, .slice A4 ns.length c4] w fun e w' => e = .returned (.bool true) ∧ Below w.heap.size w w' := by
  have Hk := Lib.hid (known_any w)
  have HF : Hid (∀ W, Below w.heap.size w W → Calls Try.prog 21 #[.slice A M.length c] W fun e w' => e = .returned (.bool (fewM M)) ∧ W = w') := fun W hb => few_any A c M W _ (h.below hb) hs.1 hs.2
  have HF2 : Hid (∀ W, Below w.heap.size w W → Calls Try.prog 21 #[.slice A2 O.length c2] W fun e w' => e = .returned (.bool (fewM O)) ∧ W = w') := fun W hb => few_any A2 c2 O W _ (h2.below hb) hs2.1 hs2.2
  have hl3' : ((v.length : Nat) : Int) ≤ 1048576 := by omega
  have hl4' : ((ns.length : Nat) : Int) ≤ 1048576 := by omega
  cases hfb : fewM M
  · rw [hfb] at HF
    generalize M.length = N at *
    generalize O.length = K at *
    generalize v.length = m at *
    generalize ns.length = J at *
    clear h hs h2 hs2 h3 hl3 h4 hl4 hfb HF2
    go_enter Try.func5, Try.ntmps5
    go_wp2_with fail
    refine Hk.out.mono ?_
    rintro e w1 ⟨rfl, hb1⟩
    have Hb1 := Lib.hid hb1
    have Hf := Lib.hid (HF.out w1 hb1)
    clear hb1
    go_wp2_with fail
    refine Hf.out.mono ?_
    rintro e w2 ⟨rfl, rfl⟩
    go_wp2_with fail
    go_ret
    exact ⟨rfl, Hb1.out⟩
  rw [hfb] at HF
  cases hfb2 : fewM O
  · rw [hfb2] at HF2
    generalize M.length = N at *
    generalize O.length = K at *
    generalize v.length = m at *
    generalize ns.length = J at *
    clear h hs h2 hs2 h3 hl3 h4 hl4 hfb hfb2
    go_enter Try.func5, Try.ntmps5
    go_wp2_with fail
    refine Hk.out.mono ?_
    rintro e w1 ⟨rfl, hb1⟩
    have Hb1 := Lib.hid hb1
    have Hf := Lib.hid (HF.out w1 hb1)
    have Hf2 := Lib.hid (HF2.out w1 hb1)
    clear hb1
    go_wp2_with fail
    refine Hf.out.mono ?_
    rintro e w2 ⟨rfl, rfl⟩
    go_wp2_with fail
    refine Hf2.out.mono ?_
    rintro e w2 ⟨rfl, rfl⟩
    go_wp2_with fail
    go_ret
    exact ⟨rfl, Hb1.out⟩
  rw [hfb2] at HF2
  by_cases hv2 : v.length ≤ 2000
  case neg =>
    have hv2' : (2000 : Int) < ((v.length : Nat) : Int) := by omega
    generalize M.length = N at *
    generalize O.length = K at *
    generalize v.length = m at *
    generalize ns.length = J at *
    clear h hs h2 hs2 h3 hl3 h4 hl4 hfb hfb2 hv2
    go_enter Try.func5, Try.ntmps5
    go_wp2_with fail
    refine Hk.out.mono ?_
    rintro e w1 ⟨rfl, hb1⟩
    have Hb1 := Lib.hid hb1
    have Hf := Lib.hid (HF.out w1 hb1)
    have Hf2 := Lib.hid (HF2.out w1 hb1)
    clear hb1
    go_wp2_with fail
    refine Hf.out.mono ?_
    rintro e w2 ⟨rfl, rfl⟩
    go_wp2_with fail
    refine Hf2.out.mono ?_
    rintro e w2 ⟨rfl, rfl⟩
    go_wp2_with fail
    go_ret
    exact ⟨rfl, Hb1.out⟩
  have hv2' : ¬ (2000 : Int) < ((v.length : Nat) : Int) := by omega
  by_cases h300 : ns.length ≤ 300
  case neg =>
    have h30' : (300 : Int) < ((ns.length : Nat) : Int) := by omega
    generalize M.length = N at *
    generalize O.length = K at *
    generalize v.length = m at *
    generalize ns.length = J at *
    clear h hs h2 hs2 h3 hl3 h4 hl4 hfb hfb2 hv2 h300
    go_enter Try.func5, Try.ntmps5
    go_wp2_with fail
    refine Hk.out.mono ?_
    rintro e w1 ⟨rfl, hb1⟩
    have Hb1 := Lib.hid hb1
    have Hf := Lib.hid (HF.out w1 hb1)
    have Hf2 := Lib.hid (HF2.out w1 hb1)
    clear hb1
    go_wp2_with fail
    refine Hf.out.mono ?_
    rintro e w2 ⟨rfl, rfl⟩
    go_wp2_with fail
    refine Hf2.out.mono ?_
    rintro e w2 ⟨rfl, rfl⟩
    go_wp2_with fail
    go_ret
    exact ⟨rfl, Hb1.out⟩
  have h30' : ¬ (300 : Int) < ((ns.length : Nat) : Int) := by omega
  have T1 : Hid (∀ W, Below w.heap.size w W → Calls Try.prog 29 #[.slice A M.length c, .slice A2 O.length c2] W (TellsO W (timesL M O) (timesE M O))) := fun W hb => times_any A c M A2 c2 O W ((h.below hb).wide hb.size) hs.1 hs.2 ((h2.below hb).wide hb.size) hs2.1 hs2.2
  have T2 : Hid (∀ W, Below w.heap.size w W → Calls Try.prog 30 #[.slice A M.length c, .slice A2 O.length c2] W (TellsR W (timesL M O) (timesE M O))) := fun W hb => rtimes_told A c M A2 c2 O W ((h.below hb).wide hb.size) hs.1 hs.2 ((h2.below hb).wide hb.size) hs2.1 hs2.2
  have P1 : Hid (∀ W, Below w.heap.size w W → Calls Try.prog 31 #[.slice A M.length c, .slice A3 v.length c3] W (TellsB W (applyLL M v) (applyE M v))) := fun W hb => apply_told A c M A3 c3 v W ((h.below hb).wide hb.size) hs.1 hs.2 ((h3.below hb).wide hb.size) hl3'
  have P2 : Hid (∀ W, Below w.heap.size w W → Calls Try.prog 32 #[.slice A M.length c, .slice A3 v.length c3] W (TellsB W (applyLL M v) (applyE M v))) := fun W hb => rapply_told A c M A3 c3 v W ((h.below hb).wide hb.size) hs.1 hs.2 ((h3.below hb).wide hb.size) hl3'
  have I1 : Hid (∀ W, Below w.heap.size w W → Calls Try.prog 33 #[.slice A M.length c] W (TellsO W (invL M) (invC M))) := fun W hb => inverse_any A c M W ((h.below hb).wide hb.size) hs.1 hs.2
  have I2 : Hid (∀ W, Below w.heap.size w W → Calls Try.prog 34 #[.slice A M.length c] W (TellsR W (invL M) (invC M))) := fun W hb => rinverse_told A c M W ((h.below hb).wide hb.size) hs.1 hs.2
  have R1 : Hid (∀ W, Below w.heap.size w W → Calls Try.prog 35 #[.slice A M.length c, .slice A4 ns.length c4] W (TellsO W (rowsL M ns) (rowsE M ns))) := fun W hb => rows_any A c M A4 c4 ns W ((h.below hb).wide hb.size) hs.1 hs.2 ((h4.below hb).move (fun _ _ => rfl) hb.size) hl4
  have R2 : Hid (∀ W, Below w.heap.size w W → Calls Try.prog 36 #[.slice A M.length c, .slice A4 ns.length c4] W (TellsR W (rowsL M ns) (rowsE M ns))) := fun W hb => rrows_any A c M A4 c4 ns W ((h.below hb).wide hb.size) hs.1 hs.2 ((h4.below hb).move (fun _ _ => rfl) hb.size) hl4
  have HL : Hid ((timesL M O).length ≤ 1048576 ∧ (invL M).length ≤ 1048576 ∧ (rowsL M ns).length ≤ 1048576) := ⟨(few_times M O).small.1, (few_inv M).small.1, (few_rows M ns).small.1⟩
  have ht0 : 0 ≤ timesE M O := by unfold timesE; split <;> omega
  have ht1 : timesE M O ≤ 1 := by unfold timesE; split <;> omega
  have hp0 : 0 ≤ applyE M v := by unfold applyE; split <;> omega
  have hp1 : applyE M v ≤ 1 := by unfold applyE; split <;> omega
  have hi0 : (0 : Int) ≤ ((invC M : Nat) : Int) := by omega
  have hi1 : ((invC M : Nat) : Int) ≤ 4 := by have := invC_le M; omega
  have hz0 : 0 ≤ rowsE M ns := by unfold rowsE; split <;> omega
  have hz1 : rowsE M ns ≤ 1 := by unfold rowsE; split <;> omega
  generalize timesE M O = zt at *
  generalize applyE M v = zp at *
  generalize ((invC M : Nat) : Int) = zi at *
  generalize rowsE M ns = zr at *
  generalize timesL M O = LT at *
  generalize applyLL M v = LP at *
  generalize invL M = LI at *
  generalize rowsL M ns = LR at *
  generalize M.length = N at *
  generalize O.length = K at *
  generalize v.length = m at *
  generalize ns.length = J at *
  clear h hs h2 hs2 h3 hl3 h4 hl4 hfb hfb2 hv2 h300
  go_enter Try.func5, Try.ntmps5
  go_wp2_with fail
  refine Hk.out.mono ?_
  rintro e w1 ⟨rfl, hb1⟩
  have Hb1 := Lib.hid hb1
  have Hf := Lib.hid (HF.out w1 hb1)
  have Hf2 := Lib.hid (HF2.out w1 hb1)
  clear hb1
  go_wp2_with fail
  refine Hf.out.mono ?_
  rintro e w2 ⟨rfl, rfl⟩
  go_wp2_with fail
  refine Hf2.out.mono ?_
  rintro e w2 ⟨rfl, rfl⟩
  clear Hf Hf2 HF HF2 Hk
  have Ct := Lib.hid (T1.out w1 Hb1.out)
  go_wp2_with fail
  refine Ct.out.mono ?_
  rintro e wat hx
  obtain ⟨Aat, cat, rfl, ra, _, hb⟩ := hx.rm
  have Hat : Hid (Below w.heap.size w wat) := Hb1.out.trans (hb.mono Hb1.out.size)
  have Rat := Lib.hid ra
  have Dt := Lib.hid (T2.out wat Hat.out)
  clear hx ra hb Ct
  go_wp2_with fail
  refine Dt.out.mono ?_
  rintro e wbt ⟨Abt, cbt, rfl, rb, hb⟩
  have Hbt : Hid (Below w.heap.size w wbt) := Hat.out.trans (hb.mono Hat.out.size)
  have Et : Hid (Calls Try.prog 24 #[.slice Aat LT.length cat, .slice Abt LT.length cbt] wbt fun e w' => e = .returned (.bool true) ∧ ∃ q, w' = wbt.drewN q) := same_self ((Rat.out.below hb).wide hb.size) rb HL.out.1
  clear rb hb Dt Rat Hat
  generalize LT.length = lt at *
  go_wp2_with fail
  refine Et.out.mono ?_
  rintro e wct ⟨rfl, q, hw⟩
  have Hct : Hid (Below w.heap.size w wct) := by rw [hw]; exact drewN_below Hbt.out _
  clear hw Et Hbt Hb1 T1 T2
  have Cp := Lib.hid (P1.out wct Hct.out)
  go_wp2_with fail
  refine Cp.out.mono ?_
  rintro e wap ⟨Aap, cap, rfl, ra, hb⟩
  have Hap : Hid (Below w.heap.size w wap) := Hct.out.trans (hb.mono Hct.out.size)
  have Rap := Lib.hid ra
  have Dp := Lib.hid (P2.out wap Hap.out)
  clear ra hb Cp Hct
  go_wp2_with fail
  refine Dp.out.mono ?_
  rintro e wbp ⟨Abp, cbp, rfl, rb, hb⟩
  have Hbp : Hid (Below w.heap.size w wbp) := Hap.out.trans (hb.mono Hap.out.size)
  have Hall : Hid (∀ q, Below w.heap.size w (wbp.drewN q)) := fun q => drewN_below Hbp.out q
  have t1 := eql_str_conv wbp _ Aap LP cap ((Rap.out.below hb).wide hb.size)
  have t2 := eql_str_conv wbp _ Abp LP cbp rb
  have u1 : (convert 46 9 (.slice Aap LP.length cap)).run Try.prog wbp = .ok (.string ⟨LP.toArray⟩) wbp := t1 0
  have u2 : (convert 46 9 (.slice Abp LP.length cbp)).run Try.prog wbp = .ok (.string ⟨LP.toArray⟩) wbp := t2 0
  clear rb hb Dp Rap Hap P1 P2 t1 t2
  generalize (⟨LP.toArray⟩ : ByteArray) = X at u1 u2
  generalize LP.length = lp at *
  have Ci := Lib.hid (I1.out wbp Hbp.out)
  go_wp2_with fail
  refine Ci.out.mono ?_
  rintro e wai hx
  obtain ⟨Aai, cai, rfl, ra, _, hb⟩ := hx.rm
  have Hai : Hid (Below w.heap.size w wai) := Hbp.out.trans (hb.mono Hbp.out.size)
  have Rai := Lib.hid ra
  have Di := Lib.hid (I2.out wai Hai.out)
  clear hx ra hb Ci
  go_wp2_with fail
  refine Di.out.mono ?_
  rintro e wbi ⟨Abi, cbi, rfl, rb, hb⟩
  have Hbi : Hid (Below w.heap.size w wbi) := Hai.out.trans (hb.mono Hai.out.size)
  have Ei : Hid (Calls Try.prog 24 #[.slice Aai LI.length cai, .slice Abi LI.length cbi] wbi fun e w' => e = .returned (.bool true) ∧ ∃ q, w' = wbi.drewN q) := same_self ((Rai.out.below hb).wide hb.size) rb HL.out.2.1
  clear rb hb Di Rai Hai
  generalize LI.length = li at *
  go_wp2_with fail
  refine Ei.out.mono ?_
  rintro e wci ⟨rfl, q, hw⟩
  have Hci : Hid (Below w.heap.size w wci) := by rw [hw]; exact drewN_below Hbi.out _
  clear hw Ei Hbi Hbp I1 I2
  have Cr := Lib.hid (R1.out wci Hci.out)
  go_wp2_with fail
  refine Cr.out.mono ?_
  rintro e war hx
  obtain ⟨Aar, car, rfl, ra, _, hb⟩ := hx.rm
  have Har : Hid (Below w.heap.size w war) := Hci.out.trans (hb.mono Hci.out.size)
  have Rar := Lib.hid ra
  have Dr := Lib.hid (R2.out war Har.out)
  clear hx ra hb Cr
  go_wp2_with fail
  refine Dr.out.mono ?_
  rintro e wbr ⟨Abr, cbr, rfl, rb, hb⟩
  have Hbr : Hid (Below w.heap.size w wbr) := Har.out.trans (hb.mono Har.out.size)
  have Er : Hid (Calls Try.prog 24 #[.slice Aar LR.length car, .slice Abr LR.length cbr] wbr fun e w' => e = .returned (.bool true) ∧ ∃ q, w' = wbr.drewN q) := same_self ((Rar.out.below hb).wide hb.size) rb HL.out.2.2
  clear rb hb Dr Rar Har
  generalize LR.length = lr at *
  go_wp2_with fail
  refine Er.out.mono ?_
  rintro e wcr ⟨rfl, q, hw⟩
  have Hcr : Hid (Below w.heap.size w wcr) := by rw [hw]; exact drewN_below Hbr.out _
  clear hw Er Hbr
  go_wp2_with fail
  go_ret
  exact ⟨by simp, Hcr.out⟩
end Go.Proofs.Ytbfbjmngcojaoaa
