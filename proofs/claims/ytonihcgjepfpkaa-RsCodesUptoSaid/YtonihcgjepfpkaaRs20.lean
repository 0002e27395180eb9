/-
  The program's Check.
-/
import Derived.Test.YtonihcgjepfpkaaKRs12
namespace Go.Proofs.Ytonihcgjepfpkaa
open Go.RowKit

set_option maxRecDepth 20000
theorem equal_any (A A2 : Option Addr) (c c2 : Nat) (l m : List UInt8) (w : World) (B : Nat) (h : RB w B A l) (h2 : RB w B A2 m) :
    Calls Try.prog 41 #[.slice A l.length c, .slice A2 m.length c2] w fun e w' => e = .returned (.bool (decide (l = m))) ∧ w = w' := by
  have t1 := text_run w B A l c h
  have t2 := text_run w B A2 m c2 h2
  have He : Hid (((⟨l.toArray⟩ : ByteArray).toList == (⟨m.toArray⟩ : ByteArray).toList) = decide (l = m)) := by
    show _ = _
    rw [eq_text]
    by_cases e : l = m
    · rw [decide_eq_true (by rw [e]), decide_eq_true e]
    · rw [decide_eq_false (fun q => e (by
        have := congrArg (fun s : ByteArray => s.data.toList) q
        simpa using this)), decide_eq_false e]
  generalize (⟨l.toArray⟩ : ByteArray) = X at *
  generalize (⟨m.toArray⟩ : ByteArray) = Y at *
  generalize l.length = n1 at *
  generalize m.length = n2 at *
  clear h h2
  go_enter Try.func41, Try.ntmps41
  go_wp2_with fail
  go_ret
  exact ⟨by rw [← He.out]; rfl, rfl⟩
set_option maxHeartbeats 1600000 in
theorem eqf_any (A A2 : Option Addr) (c c2 : Nat) (M M2 : Mtx) (w : World) (B : Nat) (h : RM w B A M) (h2 : RM w B A2 M2) (hl : M.length ≤ 1048576) (hl2 : M2.length ≤ 1048576) :
    Calls Try.prog 40 #[.slice A M.length c, .slice A2 M2.length c2, .func (.func 41) #[] #[]] w fun e w' => e = .returned (.bool (decide (M = M2))) ∧ w = w' := by
  by_cases hne : M.length = M2.length
  case neg =>
    have hb : (((M.length : Nat) : Int) != ((M2.length : Nat) : Int)) = true := by simp; omega
    have Hr : Hid (decide (M = M2) = false) := decide_eq_false fun e => hne (by rw [e])
    generalize M.length = n1 at *
    generalize M2.length = n2 at *
    clear h h2 hl hne
    go_enter Try.func40, Try.ntmps40
    go_wp2_with fail
    go_ret
    exact ⟨by rw [Hr.out]; rfl, rfl⟩
  obtain ⟨N, hN⟩ : ∃ N, N = M.length := ⟨_, rfl⟩
  have HN : Hid (N = M.length ∧ N = M2.length) := ⟨hN, by rw [← hne]; exact hN⟩
  have Hh := Lib.hid h
  have Hh2 := Lib.hid h2
  rw [← hne, ← hN]
  have hNb : (N : Int) ≤ 1048576 := by omega
  clear h h2 hl hl2 hne hN
  have Hst : Hid (M.take 0 = M2.take 0) := rfl
  go_enter Try.func40, Try.ntmps40
  go_wp2_with fail
  go_loop [7, 8, 9, 17] (fun _ _ _ iv => ∃ k : Nat, iv = .int .i64 (k : Int) ∧ k ≤ N ∧ Hid (M.take k = M2.take k)) (fun _ _ _ iv => N - (intOf iv).toNat)
  case atStart => exact ⟨0, rfl, Nat.zero_le _, Hst.out⟩
  case round =>
    obtain ⟨k, rfl, hk, hpre⟩ := hrel
    by_cases hlt : k < N
    · obtain ⟨l, hx⟩ : ∃ l, M[k]? = some l := ⟨_, List.getElem?_eq_getElem (by rw [← HN.out.1]; exact hlt)⟩
      obtain ⟨l2, hx2⟩ : ∃ l2, M2[k]? = some l2 := ⟨_, List.getElem?_eq_getElem (by rw [← HN.out.2]; exact hlt)⟩
      obtain ⟨b, o, A', c', rfl, hb, hc, hr, _⟩ := Hh.out k l hx
      obtain ⟨b2, o2, A2', c2', rfl, hb2, hc2, hr2, _⟩ := Hh2.out k l2 hx2
      have HE := Lib.hid (equal_any A' A2' c' c2' l l2 w B hr hr2)
      have hk' : (k : Int) < (N : Int) := by omega
      by_cases heq : l = l2
      · subst heq
        rw [decide_eq_true rfl] at HE
        have Hn : Hid (M.take (k + 1) = M2.take (k + 1)) := by
          show _ = _
          rw [List.take_add_one, List.take_add_one, hx, hx2, hpre.out]
        generalize l.length = m at *
        clear hx hx2 hr hr2 hb hb2 hpre hlt
        go_wp2_with fail
        refine HE.out.mono ?_
        rintro e w1 ⟨rfl, rfl⟩
        go_wp2_with fail
        go_round
        case rel => exact ⟨k + 1, by go_num, by omega, Hn.out⟩
        case measure => simp [intOf]; omega
      · have Hr : Hid (decide (M = M2) = false) := decide_eq_false fun e => heq (by
          rw [e, hx2] at hx
          exact (Option.some.inj hx).symm)
        rw [decide_eq_false heq] at HE
        generalize l.length = m at *
        generalize l2.length = m2 at *
        clear hx hx2 hr hr2 hb hb2 hpre hlt heq
        go_wp2_with fail
        refine HE.out.mono ?_
        rintro e w1 ⟨rfl, rfl⟩
        go_wp2_with fail
        go_ret
        exact ⟨by rw [Hr.out]; rfl, rfl⟩
    · obtain rfl : k = N := by omega
      have Hr : Hid (decide (M = M2) = true) := decide_eq_true (by
        have := hpre.out
        rwa [List.take_of_length_le (by rw [← HN.out.1]; exact Nat.le_refl _), List.take_of_length_le (by rw [← HN.out.2]; exact Nat.le_refl _)] at this)
      clear hlt hpre
      go_wp2_with fail
      go_ret
      exact ⟨by rw [Hr.out]; rfl, rfl⟩
/-- what Check tells -/
def chkB (k : Nat) (S : Mtx) : Bool := fitB ((k : Int) + 2) S && decide ((missL S).length = 0)
def chkV (k : Nat) (S : Mtx) : Bool := decide (parL k (S.take k) = S.drop k)
def chkA (k : Nat) (S : Mtx) : Bool := chkB k S && chkV k S
def chkE (k : Nat) (S : Mtx) : Int := if chkB k S then 0 else 1
theorem chk_facts {k : Nat} {S : Mtx} (h : chkB k S = true) : S.length = k + 2 ∧ 1 ≤ (S.headD []).length ∧ ∀ (i : Nat) (l : List UInt8), S[i]? = some l → l.length = (S.headD []).length := by
  have h' : parB (k + 2) S = true := by
    unfold chkB at h
    unfold parB
    rw [show (((k + 2 : Nat)) : Int) = (k : Int) + 2 by omega]
    exact h
  exact par_facts h' (by omega)
theorem RM.take' {w : World} {B : Nat} {A : Option Addr} {M : Mtx} (h : RM w B A M) (k : Nat) : RM w B A (M.take k) := fun j l hl => by
  rw [List.getElem?_take] at hl
  split at hl
  · exact h j l hl
  · cases hl
theorem RM.drop' {w : World} {B b o : Nat} {M : Mtx} (h : RM w B (some ⟨b, o, none⟩) M) (k : Nat) : RM w B (some ⟨b, o + k, none⟩) (M.drop k) := fun j l hl => by
  rw [List.getElem?_drop] at hl
  obtain ⟨b', o', A', c, e, hb, hc, hr, hcap⟩ := h _ l hl
  cases e
  exact ⟨b, o + k, A', c, rfl, hb, by rw [Nat.add_assoc]; exact hc, hr, hcap⟩
theorem slice_low (W : World) (b o k n c : Nat) (h1 : k ≤ n) (h2 : k < c) : (Instr.sliceAt 22 (.slice (some ⟨b, o, none⟩) n c) (some (.int .i64 (k : Int))) none none).run Try.prog W = .ok (.slice (some ⟨b, o + k, none⟩) (n - k) (c - k)) W := by
  have h3 : (k : Int) ≤ (n : Int) := by omega
  have h4 : ¬ k = c := by omega
  simp [go_sem, h3, h4, sliced, Addr.add]
  rw [if_neg (by omega)]
  by_cases h5 : k = 0
  · subst h5; simp
  · simp [h5]
set_option maxHeartbeats 1600000 in
theorem check_body (c0 c1 bc k N c : Nat) (A : Option Addr) (S : Mtx) (w : World) (he : EnvAt c0 c1 bc k (.slice A N c) w) (h : RM w w.heap.size A S) (hN : N = S.length) (hNc : N ≤ c) (hN2 : N ≤ 255) (hk1 : 1 ≤ k) (hk2 : k ≤ 253) (hl : ∀ (k : Nat) (l : List UInt8), S[k]? = some l → l.length ≤ 1048576) :
    Calls Try.prog 38 #[.pointer (some ⟨c0, 0, none⟩), .pointer (some ⟨c1, 0, none⟩)] w (DoPost w (fun v _ => chkB k S = true ∧ v = .bool (chkV k S)) (fun x => chkB k S = false ∧ x = 1)) := by
  have Hb : Hid (N = S.length ∧ N ≤ 255 ∧ 1 ≤ k ∧ k ≤ 253 ∧ N ≤ c) := ⟨hN, hN2, hk1, hk2, hNc⟩
  have Hh := Lib.hid h
  have He := Lib.hid he
  have Hl := Lib.hid hl
  have HF := Lib.hid (mustFit_any ((k : Int) + 2) A c N S w.drew _ (h.drewN 1) hN (by omega) hl)
  have HT := Lib.hid (mustBeThere_any A c N S w.drew (h.drewN 1) hN (by omega))
  have hk2' : (k : Int) ≤ 253 := by omega
  have hN2' : (N : Int) ≤ 255 := by omega
  obtain ⟨q1, q2, q3⟩ := he
  clear h hN hNc hN2 hk1 hk2 hl
  go_enter Try.func38, Try.ntmps38
  go_wp2_with fail
  refine wp_region_still_tail 6 (by kernel_rfl) (by kernel_rfl) ?_
  simp only [List.take_succ_cons, List.take_zero, List.drop_succ_cons, List.drop_zero]
  repeat still_step
  try refine wpStill_nil ?_
  change wpList _ _ _ _ _ w.drew
  go_wp2_with fail
  rcases hf : fitB ((k : Int) + 2) S with _ | _
  · rw [hf] at HF
    refine HF.out.mono ?_
    rintro e w1 ⟨rfl, rfl⟩
    change bodyPost _ _ _ (Exit.panic _) _ _
    exact ⟨rfl, drewN_below (Below.refl _ _) 1, .inr ⟨1, ⟨by unfold chkB; rw [hf]; rfl, rfl⟩, rfl⟩⟩
  rw [hf] at HF
  have HF2 : Hid (Calls Try.prog 22 #[.int .i64 ((k : Int) + 2), .slice A N c] w.drew fun e w' => e = .returned (.tuple #[]) ∧ w.drew = w') := HF.out
  have Hf := Lib.hid hf
  clear hf HF
  refine HF2.out.mono ?_
  rintro e w1 ⟨rfl, rfl⟩
  go_wp2_with fail
  rcases hm : decide ((missL S).length = 0) with _ | _
  · rw [hm] at HT
    refine HT.out.mono ?_
    rintro e w1 ⟨rfl, hb⟩
    change bodyPost _ _ _ (Exit.panic _) _ _
    exact ⟨rfl, (drewN_below (Below.refl _ _) 1).trans hb, .inr ⟨1, ⟨by unfold chkB; rw [Hf.out, hm]; rfl, rfl⟩, rfl⟩⟩
  rw [hm] at HT
  have HT2 : Hid (Calls Try.prog 23 #[.slice A N c] w.drew fun e w' => e = .returned (.tuple #[]) ∧ Below w.drew.heap.size w.drew w') := HT.out
  have Hp : Hid (chkB k S = true) := by unfold Hid chkB; rw [Hf.out, hm]; rfl
  clear hm HT HF2 Hf
  refine HT2.out.mono ?_
  rintro e w2 ⟨rfl, hb2⟩
  have hb2 : Below w.heap.size w w2 := (drewN_below (Below.refl _ w) 1).trans hb2
  obtain ⟨p1, p2, p3⟩ := chk_facts Hp.out
  obtain ⟨b, o, rfl, hbl⟩ := Hh.out.at_ (by omega)
  obtain ⟨r1, r2, r3⟩ := He.out.below hb2
  have HS : Hid (∀ W, Below w.heap.size w W → W.cell? ⟨c0, 0, none⟩ = some (.pointer (some ⟨bc, 0, none⟩)) ∧ W.cell? ⟨bc, 0, none⟩ = some (.int .i64 (k : Int)) ∧ W.cell? ⟨c1, 0, none⟩ = some (.slice (some ⟨b, o, none⟩) N c)) := fun W hb => ⟨(He.out.below hb).code, (He.out.below hb).num, (He.out.below hb).shards⟩
  have Hb2 : Hid (Below w.heap.size w w2.drew) := drewN_below hb2 1
  have hpb : parB k (S.take k) = true := par_yes (by rw [List.length_take]; omega) p2 (fun i l hl => by
    rw [List.getElem?_take] at hl
    split at hl
    · exact p3 i l hl
    · cases hl)
  have HPar : Hid (Calls Try.prog 12 #[.pointer (some ⟨bc, 0, none⟩), .slice (some ⟨b, o, none⟩) k c] w2.drew fun e w' => ∃ A8 c8, e = .returned (.tuple #[.slice A8 2 c8, .int .i64 0]) ∧ RM w' w'.heap.size A8 (parL k (S.take k)) ∧ Below w2.drew.heap.size w2.drew w') := by
    have := parity_any bc k k c (some ⟨b, o, none⟩) (S.take k) w2.drew r2 (((Hh.out.take' k).below hb2).wide hb2.size |>.drewN 1) (by rw [List.length_take]; omega) (by have := Hb.out; omega) Hb.out.2.2.1 Hb.out.2.2.2.1 (fun i l hl => by
      rw [List.getElem?_take] at hl
      split at hl
      · exact Hl.out i l hl
      · cases hl)
    have e2 : parE k (S.take k) = 0 := by unfold parE; rw [if_pos hpb]
    rw [e2] at this
    refine this.mono fun e w' hx => ?_
    obtain ⟨A8, c8, g1, g2, _, g3⟩ := hx.rm
    rw [show (parL k (S.take k)).length = 2 by unfold parL; rw [if_pos hpb]; rfl] at g1
    exact ⟨A8, c8, g1, g2, g3⟩
  have Hpl : Hid ((parL k (S.take k)).length = 2 ∧ S.length = k + 2) := ⟨by unfold parL; rw [if_pos hpb]; rfl, p1⟩
  have hkc : (k : Int) ≤ (c : Int) := by have := Hb.out; omega
  have hkN : (k : Int) ≤ (N : Int) := by have := Hb.out; omega
  obtain rfl : N = k + 2 := by have := Hb.out; omega
  have hkc2 : (k : Int) < (c : Int) := by have := Hb.out; omega
  have hkc3 : k < c := by have := Hb.out; omega
  clear hb2 p1 p2 p3 hpb q1 q2 q3 HT2 hbl
  go_wp2_with fail
  go_region_held3 (fun W => W.cell? ⟨c0, 0, none⟩ = some (.pointer (some ⟨bc, 0, none⟩)) ∧ W.cell? ⟨bc, 0, none⟩ = some (.int .i64 (k : Int)) ∧ W.cell? ⟨c1, 0, none⟩ = some (.slice (some ⟨b, o, none⟩) (k + 2) c)) (first | exact ⟨r1, r2, r3⟩ | exact hS5)
    (first
      | (go_at_call 12; refine HPar.out.mono ?_; rintro e w5 ⟨A8, c8, rfl, r8, b8⟩; have Hb5 : Hid (Below w.heap.size w w5 ∧ RM w5 w5.heap.size A8 (parL k (S.take k))) := ⟨Hb2.out.trans (b8.mono Hb2.out.size), r8⟩; have hS5 := HS.out w5 Hb5.out.1; clear r8 b8)
      | (go_at_call 39; refine (mustL_ok _ _ _ _).mono ?_; rintro e w9 ⟨rfl, rfl⟩))
  obtain ⟨y1, y2, y3⟩ := hS5
  have hq1 : ¬ k = c := by omega
  go_wp2_with fail
  refine wp_region_still_tail 7 (by kernel_rfl) (by kernel_rfl) ?_
  simp only [List.take_succ_cons, List.take_zero, List.drop_succ_cons, List.drop_zero]
  have hsl := slice_low w5.drew b o k (k + 2) c (by omega) hkc3
  rw [show k + 2 - k = 2 by omega] at hsl
  repeat still_step
  refine wpStill_nil ?_
  clear hsl
  change wpList _ _ _ _ _ w5.drew
  have HE := Lib.hid (eqf_any A8 (some ⟨b, o + k, none⟩) c8 (c - k) (parL k (S.take k)) (S.drop k) w5.drew w5.heap.size (Hb5.out.2.drewN 1) (((Hh.out.below (drewN_below Hb5.out.1 1)).wide Hb5.out.1.size).drop' k) (by rw [Hpl.out.1]; omega) (by rw [List.length_drop, Hpl.out.2]; omega))
  rw [Hpl.out.1, List.length_drop, Hpl.out.2, show k + 2 - k = 2 by omega] at HE
  go_wp2_with fail
  refine HE.out.mono ?_
  rintro e w7 ⟨rfl, rfl⟩
  go_wp2_with fail
  go_ret
  exact ⟨drewN_below Hb5.out.1 1, .inl ⟨_, rfl, Hp.out, rfl⟩⟩
set_option maxHeartbeats 1600000 in
theorem check_any (bc k N c : Nat) (A : Option Addr) (S : Mtx) (w : World) (hc : w.cell? ⟨bc, 0, none⟩ = some (.int .i64 (k : Int))) (h : RM w w.heap.size A S) (hN : N = S.length) (hNc : N ≤ c) (hN2 : N ≤ 255) (hk1 : 1 ≤ k) (hk2 : k ≤ 253) (hl : ∀ (k : Nat) (l : List UInt8), S[k]? = some l → l.length ≤ 1048576) :
    Calls Try.prog 18 #[.pointer (some ⟨bc, 0, none⟩), .slice A N c] w fun e w' => e = .returned (.tuple #[.bool (chkA k S), .int .i64 (chkE k S)]) ∧ Below w.heap.size w w' := by
  have hmf : ∀ (fn : Fn) (first cap : Array Value) (w : World), (Instr.makeFunc fn first cap).run Try.prog w = .ok (.func fn first cap) w := fun _ _ _ _ => rfl
  have hbel : Below w.heap.size w (((w.alloc (.cells #[.pointer (some ⟨bc, 0, none⟩)] 25)).alloc (.cells #[.slice A N c] 22)).alloc (.cells #[.int .i64 0] 26)) := (((Below.refl _ _).alloc (Nat.le_refl _) _).alloc (by simp) _).alloc (by simp; omega) _
  have HC := Lib.hid (caughtCheck (.pointer (some ⟨w.heap.size, 0, none⟩), .pointer (some ⟨w.heap.size + 1, 0, none⟩)) _ _ _ (check_body w.heap.size (w.heap.size + 1) bc k N c A S _ (env_new w bc k (.slice A N c) 25 22 hc) ((h.below hbel).wide hbel.size) hN hNc hN2 hk1 hk2 hl))
  have Hb2 : Hid (Below w.heap.size w ((w.alloc (.cells #[.pointer (some ⟨bc, 0, none⟩)] 25)).alloc (.cells #[.slice A N c] 22))) := ((Below.refl _ _).alloc (Nat.le_refl _) _).alloc (by simp) _
  clear hc h hN hNc hN2 hk1 hk2 hl hbel
  go_enter Try.func18, Try.ntmps18
  go_wp2_with fail
  refine HC.out.mono ?_
  rintro e w' ⟨hb, ⟨v, rfl, hp, rfl⟩ | ⟨x, ⟨hp, hx⟩, rfl⟩⟩
  · have Hd : Hid (chkB k S = true ∧ Below w.heap.size w w') := ⟨hp, Hb2.out.trans (hb.mono Hb2.out.size)⟩
    clear hp hb HC
    go_wp2_with fail
    go_ret2
    have e1 : chkA k S = chkV k S := by unfold chkA; rw [Hd.out.1]; rfl
    have e2 : chkE k S = 0 := by unfold chkE; rw [Hd.out.1]; rfl
    exact ⟨by rw [e1, e2]; rfl, Hd.out.2⟩
  · have Hd : Hid (chkB k S = false ∧ Below w.heap.size w w' ∧ x = 1) := ⟨hp, Hb2.out.trans (hb.mono Hb2.out.size), hx⟩
    clear hp hb hx HC
    go_wp2_with fail
    go_ret2
    have e1 : chkA k S = false := by unfold chkA; rw [Hd.out.1]; rfl
    have e2 : chkE k S = 1 := by unfold chkE; rw [Hd.out.1]; rfl
    exact ⟨by rw [e1, e2, Hd.out.2.2]; rfl, Hd.out.2.1⟩
end Go.Proofs.Ytonihcgjepfpkaa
