/-
  The program's each with a matrix's apply handed in, and Times.
-/
import Derived.Test.YtbfbjmngcojaoaaGf23
namespace Go.Proofs.Ytbfbjmngcojaoaa
open Go.RowKit

set_option maxRecDepth 20000
set_option maxHeartbeats 1600000 in
theorem eachApply_any (A : Option Addr) (c N : Nat) (M : Mtx) (A2 : Option Addr) (c2 N2 n : Nat) (M2 : Mtx) (w : World) (h : RM w w.heap.size A M) (hN : N = M.length) (hNb : N ≤ 255) (hr : ∀ (k : Nat) (l : List UInt8), M[k]? = some l → l.length = n) (hn : n ≤ 255)
    (h2 : RM w w.heap.size A2 M2) (hN2 : N2 = M2.length) (hN21 : 1 ≤ N2) (hN22 : N2 ≤ 255) (hr2 : ∀ (k : Nat) (l : List UInt8), M2[k]? = some l → l.length = n) :
    Calls Try.prog 44 #[.slice A N c, .func (.func 45) #[.slice A2 N2 c2] #[]] w fun e w' => e = .returned (.slice (some ⟨w.heap.size, 0, none⟩) N N) ∧ MatO w' w.heap.size w'.heap.size (.slice (some ⟨w.heap.size, 0, none⟩) N N) (M.map (applyL M2)) ∧ Below w.heap.size w w' := by
  obtain ⟨cs, Hcs, hmk⟩ := make_rows N (by omega)
  have Hst := Lib.hid (EachAt.start w N (M.map (applyL M2)) hNb Hcs.out)
  have Hh := Lib.hid h
  have Hr := Lib.hid hr
  have HN := Lib.hid hN
  have HA : Hid (∀ (Av : Option Addr) (cv : Nat) (v : List UInt8) (W : World), v.length = n → RM W W.heap.size A2 M2 → RB W W.heap.size Av v → Calls Try.prog 45 #[.slice A2 N2 c2, .slice Av n cv] W fun e w' => e = .returned (.slice (some ⟨W.heap.size, 0, none⟩) N2 N2) ∧ Blk w' W.heap.size (applyL M2 v) ∧ Below W.heap.size W w') := fun Av cv v W hv h2 hb => by
    have := apply_any A2 c2 M2 Av cv v W h2 hb (by omega) (by omega) (fun k l hk => by rw [hr2 k l hk, hv]) (by omega)
    rw [hv, ← hN2] at this
    exact this
  have Hh2 := Lib.hid h2
  have HN2 : Hid (N2 = M2.length ∧ 1 ≤ N2 ∧ N2 ≤ 255) := ⟨hN2, hN21, hN22⟩
  have hN1 : (N : Int) ≤ 255 := by omega
  clear h hr hN h2 hN2 hN21 hN22 hr2
  go_enter Try.func44, Try.ntmps44
  go_wp2_with fail
  go_loopw [6, 7, 13] (fun _ _ iv wr => ∃ i : Nat, iv = .int .i64 (i : Int) ∧ i ≤ N ∧ Hid (EachAt w N (M.map (applyL M2)) i wr)) (fun _ _ iv _ => N - (intOf iv).toNat)
  case atStart => exact ⟨0, rfl, Nat.zero_le _, Hst.out⟩
  case round =>
    obtain ⟨k, rfl, hk, hrel⟩ := hrel
    by_cases hlt : k < N
    · obtain ⟨l, hx⟩ : ∃ l, M[k]? = some l := ⟨_, List.getElem?_eq_getElem (by rw [← HN.out]; exact hlt)⟩
      obtain ⟨b, o, A', c', rfl, hb, hc, hrb, _⟩ := Hh.out k l hx
      have hln := Hr.out k l hx
      have k1 : wr.cell? ⟨b, o + k, none⟩ = some (.slice A' n c') := by
        rw [← hln]
        exact (hrel.out.bel.cell (p := ⟨b, o + k, none⟩) hb).trans hc
      have hlt' : (k : Int) < (N : Int) := by omega
      have HC := Lib.hid (HA.out A' c' l wr hln ((Hh2.out.below hrel.out.bel).wide hrel.out.bel.size) ((hrb.below hrel.out.bel).wide hrel.out.bel.size))
      have hml : (applyL M2 l).length = N2 := by unfold applyL; rw [List.length_map]; exact HN2.out.1.symm
      have HS : Hid (∀ w1, Blk w1 wr.heap.size (applyL M2 l) → Below wr.heap.size wr w1 → (∃ u, w1.cell? ⟨w.heap.size, k, none⟩ = some u) ∧ w1.frozen? ⟨w.heap.size, k, none⟩ = false ∧ EachAt w N (M.map (applyL M2)) (k + 1) (w1.setCell ⟨w.heap.size, k, none⟩ (.slice (some ⟨wr.heap.size, 0, none⟩) N2 N2))) := fun w1 ho hb => by
        have ho' : Own w1 wr.heap.size (.slice (some ⟨wr.heap.size, 0, none⟩) N2 N2) (applyL M2 l) := by
          have := ho.own (base := wr.heap.size) (Nat.le_refl _) (by rw [hml]; have := HN2.out.2.2; omega)
          rw [hml] at this
          exact this
        exact hrel.out.step hlt (by rw [List.getElem?_map, hx]; rfl) (by rw [hml]; exact HN2.out.2.1) ho' hb
      clear hx hb hc hrb hrel hlt hln hml
      obtain ⟨g, hg⟩ : ∃ g, g = w.heap.size := ⟨_, rfl⟩
      have HG := Lib.hid hg
      rw [← hg] at HS ⊢
      clear hg
      go_wp2_with fail
      refine HC.out.mono ?_
      rintro e w1 ⟨rfl, ho, hb1⟩
      obtain ⟨⟨u, k2⟩, k3, k4⟩ := HS.out w1 ho hb1
      have Hn := Lib.hid k4
      clear ho hb1 k4
      go_wp2_with fail
      go_roundw
      case rel => exact ⟨k + 1, by go_num, by omega, Hn.out⟩
      case measure => simp [intOf]; omega
    · obtain rfl : k = N := by omega
      have Hd : Hid (MatO wr w.heap.size wr.heap.size (.slice (some ⟨w.heap.size, 0, none⟩) k k) (M.map (applyL M2)) ∧ Below w.heap.size w wr) := ⟨hrel.out.done (by rw [List.length_map]; exact HN.out), hrel.out.bel⟩
      clear hlt hrel
      go_wp2_with fail
      go_ret
      exact ⟨rfl, Hd.out.1, Hd.out.2⟩
/-- the product, by columns -/
def timesM (M O : Mtx) : Mtx := turnedM ((turnedM O (O.headD []).length).map (applyL M)) M.length
def timesB (M O : Mtx) : Bool := rightB M && rightB O && decide ((M.headD []).length = O.length)
theorem turned_row (O : Mtx) (n : Nat) (k : Nat) (l : List UInt8) (h : (turnedM O n)[k]? = some l) : l.length = O.length := by
  unfold turnedM at h
  rw [List.getElem?_map] at h
  obtain ⟨a, _, rfl⟩ := Option.map_eq_some_iff.1 h
  simp
theorem turned_length (O : Mtx) (n : Nat) : (turnedM O n).length = n := by simp [turnedM]
set_option maxHeartbeats 1600000 in
theorem times_ok (A : Option Addr) (c : Nat) (M : Mtx) (A2 : Option Addr) (c2 : Nat) (O : Mtx) (w : World) (h : RM w w.heap.size A M) (h2 : RM w w.heap.size A2 O) (hr : rightB M = true) (hr2 : rightB O = true) (hmo : (M.headD []).length = O.length) :
    Calls Try.prog 29 #[.slice A M.length c, .slice A2 O.length c2] w fun e w' => ∃ g, e = .returned (.tuple #[.slice (some ⟨g, 0, none⟩) M.length M.length, .int .i64 0]) ∧ RM w' w'.heap.size (some ⟨g, 0, none⟩) (timesM M O) ∧ (∃ lo, w.heap.size ≤ lo ∧ MatO w' lo w'.heap.size (.slice (some ⟨g, 0, none⟩) M.length M.length) (timesM M O)) ∧ Below w.heap.size w w' := by
  obtain ⟨n, m1, m2, m3, m4, m5, m6, m7⟩ := right_facts hr
  obtain ⟨p, o1, o2, o3, o4, o5, o6, o7⟩ := right_facts hr2
  have HR1 := Lib.hid (right_any A c M w _ h (by omega) (fun k l hk => by rw [m7 k l hk]; omega))
  have HR2 := Lib.hid (right_any A2 c2 O w _ h2 (by omega) (fun k l hk => by rw [o7 k l hk]; omega))
  rw [hr] at HR1
  rw [hr2] at HR2
  obtain ⟨b, o, rfl, hb⟩ := h.at_ (by omega)
  obtain ⟨A0, c0, q0, _, _⟩ := h.row m5
  rw [hmo, Nat.add_zero] at q0
  have hno : n = O.length := by rw [← m6, hmo]
  have HT := Lib.hid (turned_any A2 c2 O.length p O w h2 rfl o1 o2 o3 o4 o7)
  have HE : Hid (∀ W (A' : Option Addr) (c' : Nat), Below w.heap.size w W → RM W W.heap.size A' (turnedM O p) → Calls Try.prog 44 #[.slice A' p c', .func (.func 45) #[.slice (some ⟨b, o, none⟩) M.length c] #[]] W fun e w' => e = .returned (.slice (some ⟨W.heap.size, 0, none⟩) p p) ∧ MatO w' W.heap.size w'.heap.size (.slice (some ⟨W.heap.size, 0, none⟩) p p) ((turnedM O p).map (applyL M)) ∧ Below W.heap.size W w') := fun W A' c' hb hm =>
    eachApply_any A' c' p (turnedM O p) (some ⟨b, o, none⟩) c M.length n M W hm (turned_length O p).symm o4 (fun k l hk => by rw [turned_row O p k l hk, hno]) m4 ((h.below hb).wide hb.size) rfl m1 m2 m7
  have HU : Hid (∀ W (A' : Option Addr) (c' : Nat), RM W W.heap.size A' ((turnedM O p).map (applyL M)) → Calls Try.prog 43 #[.slice A' p c'] W fun e w' => e = .returned (.slice (some ⟨W.heap.size, 0, none⟩) M.length M.length) ∧ MatO w' W.heap.size w'.heap.size (.slice (some ⟨W.heap.size, 0, none⟩) M.length M.length) (turnedM ((turnedM O p).map (applyL M)) M.length) ∧ Below W.heap.size W w') := fun W A' c' hm =>
    turned_any A' c' p M.length _ W hm (by rw [List.length_map, turned_length]) o3 o4 m1 m2 (fun k l hk => by
      rw [List.getElem?_map] at hk
      obtain ⟨a, _, rfl⟩ := Option.map_eq_some_iff.1 hk
      unfold applyL
      rw [List.length_map])
  have Hdef : Hid (turnedM ((turnedM O p).map (applyL M)) M.length = timesM M O) := by unfold timesM; rw [o6]; rfl
  have Hl : Hid ((turnedM O p).length = p ∧ (timesM M O).length = M.length) := ⟨turned_length O p, by unfold timesM; exact turned_length _ _⟩
  have h1' : (0 : Int) < ((M.length : Nat) : Int) := by omega
  generalize timesM M O = T at *
  generalize M.length = N at *
  generalize O.length = K at *
  clear h h2 hr hr2 hmo m1 m2 m3 m4 m5 m6 m7 o1 o2 o3 o4 o5 o6 o7 hno hb
  go_enter Try.func29, Try.ntmps29
  go_wp2_with fail
  refine HR1.out.mono ?_
  rintro e w1 ⟨rfl, rfl⟩
  go_wp2_with fail
  refine HR2.out.mono ?_
  rintro e w1 ⟨rfl, rfl⟩
  go_wp2_with fail
  refine HT.out.mono ?_
  rintro e w1 ⟨rfl, hm1, hb1⟩
  have Hb1 := Lib.hid hb1
  have HE1 : Hid (Calls Try.prog 44 #[.slice (some ⟨w.heap.size, 0, none⟩) p p, .func (.func 45) #[.slice (some ⟨b, o, none⟩) N c] #[]] w1 fun e w' => e = .returned (.slice (some ⟨w1.heap.size, 0, none⟩) p p) ∧ MatO w' w1.heap.size w'.heap.size (.slice (some ⟨w1.heap.size, 0, none⟩) p p) ((turnedM O p).map (applyL M)) ∧ Below w1.heap.size w1 w') := by
    obtain ⟨A3, c3, e3, _, r3⟩ := hm1.rm
    rw [Hl.out.1] at e3
    cases e3
    exact HE.out w1 _ _ hb1 r3
  clear hm1 hb1 HE HT HR1 HR2 q0
  go_wp2_with fail
  refine HE1.out.mono ?_
  rintro e w2 ⟨rfl, hm2, hb2⟩
  have Hb2 : Hid (Below w.heap.size w w2) := Hb1.out.trans (hb2.mono Hb1.out.size)
  have HU1 : Hid (Calls Try.prog 43 #[.slice (some ⟨w1.heap.size, 0, none⟩) p p] w2 fun e w' => e = .returned (.slice (some ⟨w2.heap.size, 0, none⟩) N N) ∧ MatO w' w2.heap.size w'.heap.size (.slice (some ⟨w2.heap.size, 0, none⟩) N N) T ∧ Below w2.heap.size w2 w') := by
    obtain ⟨A3, c3, e3, _, r3⟩ := hm2.rm
    rw [List.length_map, Hl.out.1] at e3
    cases e3
    rw [← Hdef.out]
    exact HU.out w2 _ _ r3
  clear hm2 hb2 HU HE1 Hb1
  go_wp2_with fail
  refine HU1.out.mono ?_
  rintro e w3 ⟨rfl, hm3, hb3⟩
  have Hend : Hid (RM w3 w3.heap.size (some ⟨w2.heap.size, 0, none⟩) T ∧ (∃ lo, w.heap.size ≤ lo ∧ MatO w3 lo w3.heap.size (.slice (some ⟨w2.heap.size, 0, none⟩) N N) T) ∧ Below w.heap.size w w3) := by
    obtain ⟨A3, c3, e3, _, r3⟩ := hm3.rm
    cases e3
    exact ⟨r3, ⟨_, Hb2.out.size, hm3⟩, Hb2.out.trans (hb3.mono Hb2.out.size)⟩
  clear hm3 hb3 HU1 Hb2
  go_wp2_with fail
  go_ret2
  exact ⟨_, rfl, Hend.out.1, Hend.out.2.1, Hend.out.2.2⟩
end Go.Proofs.Ytbfbjmngcojaoaa
