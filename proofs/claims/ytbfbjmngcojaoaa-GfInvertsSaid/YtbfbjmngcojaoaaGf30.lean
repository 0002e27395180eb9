/-
  The second saying's Times.
-/
import Derived.Test.YtbfbjmngcojaoaaGf29
namespace Go.Proofs.Ytbfbjmngcojaoaa
open Go.RowKit

set_option maxRecDepth 20000
def colO (O : Mtx) (b : Nat) : List UInt8 := O.map fun r => r.getD b 0
/-- row a of the product, i rows done, j elements of the next, k summands of the next -/
def prodR (M O : Mtx) (P i j k a : Nat) : List UInt8 := (List.range P).map fun b => if a < i ∨ (a = i ∧ b < j) then dot (M.getD a []) (colO O b) else if a = i ∧ b = j then dotK (M.getD a []) (colO O b) k else 0
def prodK (M O : Mtx) (P i j k : Nat) : Mtx := (List.range M.length).map (prodR M O P i j k)
theorem prodR_length (M O : Mtx) (P i j k a : Nat) : (prodR M O P i j k a).length = P := by simp [prodR]
theorem prodK_length (M O : Mtx) (P i j k : Nat) : (prodK M O P i j k).length = M.length := by simp [prodK]
theorem prodR_get (M O : Mtx) (P i j k a b : Nat) (h : b < P) : (prodR M O P i j k a)[b]? = some (if a < i ∨ (a = i ∧ b < j) then dot (M.getD a []) (colO O b) else if a = i ∧ b = j then dotK (M.getD a []) (colO O b) k else 0) := by
  unfold prodR
  rw [List.getElem?_map, List.getElem?_range h]; rfl
theorem prodK_get (M O : Mtx) (P i j k a : Nat) (h : a < M.length) : (prodK M O P i j k)[a]? = some (prodR M O P i j k a) := by
  unfold prodK
  rw [List.getElem?_map, List.getElem?_range h]; rfl
theorem prodR_ext {M O : Mtx} {P i j k i' j' k' a a' : Nat} (h : ∀ b, b < P → (if a < i ∨ (a = i ∧ b < j) then dot (M.getD a []) (colO O b) else if a = i ∧ b = j then dotK (M.getD a []) (colO O b) k else 0) = (if a' < i' ∨ (a' = i' ∧ b < j') then dot (M.getD a' []) (colO O b) else if a' = i' ∧ b = j' then dotK (M.getD a' []) (colO O b) k' else 0)) : prodR M O P i j k a = prodR M O P i' j' k' a' := by
  unfold prodR
  exact List.map_congr_left fun b hb => h b (List.mem_range.1 hb)
theorem prodK_ext {M O : Mtx} {P i j k i' j' k' : Nat} (h : ∀ a, a < M.length → prodR M O P i j k a = prodR M O P i' j' k' a) : prodK M O P i j k = prodK M O P i' j' k' := by
  unfold prodK
  exact List.map_congr_left fun a ha => h a (List.mem_range.1 ha)
theorem prodK_zero (M O : Mtx) (P : Nat) : blankM M.length P = prodK M O P 0 0 0 := by
  apply List.ext_getElem?
  intro a
  by_cases h : a < M.length
  · unfold blankM
    rw [prodK_get M O P 0 0 0 a h, List.getElem?_replicate, if_pos h]
    congr 1
    apply List.ext_getElem?
    intro b
    by_cases hb : b < P
    · rw [prodR_get M O P 0 0 0 a b hb, List.getElem?_replicate, if_pos hb, if_neg (by omega)]
      split <;> rfl
    · rw [List.getElem?_eq_none (by simp; omega), List.getElem?_eq_none (by rw [prodR_length]; omega)]
  · rw [List.getElem?_eq_none (by simp [blankM]; omega), List.getElem?_eq_none (by rw [prodK_length]; omega)]
theorem prodK_step (M O : Mtx) (P i j k : Nat) (x y : UInt8) (hi : i < M.length) (hj : j < P) (hx : (M.getD i []).getD k 0 = x) (hy : (colO O j).getD k 0 = y) :
    (prodK M O P i j k).set i ((prodR M O P i j k i).set j (dotK (M.getD i []) (colO O j) k ^^^ bm x y)) = prodK M O P i j (k + 1) := by
  apply List.ext_getElem?
  intro a
  by_cases h : a < M.length
  · rw [List.getElem?_set, prodK_length, prodK_get M O P i j k a h, prodK_get M O P i j (k + 1) a h]
    by_cases e : i = a
    · subst e
      rw [if_pos rfl, if_pos hi]
      congr 1
      apply List.ext_getElem?
      intro b
      by_cases hb : b < P
      · rw [List.getElem?_set, prodR_length, prodR_get M O P i j k i b hb, prodR_get M O P i j (k + 1) i b hb]
        by_cases e2 : j = b
        · subst e2
          rw [if_pos rfl, if_pos hj, if_neg (by omega), if_pos ⟨rfl, rfl⟩]
          show _ = some (dotK _ _ k ^^^ bm _ _)
          rw [hx, hy]
        · rw [if_neg e2]
          by_cases h1 : b < j
          · rw [if_pos (.inr ⟨rfl, h1⟩), if_pos (.inr ⟨rfl, h1⟩)]
          · rw [if_neg (by omega), if_neg (by omega), if_neg (by omega), if_neg (by omega)]
      · rw [List.getElem?_eq_none (by rw [List.length_set, prodR_length]; omega), List.getElem?_eq_none (by rw [prodR_length]; omega)]
    · rw [if_neg e]
      congr 1
      refine prodR_ext fun b _ => ?_
      by_cases h1 : a < i ∨ (a = i ∧ b < j)
      · rw [if_pos h1, if_pos h1]
      · rw [if_neg h1, if_neg h1, if_neg (by omega), if_neg (by omega)]
  · rw [List.getElem?_eq_none (by rw [List.length_set, prodK_length]; omega), List.getElem?_eq_none (by rw [prodK_length]; omega)]
theorem prodK_col (M O : Mtx) (P i j K : Nat) (hK : (M.getD i []).length = K) : prodK M O P i j K = prodK M O P i (j + 1) 0 := by
  refine prodK_ext fun a _ => prodR_ext fun b _ => ?_
  by_cases h1 : a < i ∨ (a = i ∧ b < j)
  · rw [if_pos h1, if_pos (by omega)]
  · rw [if_neg h1]
    by_cases h2 : a = i ∧ b = j
    · rw [if_pos h2, if_pos (by omega), h2.1, ← hK]; rfl
    · rw [if_neg h2, if_neg (by omega)]
      by_cases h3 : a = i ∧ b = j + 1
      · rw [if_pos h3]; rfl
      · rw [if_neg h3]
theorem prodK_row (M O : Mtx) (P i : Nat) : prodK M O P i P 0 = prodK M O P (i + 1) 0 0 := by
  refine prodK_ext fun a _ => prodR_ext fun b hb => ?_
  by_cases h1 : a < i ∨ (a = i ∧ b < P)
  · rw [if_pos h1, if_pos (by omega)]
  · rw [if_neg h1, if_neg (by omega), if_neg (by omega)]
    by_cases h3 : a = i + 1 ∧ b = 0
    · rw [if_pos h3]; rfl
    · rw [if_neg h3]
theorem prodK_done (M O : Mtx) : prodK M O (O.headD []).length M.length 0 0 = timesM M O := by
  unfold prodK timesM turnedM
  apply List.map_congr_left
  intro a ha
  have ha' := List.mem_range.1 ha
  rw [List.map_map]
  unfold prodR
  rw [List.map_map]
  apply List.map_congr_left
  intro b _
  rw [if_pos (.inl ha')]
  show dot (M.getD a []) (colO O b) = (applyL M (colO O b)).getD a 0
  rw [List.getD_eq_getElem?_getD (l := applyL M _), apply_get M _ a ha']
  rfl
def PR (w1 : World) (M O : Mtx) (P lo hi g c i j k : Nat) (wr : World) : Prop := MatO wr lo hi (.slice (some ⟨g, 0, none⟩) M.length c) (prodK M O P i j k) ∧ Below w1.heap.size w1 wr ∧ wr.heap.size = hi ∧ w1.heap.size ≤ lo
theorem PR.drewN {w1 wr : World} {M O : Mtx} {P lo hi g c i j k : Nat} (h : PR w1 M O P lo hi g c i j k wr) (q : Nat) : PR w1 M O P lo hi g c i j k (wr.drewN q) := ⟨h.1.drewN q, drewN_below h.2.1 q, h.2.2.1, h.2.2.2⟩
theorem timesB_no {M O : Mtx} (h : timesB M O = false) : timesL M O = [] ∧ timesE M O = 1 := by
  unfold timesL timesE
  rw [h]
  exact ⟨rfl, rfl⟩
theorem timesB_yes {M O : Mtx} (h : timesB M O = true) : timesL M O = timesM M O ∧ timesE M O = 0 := by
  unfold timesL timesE
  rw [h]
  exact ⟨rfl, rfl⟩
set_option maxHeartbeats 4000000 in
theorem rtimes_told (A : Option Addr) (c : Nat) (M : Mtx) (A2 : Option Addr) (c2 : Nat) (O : Mtx) (w : World) (h : RM w w.heap.size A M) (hl : M.length ≤ 1048576) (hll : ∀ (k : Nat) (l : List UInt8), M[k]? = some l → l.length ≤ 1048576)
    (h2 : RM w w.heap.size A2 O) (hl2 : O.length ≤ 1048576) (hll2 : ∀ (k : Nat) (l : List UInt8), O[k]? = some l → l.length ≤ 1048576) :
    Calls Try.prog 30 #[.slice A M.length c, .slice A2 O.length c2] w (TellsR w (timesL M O) (timesE M O)) := by
  have HR := Lib.hid (rright_any A c M w _ h hl hll)
  have HR2 : Hid (∀ W, Below w.heap.size w W → Calls Try.prog 28 #[.slice A2 O.length c2] W fun e w' => e = .returned (.bool (rightB O)) ∧ ∃ q, w' = W.drewN q) := fun W hb => rright_any A2 c2 O W _ (h2.below hb) hl2 hll2
  by_cases hr : rightB M = true
  case neg =>
    rw [Bool.not_eq_true] at hr
    obtain ⟨e1, e2⟩ := timesB_no (M := M) (O := O) (by unfold timesB; rw [hr]; rfl)
    rw [e1, e2]
    rw [hr] at HR
    generalize M.length = N at *
    generalize O.length = K at *
    clear h hl hll h2 hl2 hll2 hr e1 e2 HR2
    go_enter Try.func30, Try.ntmps30
    go_wp2_with fail
    refine HR.out.mono ?_
    rintro e w1 ⟨rfl, q, hw⟩
    have Hb : Hid (Below w.heap.size w w1) := by rw [hw]; exact drewN_below (Below.refl _ _) q
    clear hw
    go_wp2_with fail
    go_ret2
    exact ⟨none, 0, rfl, RM.nil _ _ _, Hb.out⟩
  rw [hr] at HR
  by_cases hr2 : rightB O = true
  case neg =>
    rw [Bool.not_eq_true] at hr2
    obtain ⟨e1, e2⟩ := timesB_no (M := M) (O := O) (by unfold timesB; rw [hr2]; simp)
    rw [e1, e2]
    rw [hr2] at HR2
    generalize M.length = N at *
    generalize O.length = K at *
    clear h hl hll h2 hl2 hll2 hr hr2 e1 e2
    go_enter Try.func30, Try.ntmps30
    go_wp2_with fail
    refine HR.out.mono ?_
    rintro e w1 ⟨rfl, q, hw⟩
    have Hb : Hid (Below w.heap.size w w1) := by rw [hw]; exact drewN_below (Below.refl _ _) q
    have HR3 := Lib.hid (HR2.out w1 Hb.out)
    clear hw
    go_wp2_with fail
    refine HR3.out.mono ?_
    rintro e w2 ⟨rfl, q2, hw2⟩
    have Hb2 : Hid (Below w.heap.size w w2) := by rw [hw2]; exact drewN_below Hb.out q2
    clear hw2
    go_wp2_with fail
    go_ret2
    exact ⟨none, 0, rfl, RM.nil _ _ _, Hb2.out⟩
  rw [hr2] at HR2
  obtain ⟨n, m1, m2, m3, m4, m5, m6, m7⟩ := right_facts hr
  obtain ⟨P, o1, o2, o3, o4, o5, o6, o7⟩ := right_facts hr2
  obtain ⟨b, o, rfl, hb⟩ := h.at_ (by omega)
  obtain ⟨A0, c0, q0, _, _⟩ := h.row m5
  rw [m6, Nat.add_zero] at q0
  by_cases hmo : n = O.length
  case neg =>
    obtain ⟨e1, e2⟩ := timesB_no (M := M) (O := O) (by unfold timesB; rw [m6, decide_eq_false hmo]; exact Bool.and_false _)
    rw [e1, e2]
    have hbb : ((n : Int) != ((O.length : Nat) : Int)) = true := by simp; omega
    have h1' : (0 : Int) < ((M.length : Nat) : Int) := by omega
    have Hlt := Lib.hid hb
    generalize M.length = N at *
    generalize O.length = K at *
    clear h hl hll h2 hl2 hll2 hr hr2 e1 e2 m1 m2 m3 m4 m5 m6 m7 o1 o2 o3 o4 o5 o6 o7 hmo hb
    go_enter Try.func30, Try.ntmps30
    go_wp2_with fail
    refine HR.out.mono ?_
    rintro e w1 ⟨rfl, q, hw⟩
    have Hb : Hid (Below w.heap.size w w1) := by rw [hw]; exact drewN_below (Below.refl _ _) q
    have HR3 := Lib.hid (HR2.out w1 Hb.out)
    clear hw
    go_wp2_with fail
    refine HR3.out.mono ?_
    rintro e w2 ⟨rfl, q2, hw2⟩
    have Hb2 : Hid (Below w.heap.size w w2) := by rw [hw2]; exact drewN_below Hb.out q2
    have q1 : w2.cell? ⟨b, o, none⟩ = some (.slice A0 n c0) := (Hb2.out.cell (p := ⟨b, o, none⟩) Hlt.out).trans q0
    clear hw2 q0
    go_wp2_with fail
    go_ret2
    exact ⟨none, 0, rfl, RM.nil _ _ _, Hb2.out⟩
  obtain ⟨e1, e2⟩ := timesB_yes (M := M) (O := O) (by unfold timesB; rw [hr, hr2, m6, decide_eq_true hmo]; rfl)
  rw [e1, e2]
  obtain ⟨b2, o', rfl, hb2⟩ := h2.at_ (by omega)
  obtain ⟨A1, c1, p0, _, _⟩ := h2.row o5
  rw [o6, Nat.add_zero] at p0
  have HBl : Hid (∀ W, Calls Try.prog 42 #[.int .i64 (M.length : Int), .int .i64 (P : Int)] W (MadeR W (blankM M.length P))) := fun W => rblank_any M.length P W m2 o3 o4
  have Hend : Hid (prodK M O P M.length 0 0 = timesM M O ∧ (timesM M O).length = M.length) := ⟨by rw [← o6]; exact prodK_done M O, by unfold timesM; exact turned_length _ _⟩
  have Hz := Lib.hid (prodK_zero M O P)
  have Hh := Lib.hid h
  have Hh2 := Lib.hid h2
  have Hb := Lib.hid hb
  have Hb2 := Lib.hid hb2
  have Hn := Lib.hid m7
  have Hp := Lib.hid o7
  obtain ⟨N, hN⟩ : ∃ N, N = M.length := ⟨_, rfl⟩
  obtain ⟨K, hK⟩ : ∃ K, K = O.length := ⟨_, rfl⟩
  have HN : Hid (N = M.length ∧ K = O.length ∧ n = K ∧ 1 ≤ N) := ⟨hN, hK, by rw [hK]; exact hmo, by omega⟩
  have hN1 : (N : Int) ≤ 255 := by omega
  have hK1 : (K : Int) ≤ 255 := by omega
  have hP1 : (P : Int) ≤ 255 := by omega
  have hN0 : (0 : Int) < (N : Int) := by omega
  have hK0 : (0 : Int) < (K : Int) := by omega
  rw [hmo, ← hK] at q0
  rw [← hN] at HBl HR ⊢
  rw [← hK] at HR2 ⊢
  clear h hl hll h2 hl2 hll2 hr hr2 m1 m2 m3 m4 m5 m6 m7 o1 o2 o3 o4 o5 o6 o7 hb hb2 e1 e2 hN hK hmo
  go_enter Try.func30, Try.ntmps30
  go_wp2_with fail
  refine HR.out.mono ?_
  rintro e w1 ⟨rfl, q, hw⟩
  have HB1 : Hid (Below w.heap.size w w1) := by rw [hw]; exact drewN_below (Below.refl _ _) q
  have HR3 := Lib.hid (HR2.out w1 HB1.out)
  clear hw HR HR2
  go_wp2_with fail
  refine HR3.out.mono ?_
  rintro e w2 ⟨rfl, q2, hw2⟩
  have HB2 : Hid (Below w.heap.size w w2) := by rw [hw2]; exact drewN_below HB1.out q2
  have q1 : w2.cell? ⟨b, o, none⟩ = some (.slice A0 K c0) := (HB2.out.cell (p := ⟨b, o, none⟩) Hb.out).trans q0
  have p1 : w2.cell? ⟨b2, o', none⟩ = some (.slice A1 P c1) := (HB2.out.cell (p := ⟨b2, o', none⟩) Hb2.out).trans p0
  have HBl2 := Lib.hid (HBl.out w2)
  clear hw2 HR3 HBl HB1
  go_wp2_with fail
  refine HBl2.out.mono ?_
  rintro e w3 ⟨v3, rfl, hm3, hb3⟩
  obtain ⟨g, cg, rfl, hcg, _⟩ := hm3.head (by have := HN.out; simp [blankM]; omega)
  have hbl : (blankM N P).length = N := by simp [blankM]
  rw [hbl] at hm3 hcg ⊢
  obtain ⟨lo, hlo⟩ : ∃ lo, lo = w2.heap.size := ⟨_, rfl⟩
  obtain ⟨hi, hhi⟩ : ∃ hi, hi = w3.heap.size := ⟨_, rfl⟩
  have Hst : Hid (PR w M O P lo hi g cg 0 0 0 w3) := by
    rw [HN.out.1, Hz.out, ← hlo, ← hhi] at hm3
    exact ⟨hm3, HB2.out.trans (hb3.mono HB2.out.size), hhi.symm, by rw [hlo]; exact HB2.out.size⟩
  clear hm3 hb3 hbl hlo hhi HBl2 q1 p1
  go_wp2_with fail
  go_loopw [7] (fun iv wr => ∃ i : Nat, iv = .int .i64 (i : Int) ∧ i ≤ N ∧ Hid (PR w M O P lo hi g cg i 0 0 wr)) (fun iv _ => N - (intOf iv).toNat)
  case atStart => exact ⟨0, rfl, Nat.zero_le _, Hst.out⟩
  case round =>
    obtain ⟨i, rfl, hiN, hrel⟩ := hrel
    by_cases hlt : i < N
    case neg =>
      obtain rfl : i = N := by omega
      have Hd : Hid (∃ A9 c9, Value.slice (some ⟨g, 0, none⟩) i cg = .slice A9 (timesM M O).length c9 ∧ RM wr wr.heap.size A9 (timesM M O) ∧ Below w.heap.size w wr) := by
        obtain ⟨r1, r2, r3, r4⟩ := hrel.out
        rw [HN.out.1, Hend.out.1] at r1
        obtain ⟨A9, c9, e9, _, r9⟩ := r1.rm
        exact ⟨A9, c9, by rw [HN.out.1]; exact e9, r9, r2⟩
      clear hlt hrel
      go_wp2_with fail
      go_ret2
      obtain ⟨A9, c9, e9, r9, b9⟩ := Hd.out
      exact ⟨A9, c9, by rw [← e9]; rfl, r9, b9⟩
    have hlt' : (i : Int) < (N : Int) := by omega
    obtain ⟨r, hr⟩ : ∃ r, M[i]? = some r := ⟨_, List.getElem?_eq_getElem (by rw [← HN.out.1]; exact hlt)⟩
    have Hi : Hid (M[i]? = some r ∧ M.getD i [] = r ∧ r.length = K ∧ i < M.length) := ⟨hr, by rw [List.getD_eq_getElem?_getD, hr]; rfl, by rw [Hn.out i r hr]; exact HN.out.2.2.1, by rw [← HN.out.1]; exact hlt⟩
    have Hrel := Lib.hid hrel.out
    clear hr hrel hlt
    obtain ⟨wo, rfl⟩ : ∃ wo : World, wo = wr := ⟨_, rfl⟩
    go_wp2_with fail
    go_loopw [8] (fun jv wy => ∃ j : Nat, jv = .int .i64 (j : Int) ∧ j ≤ P ∧ Hid (PR w M O P lo hi g cg i j 0 wy)) (fun jv _ => P - (intOf jv).toNat)
    case atStart => exact ⟨0, rfl, Nat.zero_le _, Hrel.out⟩
    case round =>
      obtain ⟨j, rfl, hjP, hrel⟩ := hrel
      have p1 : wr.cell? ⟨b2, o', none⟩ = some (.slice A1 P c1) := (hrel.out.2.1.cell (p := ⟨b2, o', none⟩) Hb2.out).trans p0
      by_cases hjl : j < P
      case neg =>
        obtain rfl : j = P := by omega
        have Hnx : Hid (PR w M O j lo hi g cg (i + 1) 0 0 wr) := by
          have := hrel.out
          unfold PR at this ⊢
          rw [prodK_row] at this
          exact this
        clear hjl hrel
        go_wp2_with fail
        go_roundw
        case rel => exact ⟨i + 1, by go_num, by omega, Hnx.out⟩
        case measure => simp [intOf]; omega
      have hjl' : (j : Int) < (P : Int) := by omega
      have Hj := Lib.hid hjl
      have Hrel2 := Lib.hid hrel.out
      clear hrel hjl
      obtain ⟨wp, rfl⟩ : ∃ wp : World, wp = wr := ⟨_, rfl⟩
      go_wp2_with fail
      clear p1
      go_loopw [9] (fun kv wz => ∃ k : Nat, kv = .int .i64 (k : Int) ∧ k ≤ K ∧ Hid (PR w M O P lo hi g cg i j k wz)) (fun kv _ => K - (intOf kv).toNat)
      case atStart => exact ⟨0, rfl, Nat.zero_le _, Hrel2.out⟩
      case round =>
        obtain ⟨k, rfl, hkK, hrel⟩ := hrel
        by_cases hkl : k < K
        case neg =>
          obtain rfl : k = K := by omega
          have Hnx : Hid (PR w M O P lo hi g cg i (j + 1) 0 wr) := by
            have := hrel.out
            unfold PR at this ⊢
            rw [prodK_col M O P i j k (by rw [Hi.out.2.1]; exact Hi.out.2.2.1)] at this
            exact this
          clear hkl hrel
          go_wp2_with fail
          go_roundw
          case rel => exact ⟨j + 1, by go_num, by have := Hj.out; omega, Hnx.out⟩
          case measure => (have := Hj.out; simp [intOf]; omega)
        have hkl' : (k : Int) < (K : Int) := by omega
        obtain ⟨s, hs⟩ : ∃ s, O[k]? = some s := ⟨_, List.getElem?_eq_getElem (by rw [← HN.out.2.1]; exact hkl)⟩
        have hsl := Hp.out k s hs
        obtain ⟨x, hx⟩ : ∃ x, r[k]? = some x := ⟨_, List.getElem?_eq_getElem (by rw [Hi.out.2.2.1]; exact hkl)⟩
        obtain ⟨y, hy⟩ : ∃ y, s[j]? = some y := ⟨_, List.getElem?_eq_getElem (by rw [hsl]; exact Hj.out)⟩
        obtain ⟨Ar, cr, hcr, hrb, _⟩ := Hh.out.row Hi.out.1
        obtain ⟨As, cs', hcs, hsb, _⟩ := Hh2.out.row hs
        obtain ⟨br, or', rfl, hbr⟩ := hrb.flat (by rw [Hi.out.2.2.1]; omega)
        obtain ⟨bs, os', rfl, hbs⟩ := hsb.flat (by rw [hsl]; have := Hj.out; omega)
        have k1 : wr.cell? ⟨b, o + i, none⟩ = some (.slice (some ⟨br, or', none⟩) K cr) := by
          rw [← Hi.out.2.2.1]
          exact (hrel.out.2.1.cell (p := ⟨b, o + i, none⟩) Hb.out).trans hcr
        have k2 : wr.cell? ⟨b2, o' + k, none⟩ = some (.slice (some ⟨bs, os', none⟩) P cs') := by
          rw [← hsl]
          exact (hrel.out.2.1.cell (p := ⟨b2, o' + k, none⟩) Hb2.out).trans hcs
        have k3 : wr.cell? ⟨br, or' + k, none⟩ = some (.int .u8 (x.toNat : Int)) := by
          obtain ⟨ad, e, _, hc⟩ := hrb k x hx
          cases e
          rw [add_flat] at hc
          exact (hrel.out.2.1.cell (p := ⟨br, or' + k, none⟩) hbr).trans hc
        have k4 : wr.cell? ⟨bs, os' + j, none⟩ = some (.int .u8 (y.toNat : Int)) := by
          obtain ⟨ad, e, _, hc⟩ := hsb j y hy
          cases e
          rw [add_flat] at hc
          exact (hrel.out.2.1.cell (p := ⟨bs, os' + j, none⟩) hbs).trans hc
        obtain ⟨t, ht⟩ : ∃ t, t = dotK (M.getD i []) (colO O j) k := ⟨_, rfl⟩
        obtain ⟨r1, r2, r3, r4⟩ := hrel.out
        obtain ⟨b5, c5, hra, hset⟩ := r1.row (i := i) (prodK_get M O P i j k i Hi.out.2.2.2)
        have k5 := hra.head
        rw [prodR_length] at k5
        have k6 := hra.cells j t (by rw [prodR_get M O P i j k i j Hj.out, if_neg (by omega), if_pos ⟨rfl, rfl⟩, ht])
        have k7 := hra.free j
        have k8 := hra.cap
        rw [prodR_length] at k8
        have k8' : (P : Int) ≤ (c5 : Int) := by omega
        have HM : Hid (∀ W, Calls Try.prog 20 #[.int .u8 (x.toNat : Int), .int .u8 (y.toNat : Int)] W fun e w' => e = .returned (.int .u8 ((bm x y).toNat : Int)) ∧ w' = W) := fun W => by
          have := rmul_any x.toNat y.toNat W (u8_lt x) (u8_lt y)
          rw [← bm_nat] at this
          exact this.mono fun _ _ ⟨a, b⟩ => ⟨a, b.symm⟩
        have hxor : bits .xor .u8 (t.toNat : Int) ((bm x y).toNat : Int) = ((t ^^^ bm x y).toNat : Int) := by rw [bx_nat]; exact u8_xor_nat _ _ (u8_lt t) (u8_lt _)
        have Hnx : Hid (∀ q, PR w M O P lo hi g cg i j (k + 1) ((wr.setCell ⟨b5, j, none⟩ (.int .u8 ((t ^^^ bm x y).toNat : Int))).drewN q)) := fun q => by
          have := hset j (t ^^^ bm x y)
          rw [ht, prodK_step M O P i j k x y Hi.out.2.2.2 Hj.out (by rw [Hi.out.2.1, List.getD_eq_getElem?_getD, hx]; rfl) (by
            unfold colO
            rw [List.getD_eq_getElem?_getD, List.getElem?_map, hs]
            show s.getD j 0 = y
            rw [List.getD_eq_getElem?_getD, hy]; rfl), ← ht] at this
          exact PR.drewN ⟨this, r2.setCell (p := ⟨b5, j, none⟩) (Nat.le_trans r4 hra.low) _, by simp [World.setCell, r3], r4⟩ q
        generalize (t ^^^ bm x y).toNat = s2 at *
        generalize (bm x y).toNat = p2 at *
        generalize x.toNat = xn at *
        generalize y.toNat = yn at *
        generalize t.toNat = tn at *
        clear hx hy hs hsl ht hrel r1 r2 r3 r4 hra hset hrb hsb hbr hbs hcr hcs hkl k8
        go_wp2_with fail
        refine wp_region_still_tail 29 (by kernel_rfl) (by kernel_rfl) ?_
        simp only [List.take_succ_cons, List.take_zero, List.drop_succ_cons, List.drop_zero]
        repeat (first | still_step | still_call (HM.out _))
        try refine wpStill_nil ?_
        change wpList _ _ _ _ _ wr.drew
        go_wp2_with fail
        go_roundw
        case rel => exact ⟨k + 1, by go_num, by omega, Hnx.out 1⟩
        case measure => simp [intOf]; omega
end Go.Proofs.Ytbfbjmngcojaoaa
