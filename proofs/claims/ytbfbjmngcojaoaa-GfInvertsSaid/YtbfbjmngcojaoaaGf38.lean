/-
  GfInverts, walked.
-/
import Derived.Test.YtbfbjmngcojaoaaGf37
namespace Go.Proofs.Ytbfbjmngcojaoaa
open Go.RowKit

set_option maxRecDepth 20000
theorem info_i64 : (Try.prog.info? 3).map (fun i => (i.zero, i.size, i.bytes)) = some (some (.int .i64 0), 1, 8) := by kernel_rfl
theorem right_dim {P : Mtx} {k : Nat} (hd : Dim P k) (h1 : 1 ≤ k) (h2 : k ≤ 255) : rightB P = true := by
  have hh := hd.2 0 _ (head_get (by rw [hd.1]; omega))
  refine decide_eq_true ⟨by rw [hd.1]; exact h1, by rw [hd.1]; exact h2, by rw [hh]; exact h1, by rw [hh]; exact h2, fun l hl => ?_⟩
  obtain ⟨j, hj⟩ := List.getElem?_of_mem hl
  rw [hh]
  exact hd.2 j l hj
theorem sq_dim {P : Mtx} {k : Nat} (hd : Dim P k) (h1 : 1 ≤ k) (h2 : k ≤ 255) : sqB P = true := by
  unfold sqB
  rw [right_dim hd h1 h2, decide_eq_true]
  · rfl
  · rw [hd.1, hd.2 0 _ (head_get (by rw [hd.1]; omega))]
theorem times_dim {P V : Mtx} {k : Nat} (hd : Dim P k) (hv : Dim V k) (h1 : 1 ≤ k) (h2 : k ≤ 255) (h : ∀ u : List UInt8, u.length = k → applyL P (applyL V u) = u) : timesL P V = unitM k ∧ timesE P V = 0 := by
  have hb : timesB P V = true := by
    unfold timesB
    rw [right_dim hd h1 h2, right_dim hv h1 h2, decide_eq_true]
    · rfl
    · rw [hv.1, hd.2 0 _ (head_get (by rw [hd.1]; omega))]
  obtain ⟨e1, e2⟩ := timesB_yes hb
  exact ⟨by rw [e1]; exact times_unit hd hv h1 h, e2⟩
theorem keep_len {k a b : Nat} (hab : a ≠ b) (ha : a < k + 2) (hb : b < k + 2) : (keep a b (k + 2)).length = k := by
  have hl := keep_length hab (k + 2)
  rw [if_pos ha, if_pos hb] at hl
  omega
set_option maxHeartbeats 8000000 in
theorem inverts_any (kk one two : Int) (w : World) :
    Calls Try.prog 7 #[.int .i64 kk, .int .i64 one, .int .i64 two] w fun e w' => e = .returned (.bool true) ∧ Below w.heap.size w w' := by
  have Hk := Lib.hid (known_any w)
  by_cases hlo : kk < 1
  · go_enter Try.func7, Try.ntmps7
    go_wp2_with fail
    refine Hk.out.mono ?_
    rintro e w1 ⟨rfl, hb1⟩
    have Hb1 := Lib.hid hb1
    clear hb1
    go_wp2_with fail
    go_ret
    exact ⟨rfl, Hb1.out⟩
  by_cases hhi : 24 < kk
  · go_enter Try.func7, Try.ntmps7
    go_wp2_with fail
    refine Hk.out.mono ?_
    rintro e w1 ⟨rfl, hb1⟩
    have Hb1 := Lib.hid hb1
    clear hb1
    go_wp2_with fail
    go_ret
    exact ⟨rfl, Hb1.out⟩
  obtain ⟨k, rfl⟩ : ∃ k : Nat, kk = (k : Int) := ⟨kk.toNat, by omega⟩
  have Hkb : Hid (1 ≤ k ∧ k ≤ 24) := ⟨by omega, by omega⟩
  have hk1 : (1 : Int) ≤ (k : Int) := by omega
  have hk2 : (k : Int) ≤ 24 := by omega
  have HU : Hid (∀ W, Calls Try.prog 22 #[.int .i64 (k : Int)] W (MadeM W k (unitM k))) := fun W => unit_any k W (by omega) (by omega)
  have HP : Hid (∀ W, Calls Try.prog 25 #[.int .i64 (k : Int)] W (MadeP W (pairsM k))) := fun W => pairs_any k W (by omega) (by omega)
  clear hlo hhi
  go_enter Try.func7, Try.ntmps7
  go_wp2_with fail
  refine Hk.out.mono ?_
  rintro e w1 ⟨rfl, hb1⟩
  have Hb1 := Lib.hid hb1
  have HU1 := Lib.hid (HU.out w1)
  clear hb1 Hk HU
  go_wp2_with fail
  refine HU1.out.mono ?_
  rintro e w2 ⟨gu, rfl, mu, bu⟩
  have Hb2 : Hid (Below w.heap.size w w2) := Hb1.out.trans (bu.mono Hb1.out.size)
  have Hmu := Lib.hid mu
  have HP1 := Lib.hid (HP.out w2)
  clear mu bu HU1 HP Hb1
  go_wp2_with fail
  refine HP1.out.mono ?_
  rintro e w3 ⟨gc, rfl, mc, bc⟩
  have Hb3 : Hid (Below w.heap.size w w3) := Hb2.out.trans (bc.mono Hb2.out.size)
  obtain ⟨ru, Au, cu, eu, vu, hu⟩ := mat_rowsV (Hmu.out.below bc)
  obtain ⟨rc, Ac, cc, ec, vc, hc⟩ := mat_rowsV mc
  have hul : (unitM k).length = k := by simp [unitM]
  rw [hul] at eu
  rw [show (pairsM k).length = 2 from rfl] at ec
  cases eu
  cases ec
  have Hvu : Hid (RowsV w3 ru (unitM k) ∧ ru.length = k ∧ ∀ (i : Nat) (r : Value), ru[i]? = some r → gu < w3.heap.size ∧ w3.cell? ⟨gu, i, none⟩ = some r) := ⟨vu, by rw [vu.1]; simp [unitM], fun i r hr => by
    obtain ⟨b, e, h1, h2⟩ := hu i r hr
    cases e
    exact ⟨h1, h2⟩⟩
  have Hvc : Hid (RowsV w3 rc (pairsM k) ∧ rc.length = 2 ∧ ∀ (i : Nat) (r : Value), rc[i]? = some r → gc < w3.heap.size ∧ w3.cell? ⟨gc, i, none⟩ = some r) := ⟨vc, by rw [vc.1]; simp [pairsM], fun i r hr => by
    obtain ⟨b, e, h1, h2⟩ := hc i r hr
    cases e
    exact ⟨h1, h2⟩⟩
  have Hru : Hid (RM w3 w3.heap.size (some ⟨gu, 0, none⟩) (unitM k)) := by
    obtain ⟨A5, c5, e5, _, r5⟩ := (Hmu.out.below bc).rm
    rw [hul] at e5
    cases e5
    exact r5
  clear mc bc vu hu vc hc HP1 Hb2 Hmu
  go_wp2_with (first
    | (at_builtin; (refine app_many rfl (.tmp 55) (.tmp 56) 38 46 rfl Try.underlying38 (.slice none 0 0) 24 info_row rfl w3.heap.size _ [] rfl (own_made w3 _ (Nat.le_refl _)) ⟨gu, 0, none⟩ k k ru rfl Hvu.out.2.1.symm (fun j u hj => by rw [add_flat, Nat.zero_add]; exact (World.cell?_alloc_lt w3 _ ⟨gu, j, none⟩ (Hvu.out.2.2 j u hj).1).trans (Hvu.out.2.2 j u hj).2) Hvu.out.1.one (by have := Hvu.out.2.1; have := Hkb.out.2; simp; omega) (by have := Hvu.out.2.1; have := Hkb.out.2; simp; omega) (by simp) ?_); intro v4 w4 hown hg _; have Ho4 : Hid (OwnV w4 w3.heap.size 46 v4 ru) := hown; have Hb4 : Hid (Below w3.heap.size w3 w4) := ((Below.refl _ _).alloc (Nat.le_refl _) _).grown hg (by simp) (fun g hg => by cases hg; exact Nat.le_refl _); clear hown hg)
    | (at_builtin; go_must (refine app_many rfl (.tmp 57) (.tmp 58) 38 46 rfl Try.underlying38 (.slice none 0 0) 24 info_row rfl w3.heap.size _ ru rfl Ho4.out ⟨gc, 0, none⟩ 2 2 rc rfl Hvc.out.2.1.symm (fun j u hj => by rw [add_flat, Nat.zero_add]; exact (Hb4.out.cell (p := ⟨gc, j, none⟩) (Hvc.out.2.2 j u hj).1).trans (Hvc.out.2.2 j u hj).2) Hvc.out.1.one (by have := Hvu.out.2.1; have := Hvc.out.2.1; have := Hkb.out.2; omega) (by have := Hvu.out.2.1; have := Hvc.out.2.1; have := Hkb.out.2; omega) Hb4.out.size ?_); intro v5 w5 hown5 hg5 _; have Hb5 : Hid (Below w3.heap.size w3 w5) := Hb4.out.grown hg5 Hb4.out.size (fun g hg => (Ho4.out.ge g hg).1); obtain ⟨Aa, ca, ea, ra⟩ := rm_of (M := allM k) hown5 ((Hvu.out.1.below Hb5.out).append (Hvc.out.1.below Hb5.out)); rw [allM_length] at ea; subst ea; have Hra : Hid (RM w5 w5.heap.size Aa (allM k)) := ra; clear hown5 hg5 ra))
  any_goals (go_ret; exact ⟨rfl, Hb3.out.trans (Hb5.out.mono Hb3.out.size)⟩)
  have h9 : (0 ≤ one.tmod (↑k + 2) ∧ 0 ≤ two.tmod (↑k + 2)) ∧ (one.tmod (↑k + 2) == two.tmod (↑k + 2)) = false := by assumption
  have ec : ((k + 2 : Nat) : Int) = (k : Int) + 2 := by omega
  have b1 := (rem_small one (k + 2) (by omega)).1
  have b2 := (rem_small two (k + 2) (by omega)).1
  rw [ec] at b1 b2
  obtain ⟨⟨h91, h92⟩, h93⟩ := h9
  generalize one.tmod (↑k + 2) = r1 at *
  generalize two.tmod (↑k + 2) = r2 at *
  obtain ⟨a, rfl⟩ : ∃ a : Nat, r1 = (a : Int) := ⟨r1.toNat, by omega⟩
  obtain ⟨b, rfl⟩ : ∃ b : Nat, r2 = (b : Int) := ⟨r2.toNat, by omega⟩
  simp only [h93, Bool.or_false]
  have hab : a ≠ b := fun e => by rw [e] at h93; simp at h93
  have ha : a < k + 2 := by omega
  have hb : b < k + 2 := by omega
  have Hab : Hid (a ≠ b ∧ a < k + 2 ∧ b < k + 2) := ⟨hab, ha, hb⟩
  have hd := kept_dim (k := k) hab ha hb
  obtain ⟨S, hS⟩ := kept_inv (k := k) (by have := Hkb.out; omega) hab ha hb
  have hrb := kept_right (k := k) Hkb.out.1 (by have := Hkb.out; omega) hab ha hb
  have hv : Dim S.2 k := (invK_good hd k S (Nat.le_refl _) hS).d2
  have Hpk : Hid (rowsL (allM k) (keep a b (k + 2)) = pick (allM k) (keep a b (k + 2)) ∧ rowsE (allM k) (keep a b (k + 2)) = 0) := by
    unfold rowsL rowsE
    rw [if_pos hrb, if_pos hrb]
    exact ⟨rfl, rfl⟩
  have Hiv : Hid (invL (pick (allM k) (keep a b (k + 2))) = S.2 ∧ invC (pick (allM k) (keep a b (k + 2))) = 0) := by
    unfold invL invC
    rw [if_pos (sq_dim hd Hkb.out.1 (by have := Hkb.out; omega)), if_pos (sq_dim hd Hkb.out.1 (by have := Hkb.out; omega)), hd.1, hS]
    exact ⟨rfl, rfl⟩
  have Ht1 := Lib.hid (times_dim hd hv Hkb.out.1 (by have := Hkb.out; omega) (fun u hu => inv_right hd hS u hu))
  have Ht2 := Lib.hid (times_dim hv hd Hkb.out.1 (by have := Hkb.out; omega) (fun u hu => inv_undoes hd hS u hu))
  have Hd := Lib.hid hd
  have Hv := Lib.hid hv
  have Hst : Hid (OwnV w5 w5.heap.size 3 (.slice none 0 0) ((keep a b 0).map (Value.int .i64)) ∧ Below w5.heap.size w5 w5) := ⟨OwnV.nil _ _ _, Below.refl _ _⟩
  clear h91 h92 h93 b1 b2 ec hab ha hb hd hS hrb hv Ho4 Hb4 Hvu Hvc
  generalize S.2 = V at *
  go_loopw [12, 13] (fun vv iv wr => ∃ (v : Value) (i : Nat), vv = v ∧ iv = .int .i64 (i : Int) ∧ i ≤ k + 2 ∧ Hid (OwnV wr w5.heap.size 3 v ((keep a b i).map (Value.int .i64)) ∧ Below w5.heap.size w5 wr)) (fun _ iv _ => k + 2 - (intOf iv).toNat)
  case atStart => exact ⟨_, 0, rfl, rfl, Nat.zero_le _, Hst.out⟩
  case round =>
    obtain ⟨v, i, rfl, rfl, hi, hrel⟩ := hrel
    by_cases hlt : i < k + 2
    · have hlt' : (i : Int) < (k : Int) + 2 := by omega
      by_cases hia : i = a
      · have h1 : ((i : Int) != (a : Int)) = false := by simp [hia]
        have Hn : Hid (OwnV wr w5.heap.size 3 u12 ((keep a b (i + 1)).map (Value.int .i64)) ∧ Below w5.heap.size w5 wr) := by rw [keep_no (.inl hia)]; exact hrel.out
        clear hia hrel hlt
        go_wp2_with fail
        go_roundw
        case rel => exact ⟨_, i + 1, rfl, by go_num, by omega, Hn.out⟩
        case measure => simp [intOf]; omega
      have h1 : ((i : Int) != (a : Int)) = true := by simp; omega
      by_cases hib : i = b
      · have h2 : ((i : Int) != (b : Int)) = false := by simp [hib]
        have Hn : Hid (OwnV wr w5.heap.size 3 u12 ((keep a b (i + 1)).map (Value.int .i64)) ∧ Below w5.heap.size w5 wr) := by rw [keep_no (.inr hib)]; exact hrel.out
        clear hia hib hrel hlt
        go_wp2_with fail
        go_roundw
        case rel => exact ⟨_, i + 1, rfl, by go_num, by omega, Hn.out⟩
        case measure => simp [intOf]; omega
      have h2 : ((i : Int) != (b : Int)) = true := by simp; omega
      have Hkp : Hid ((keep a b (i + 1)).map (Value.int .i64) = (keep a b i).map (Value.int .i64) ++ [.int .i64 (i : Int)]) := by rw [keep_yes hia hib, List.map_append]; rfl
      have hln : ((keep a b i).map (Value.int .i64)).length ≤ i := by
        have h8 := keep_length Hab.out.1 i
        have h7 : ((keep a b i).map (Value.int .i64)).length = (keep a b i).length := List.length_map _
        rw [h7]
        by_cases c1 : a < i
        · rw [if_pos c1] at h8; omega
        · rw [if_neg c1] at h8; omega
      have Hln := Lib.hid hln
      clear hln
      have Hrel := Lib.hid hrel.out
      have Hb := Lib.hid Hkb.out.2
      clear hia hib hrel hlt
      go_wp2_with (at_builtin; go_must (refine app_one rfl (.tmp 93) (.tmp 95) 47 3 rfl Try.underlying47 _ 8 info_i64 rfl w5.heap.size _ _ rfl (OwnV.alloc Hrel.out.1 _) ⟨wr.heap.size, 0, none⟩ 1 (.int .i64 (i : Int)) rfl (cell_new _ _ _) rfl (by have := Hln.out; have := Hb.out; omega) (by have := Hln.out; have := Hb.out; omega) (by have := Hrel.out.2.size; simp; omega) ?_); intro v9 W9 hown9 hg9 _; have Hn : Hid (OwnV W9 w5.heap.size 3 v9 ((keep a b (i + 1)).map (Value.int .i64)) ∧ Below w5.heap.size w5 W9) := ⟨by rw [Hkp.out]; exact hown9, (Hrel.out.2.alloc Hrel.out.2.size _).grown hg9 (by have := Hrel.out.2.size; simp; omega) (fun g hg => (Hrel.out.1.ge g hg).1)⟩; clear hown9 hg9 Hrel Hln Hkp)
      go_roundw
      case rel =>
        exact ⟨v9, i + 1, rfl, by go_num, by omega, Hn.out⟩
      case measure => simp [intOf]; omega
    obtain rfl : i = k + 2 := by omega
    obtain ⟨hov, hbe⟩ := hrel.out
    obtain ⟨An, cn, rfl, _, hri⟩ := RI.of_own hov
    have Hw : Hid (Below w5.heap.size w5 wr ∧ Below w.heap.size w wr) := ⟨hbe, (Hb3.out.trans (Hb5.out.mono Hb3.out.size)).trans (hbe.mono (Nat.le_trans Hb3.out.size Hb5.out.size))⟩
    rw [keep_len Hab.out.1 Hab.out.2.1 Hab.out.2.2]
    have HR : Hid (Calls Try.prog 35 #[.slice Aa (k + 2) ca, .slice An k cn] wr (TellsO wr (pick (allM k) (keep a b (k + 2))) 0)) := by
      have := rows_any Aa ca (allM k) An cn (keep a b (k + 2)) wr ((Hra.out.below hbe).wide hbe.size) (by rw [allM_length]; have := Hkb.out; omega) (fun t l ht => by rw [allM_row k t l ht]; have := Hkb.out; omega) (hri.move (fun _ _ => rfl) (Nat.le_refl _)) (by rw [keep_len Hab.out.1 Hab.out.2.1 Hab.out.2.2]; have := Hkb.out; omega)
      rw [Hpk.out.1, Hpk.out.2, allM_length, keep_len Hab.out.1 Hab.out.2.1 Hab.out.2.2] at this
      exact this
    have HI : Hid (∀ (A6 : Option Addr) (c6 : Nat) W, RM W W.heap.size A6 (pick (allM k) (keep a b (k + 2))) → Calls Try.prog 33 #[.slice A6 k c6] W (TellsO W V 0)) := fun A6 c6 W hm => by
      have := inverse_any A6 c6 _ W hm (by rw [Hd.out.1]; have := Hkb.out; omega) (fun t l ht => by rw [Hd.out.2 t l ht]; have := Hkb.out; omega)
      rw [Hiv.out.1, Hiv.out.2, Hd.out.1] at this
      exact this
    have HT1 : Hid (∀ (A6 : Option Addr) (c6 : Nat) (A7 : Option Addr) (c7 : Nat) W, RM W W.heap.size A6 (pick (allM k) (keep a b (k + 2))) → RM W W.heap.size A7 V → Calls Try.prog 29 #[.slice A6 k c6, .slice A7 k c7] W (TellsO W (unitM k) 0)) := fun A6 c6 A7 c7 W hm hn => by
      have := times_any A6 c6 _ A7 c7 V W hm (by rw [Hd.out.1]; have := Hkb.out; omega) (fun t l ht => by rw [Hd.out.2 t l ht]; have := Hkb.out; omega) hn (by rw [Hv.out.1]; have := Hkb.out; omega) (fun t l ht => by rw [Hv.out.2 t l ht]; have := Hkb.out; omega)
      rw [Ht1.out.1, Ht1.out.2, Hd.out.1, Hv.out.1] at this
      exact this
    have HT2 : Hid (∀ (A6 : Option Addr) (c6 : Nat) (A7 : Option Addr) (c7 : Nat) W, RM W W.heap.size A6 (pick (allM k) (keep a b (k + 2))) → RM W W.heap.size A7 V → Calls Try.prog 29 #[.slice A7 k c7, .slice A6 k c6] W (TellsO W (unitM k) 0)) := fun A6 c6 A7 c7 W hm hn => by
      have := times_any A7 c7 V A6 c6 _ W hn (by rw [Hv.out.1]; have := Hkb.out; omega) (fun t l ht => by rw [Hv.out.2 t l ht]; have := Hkb.out; omega) hm (by rw [Hd.out.1]; have := Hkb.out; omega) (fun t l ht => by rw [Hd.out.2 t l ht]; have := Hkb.out; omega)
      rw [Ht2.out.1, Ht2.out.2, Hd.out.1, Hv.out.1] at this
      exact this
    have HSm : Hid (∀ (Ax : Option Addr) (cx : Nat) W, RM W W.heap.size Ax (unitM k) → Below w3.heap.size w3 W → Calls Try.prog 24 #[.slice Ax k cx, .slice (some ⟨gu, 0, none⟩) k k] W fun e w' => e = .returned (.bool true) ∧ ∃ q, w' = W.drewN q) := fun Ax cx W hm hb => by
      have := same_self (c := cx) (c2 := k) hm ((Hru.out.below hb).wide hb.size) (by rw [hul]; have := Hkb.out; omega)
      rw [hul] at this
      exact this
    have hdl := Hd.out.1
    have hvl := Hv.out.1
    have H3 : Hid (Below w3.heap.size w3 wr) := Hb5.out.trans (hbe.mono Hb5.out.size)
    have Hpl := Lib.hid hdl
    generalize pick (allM k) (keep a b (k + 2)) = P at *
    clear hlt hrel hov hbe hri Hpk Hiv Ht1 Ht2 Hst
    go_wp2_with fail
    refine HR.out.mono ?_
    rintro e w6 hx
    obtain ⟨A6, c6, rfl, r6, _, hb6⟩ := hx.rm
    have R6 := Lib.hid r6
    have HI6 := Lib.hid (HI.out A6 c6 w6 r6)
    have Hb6 : Hid (Below w.heap.size w w6 ∧ Below w3.heap.size w3 w6) := ⟨Hw.out.2.trans (hb6.mono Hw.out.2.size), H3.out.trans (hb6.mono H3.out.size)⟩
    rw [hdl]
    clear hx r6 hb6 HR HI
    go_wp2_with fail
    refine HI6.out.mono ?_
    rintro e w7 hx
    obtain ⟨A7, c7, rfl, r7, _, hb7⟩ := hx.rm
    have R7 := Lib.hid r7
    have R67 := Lib.hid ((R6.out.below hb7).wide hb7.size)
    have HT17 := Lib.hid (HT1.out A6 c6 A7 c7 w7 R67.out r7)
    have Hb7 : Hid (Below w.heap.size w w7 ∧ Below w3.heap.size w3 w7) := ⟨Hb6.out.1.trans (hb7.mono Hb6.out.1.size), Hb6.out.2.trans (hb7.mono Hb6.out.2.size)⟩
    rw [hvl]
    clear hx r7 hb7 HI6 HT1 R6 Hb6
    go_wp2_with fail
    refine HT17.out.mono ?_
    rintro e w8 hx
    obtain ⟨A8, c8, rfl, r8, _, hb8⟩ := hx.rm
    have R8 := Lib.hid r8
    have HT28 := Lib.hid (HT2.out A6 c6 A7 c7 w8 ((R67.out.below hb8).wide hb8.size) ((R7.out.below hb8).wide hb8.size))
    have Hb8 : Hid (Below w.heap.size w w8 ∧ Below w3.heap.size w3 w8) := ⟨Hb7.out.1.trans (hb8.mono Hb7.out.1.size), Hb7.out.2.trans (hb8.mono Hb7.out.2.size)⟩
    rw [hul]
    clear hx r8 hb8 HT17 HT2 R67 R7 Hb7
    go_wp2_with fail
    refine HT28.out.mono ?_
    rintro e w9 hx
    obtain ⟨A9, c9, rfl, r9, _, hb9⟩ := hx.rm
    have R9 := Lib.hid r9
    have Hb9 : Hid (Below w.heap.size w w9 ∧ Below w3.heap.size w3 w9) := ⟨Hb8.out.1.trans (hb9.mono Hb8.out.1.size), Hb8.out.2.trans (hb9.mono Hb8.out.2.size)⟩
    have S1 := Lib.hid (HSm.out A8 c8 w9 ((R8.out.below hb9).wide hb9.size) Hb9.out.2)
    have S2 : Hid (∀ q, Calls Try.prog 24 #[.slice A9 k c9, .slice (some ⟨gu, 0, none⟩) k k] (w9.drewN q) fun e w' => e = .returned (.bool true) ∧ ∃ q2, w' = (w9.drewN q).drewN q2) := fun q => HSm.out A9 c9 (w9.drewN q) (R9.out.drewN q) (drewN_below Hb9.out.2 q)
    rw [hul]
    clear hx r9 hb9 HT28 HSm R8 Hb8
    go_wp2_with fail
    refine S1.out.mono ?_
    rintro e w10 ⟨rfl, q, hw⟩
    have S3 := Lib.hid (S2.out q)
    rw [← hw] at S3
    have Hb10 : Hid (Below w.heap.size w w10) := by rw [hw]; exact drewN_below Hb9.out.1 _
    clear hw S1 S2 Hb9
    go_wp2_with fail
    refine S3.out.mono ?_
    rintro e w11 ⟨rfl, q2, hw⟩
    have Hb11 : Hid (Below w.heap.size w w11) := by rw [hw]; exact drewN_below Hb10.out _
    clear hw S3 Hb10
    go_wp2_with fail
    go_ret
    exact ⟨by simp, Hb11.out⟩
end Go.Proofs.Ytbfbjmngcojaoaa
