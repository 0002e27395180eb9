/-
  GfOwn, walked.
-/
import Derived.Test.YtbfbjmngcojaoaaGf27
namespace Go.Proofs.Ytbfbjmngcojaoaa
open Go.RowKit

set_option maxRecDepth 20000
def Small (M : Mtx) : Prop := M.length ≤ 1048576 ∧ ∀ (k : Nat) (l : List UInt8), M[k]? = some l → l.length ≤ 1048576
def Few (M : Mtx) : Prop := M.length ≤ 255 ∧ ∀ (k : Nat) (l : List UInt8), M[k]? = some l → l.length ≤ 255
theorem few_nil : Few [] := ⟨by simp, fun k l h => by simp at h⟩
theorem few_dim {M : Mtx} {n : Nat} (h : Dim M n) (hn : n ≤ 255) : Few M := ⟨by rw [h.1]; exact hn, fun k l hk => by rw [h.2 k l hk]; exact hn⟩
theorem few_inv (M : Mtx) : Few (invL M) := by
  unfold invL
  by_cases hs : sqB M = true
  · rw [if_pos hs]
    obtain ⟨n, hn1, hn2, hd, _⟩ := inv_sq hs
    rcases hk : invK M.length M M.length with _ | S
    · exact few_nil
    · rw [hd.1] at hk
      exact few_dim (invK_good hd n S (Nat.le_refl _) hk).d2 hn2
  · rw [if_neg hs]
    exact few_nil
theorem few_right {M : Mtx} (h : rightB M = true) : Few M := by
  obtain ⟨n, h1, h2, h3, h4, h5, h6, h7⟩ := right_facts h
  exact ⟨h2, fun k l hk => by rw [h7 k l hk]; exact h4⟩
theorem few_rows (M : Mtx) (ns : List Int) : Few (rowsL M ns) := by
  unfold rowsL
  by_cases hb : rowsB M ns = true
  · rw [if_pos hb]
    unfold rowsB at hb
    rw [Bool.and_eq_true, decide_eq_true_eq] at hb
    have hf := few_right hb.1
    refine ⟨by unfold pick; rw [List.length_map]; exact hb.2.2.1, fun k l hk => ?_⟩
    unfold pick at hk
    rw [List.getElem?_map] at hk
    obtain ⟨x, _, rfl⟩ := Option.map_eq_some_iff.1 hk
    rw [List.getD_eq_getElem?_getD]
    rcases hx : M[x.toNat]? with _ | r
    · simp
    · exact hf.2 _ r hx
  · rw [if_neg hb]
    exact few_nil
theorem few_times (M O : Mtx) : Few (timesL M O) := by
  unfold timesL
  by_cases hb : timesB M O = true
  · rw [if_pos hb]
    unfold timesB at hb
    rw [Bool.and_eq_true, Bool.and_eq_true] at hb
    obtain ⟨n, o1, o2, o3, o4, o5, o6, o7⟩ := right_facts hb.1.2
    have hf := few_right hb.1.1
    refine ⟨by unfold timesM; rw [turned_length]; exact hf.1, fun k l hk => ?_⟩
    unfold timesM at hk
    rw [turned_row _ _ k l hk, List.length_map, turned_length, o6]
    exact o4
  · rw [if_neg hb]
    exact few_nil
theorem Few.small {M : Mtx} (h : Few M) : Small M := ⟨by have := h.1; omega, fun k l hk => by have := h.2 k l hk; omega⟩
theorem Out.lowest {lo hi B : Nat} {w w' : World} (h : Out lo hi w w') (hB : B ≤ lo) (hs : B ≤ w.heap.size) : Below B w w' :=
  h.to_below (fun b hb => .inl (by omega)) hs
theorem MatO.out {w w' : World} {lo hi lo2 hi2 : Nat} {v : Value} {M : Mtx} (h : MatO w lo2 hi2 v M) (ho : Out lo hi w w') (hd : hi ≤ lo2 ∨ hi2 ≤ lo) : MatO w' lo2 hi2 v M :=
  h.move fun b h1 h2 h3 => ho.block b h3 (by omega)
set_option maxHeartbeats 4000000 in
theorem own_any (A : Option Addr) (c : Nat) (M : Mtx) (A2 : Option Addr) (c2 : Nat) (ns : List Int) (w : World) (h : RM w w.heap.size A M) (hs : Small M) (h2 : RI w w.heap.size A2 ns) (hl2 : ns.length ≤ 1048576) :
    Calls Try.prog 8 #[.slice A M.length c, .slice A2 ns.length c2] w fun e w' => e = .returned (.bool true) ∧ Below w.heap.size w w' := by
  have Hk := Lib.hid (known_any w)
  have HF : Hid (∀ W, Below w.heap.size w W → Calls Try.prog 21 #[.slice A M.length c] W fun e w' => e = .returned (.bool (fewM M)) ∧ W = w') := fun W hb => few_any A c M W _ (h.below hb) hs.1 hs.2
  have hl' : ((M.length : Nat) : Int) ≤ 1048576 := by have := hs.1; omega
  have hl2' : ((ns.length : Nat) : Int) ≤ 1048576 := by omega
  cases hfb : fewM M
  · rw [hfb] at HF
    generalize M.length = N at *
    generalize ns.length = K at *
    clear h hs h2 hl2 hfb
    go_enter Try.func8, Try.ntmps8
    go_wp2_with fail
    refine Hk.out.mono ?_
    rintro e w1 ⟨rfl, hb1⟩
    have Hb1 := Lib.hid hb1
    have Hf := Lib.hid (HF.out w1 hb1)
    clear hb1
    go_wp2_with fail
    refine Hf.out.mono ?_
    rintro e w2 ⟨rfl, rfl⟩
    go_wp2_with fail
    go_ret
    exact ⟨rfl, Hb1.out⟩
  rw [hfb] at HF
  by_cases h300 : ns.length ≤ 300
  case neg =>
    have h30' : (300 : Int) < ((ns.length : Nat) : Int) := by omega
    generalize M.length = N at *
    generalize ns.length = K at *
    clear h hs h2 hl2 hfb h300
    go_enter Try.func8, Try.ntmps8
    go_wp2_with fail
    refine Hk.out.mono ?_
    rintro e w1 ⟨rfl, hb1⟩
    have Hb1 := Lib.hid hb1
    have Hf := Lib.hid (HF.out w1 hb1)
    clear hb1
    go_wp2_with fail
    refine Hf.out.mono ?_
    rintro e w2 ⟨rfl, rfl⟩
    go_wp2_with fail
    go_ret
    exact ⟨rfl, Hb1.out⟩
  have h30' : ¬ (300 : Int) < ((ns.length : Nat) : Int) := by omega
  have HI : Hid (∀ (Am : Option Addr) (cm : Nat) W, RM W W.heap.size Am M → Calls Try.prog 33 #[.slice Am M.length cm] W (TellsO W (invL M) (invC M))) := fun Am cm W hm => inverse_any Am cm M W hm hs.1 hs.2
  have HO : Hid (∀ (Am : Option Addr) (cm : Nat) W, RM W W.heap.size Am M → Below w.heap.size w W → Calls Try.prog 35 #[.slice Am M.length cm, .slice A2 ns.length c2] W (TellsO W (rowsL M ns) (rowsE M ns))) := fun Am cm W hm hb => rows_any Am cm M A2 c2 ns W hm hs.1 hs.2 ((h2.below hb).move (fun _ _ => rfl) hb.size) hl2
  have HT : Hid (∀ (Am : Option Addr) (cm : Nat) W, RM W W.heap.size Am M → Calls Try.prog 29 #[.slice Am M.length cm, .slice Am M.length cm] W (TellsO W (timesL M M) (timesE M M))) := fun Am cm W hm => times_any Am cm M Am cm M W hm hs.1 hs.2 hm hs.1 hs.2
  have HQ : Hid (∀ W, Below w.heap.size w W → Calls Try.prog 36 #[.slice A M.length c, .slice A2 ns.length c2] W (TellsR W (rowsL M ns) (rowsE M ns))) := fun W hb => rrows_any A c M A2 c2 ns W ((h.below hb).wide hb.size) hs.1 hs.2 ((h2.below hb).move (fun _ _ => rfl) hb.size) hl2
  have HS : Hid (∀ (Am : Option Addr) (cm : Nat) W, RM W W.heap.size Am M → Below w.heap.size w W → Calls Try.prog 24 #[.slice Am M.length cm, .slice A M.length c] W fun e w' => e = .returned (.bool true) ∧ ∃ q, w' = W.drewN q) := fun Am cm W hm hb => same_self hm ((h.below hb).wide hb.size) hs.1
  have HSp : Hid (∀ (L : Mtx), Few L → ∀ (As : Option Addr) (cs lo hi : Nat) W, MatO W lo hi (.slice As L.length cs) L → Calls Try.prog 37 #[.slice As L.length cs] W fun e w' => e = .returned (.tuple #[]) ∧ Out lo hi W w') := fun L hL As cs lo hi W hm => spoil_any _ L lo hi W hm hL.1 hL.2
  have HL : Hid (Few (invL M) ∧ Few (rowsL M ns) ∧ Few (timesL M M)) := ⟨few_inv M, few_rows M ns, few_times M M⟩
  have hz0 : 0 ≤ rowsE M ns := by unfold rowsE; split <;> omega
  have hz1 : rowsE M ns ≤ 1 := by unfold rowsE; split <;> omega
  have Hh := Lib.hid h
  have Hsm := Lib.hid hs
  generalize rowsE M ns = z at *
  generalize timesE M M = zt at *
  generalize ((invC M : Nat) : Int) = zi at *
  generalize invL M = LI at *
  generalize rowsL M ns = LR at *
  generalize timesL M M = LT at *
  generalize ns.length = K at *
  obtain ⟨N, hN⟩ : ∃ N, N = M.length := ⟨_, rfl⟩
  have HN := Lib.hid hN
  rw [← hN] at HF HI HO HT HQ HS hl' ⊢
  clear h hs h2 hl2 hfb h300 hN
  go_enter Try.func8, Try.ntmps8
  go_wp2_with fail
  refine Hk.out.mono ?_
  rintro e w1 ⟨rfl, hb1⟩
  have Hb1 := Lib.hid hb1
  have Hf := Lib.hid (HF.out w1 hb1)
  clear hb1
  go_wp2_with fail
  refine Hf.out.mono ?_
  rintro e w2 ⟨rfl, rfl⟩
  have Hst : Hid (MatE w1 w.heap.size (.slice none 0 0) (M.take 0) ∧ Below w.heap.size w w1) := ⟨MatE.none _ _, Hb1.out⟩
  clear Hb1 Hf HF Hk
  go_wp2_with fail
  go_loopw [5, 6] (fun vv iv wr => ∃ (v : Value) (i : Nat), vv = v ∧ iv = .int .i64 (i : Int) ∧ i ≤ N ∧ Hid (MatE wr w.heap.size v (M.take i) ∧ Below w.heap.size w wr)) (fun _ iv _ => N - (intOf iv).toNat)
  case atStart => exact ⟨_, 0, rfl, rfl, Nat.zero_le _, Hst.out⟩
  case round =>
    obtain ⟨v, k, rfl, rfl, hk, hrel⟩ := hrel
    by_cases hlt : k < N
    · have hlt' : (k : Int) < (N : Int) := by omega
      obtain ⟨l, hx⟩ : ∃ l, M[k]? = some l := ⟨_, List.getElem?_eq_getElem (by rw [← HN.out]; exact hlt)⟩
      obtain ⟨bm', om, A', c', rfl, hbm, hc, hrb, _⟩ := Hh.out k l hx
      have kl : (wr.alloc (.cells #[] 5)).cell? ⟨bm', om + k, none⟩ = some (.slice A' l.length c') := (World.cell?_alloc_lt wr _ ⟨bm', om + k, none⟩ (Nat.lt_of_lt_of_le hbm hrel.out.2.size)).trans ((hrel.out.2.cell (p := ⟨bm', om + k, none⟩) hbm).trans hc)
      have Hrb : Hid (RB wr wr.heap.size A' l ∧ l.length ≤ 1048576) := ⟨(hrb.below hrel.out.2).wide hrel.out.2.size, Hsm.out.2 k l hx⟩
      have HSt : Hid (∀ rv w1, Own w1 wr.heap.size rv l → Below wr.heap.size wr w1 → ∃ rows : List Value, OwnV (w1.alloc (.cells #[rv] 46)) w.heap.size 46 u5 rows ∧ rows.length = k ∧ w.heap.size ≤ w1.heap.size ∧
          ∀ v' w', OwnV w' w.heap.size 46 v' (rows ++ [rv]) → (w1.alloc (.cells #[rv] 46)).grownBy w' u5.ownBlock → MatE w' w.heap.size v' (M.take (k + 1)) ∧ Below w.heap.size w w') := fun rv w1 ho hb => by
        obtain ⟨rows, r1, r2, r3⟩ := matE_step hrel.out ho hb
        refine ⟨rows, r1, ?_, Nat.le_trans hrel.out.2.size hb.size, ?_⟩
        · rw [r2, List.length_take]
          have := (List.getElem?_eq_some_iff.1 hx).1
          omega
        · rw [List.take_add_one, hx]
          exact r3
      clear hx hbm hc hrb hrel hlt
      go_wp2_with (first
        | (at_builtin; (refine app_bytes rfl (.tmp 34) (.tmp 38) rfl wr.heap.size _ [] rfl (Own.made wr _ (Nat.le_refl _)) _ A' l.length c' l rfl rfl (Hrb.out.1.alloc (Nat.le_refl _) _) (by have := Hrb.out.2; simp; omega) (by simp) ?_); intro rv w1 hown hbel _; obtain ⟨A9, c9, rfl, _⟩ := hown.rb; obtain ⟨rows, r1, r2, r3, r4⟩ := HSt.out _ w1 (by simpa using hown) (((Below.refl _ _).alloc (Nat.le_refl _) _).trans hbel); have Hr1 := Lib.hid r1; have Hr2 := Lib.hid r2; have Hr3 := Lib.hid r3; have Hr4 := Lib.hid r4; clear r1 r2 r3 r4 hown hbel HSt kl)
        | (at_builtin; go_must (refine app_one rfl (.tmp 33) (.tmp 40) 36 46 rfl Try.underlying36 (.slice none 0 0) 24 info_row rfl w.heap.size _ rows rfl Hr1.out ⟨w1.heap.size, 0, none⟩ 1 _ rfl (cell_new _ _ _) rfl (by have := Hr2.out; omega) (by have := Hr2.out; omega) (by have := Hr3.out; simp; omega) ?_); intro v9 W9 hown9 hg9 hb9; have Hn := Lib.hid (Hr4.out v9 W9 hown9 hg9); clear hown9 hg9 hb9))
      go_roundw
      case rel => exact ⟨v9, k + 1, rfl, by go_num, by omega, Hn.out⟩
      case measure => simp [intOf]; omega
    obtain rfl : k = N := by omega
    obtain ⟨hme, hbe⟩ := hrel.out
    rw [List.take_of_length_le (by rw [HN.out]; exact Nat.le_refl _)] at hme
    obtain ⟨Am, cm, rfl, _, hmm⟩ := hme.rm
    rw [← HN.out]
    have Hm : Hid (RM wr wr.heap.size Am M ∧ Below w.heap.size w wr) := ⟨hmm, hbe⟩
    have Hi := Lib.hid (HI.out Am cm wr hmm)
    clear hlt hrel hme hbe hmm HI
    go_wp2_with fail
    refine Hi.out.mono ?_
    rintro e w3 ⟨Aa, ca, rfl, ma, hb3⟩
    have Ma := Lib.hid ma
    have Hb3 := Lib.hid hb3
    have Ho := Lib.hid (HO.out Am cm w3 ((Hm.out.1.below hb3).wide hb3.size) (Hm.out.2.trans (hb3.mono Hm.out.2.size)))
    clear ma hb3 Hi
    generalize hla : LI.length = la at *
    go_wp2_with fail
    refine Ho.out.mono ?_
    rintro e w4 ⟨Ab, cb, rfl, mb, hb4⟩
    have Mb := Lib.hid mb
    have Hb4 : Hid (Below w3.heap.size w3 w4 ∧ Below wr.heap.size wr w4) := ⟨hb4, Hb3.out.trans (hb4.mono Hb3.out.size)⟩
    have Ht := Lib.hid (HT.out Am cm w4 ((Hm.out.1.below Hb4.out.2).wide Hb4.out.2.size))
    clear mb hb4 Ho HT
    generalize hlb : LR.length = lb at *
    go_wp2_with fail
    refine Ht.out.mono ?_
    rintro e w5 ⟨Ac, cc, rfl, mc, hb5⟩
    have Mc := Lib.hid mc
    have Hb5 : Hid (Below w3.heap.size w3 w5 ∧ Below w4.heap.size w4 w5 ∧ Below wr.heap.size wr w5) := ⟨Hb4.out.1.trans (hb5.mono Hb4.out.1.size), hb5, Hb4.out.2.trans (hb5.mono Hb4.out.2.size)⟩
    have S1 : Hid (Calls Try.prog 37 #[.slice Aa la ca] w5 fun e w' => e = .returned (.tuple #[]) ∧ Out wr.heap.size w3.heap.size w5 w') := by
      have := HSp.out LI HL.out.1 Aa ca _ _ w5 (by rw [hla]; exact Ma.out.below Hb5.out.1)
      rw [hla] at this
      exact this
    clear mc hb5 Ht
    generalize hlc : LT.length = lc at *
    go_wp2_with fail
    refine S1.out.mono ?_
    rintro e w6 ⟨rfl, ho6⟩
    have Ho6 := Lib.hid ho6
    have Hb6 : Hid (Below wr.heap.size wr w6) := Hb5.out.2.2.trans (ho6.lowest (Nat.le_refl _) Hb5.out.2.2.size)
    have S2 : Hid (Calls Try.prog 37 #[.slice Ab lb cb] w6 fun e w' => e = .returned (.tuple #[]) ∧ Out w3.heap.size w4.heap.size w6 w') := by
      have := HSp.out LR HL.out.2.1 Ab cb _ _ w6 (by rw [hlb]; exact (Mb.out.below Hb5.out.2.1).out ho6 (.inl (Nat.le_refl _)))
      rw [hlb] at this
      exact this
    clear ho6 S1
    go_wp2_with fail
    refine S2.out.mono ?_
    rintro e w7 ⟨rfl, ho7⟩
    have Hb7 : Hid (Below wr.heap.size wr w7) := Hb6.out.trans (ho7.lowest Hb3.out.size Hb6.out.size)
    have S3 : Hid (Calls Try.prog 37 #[.slice Ac lc cc] w7 fun e w' => e = .returned (.tuple #[]) ∧ Out w4.heap.size w5.heap.size w7 w') := by
      have := HSp.out LT HL.out.2.2 Ac cc _ _ w7 (by rw [hlc]; exact (Mc.out.out Ho6.out (.inl Hb4.out.1.size)).out ho7 (.inl (Nat.le_refl _)))
      rw [hlc] at this
      exact this
    clear ho7 S2
    go_wp2_with fail
    refine S3.out.mono ?_
    rintro e w8 ⟨rfl, ho8⟩
    have Hb8 : Hid (Below wr.heap.size wr w8 ∧ Below w.heap.size w w8) := by
      have q := Hb7.out.trans (ho8.lowest Hb4.out.2.size Hb7.out.size)
      exact ⟨q, Hm.out.2.trans (q.mono Hm.out.2.size)⟩
    have D1 := Lib.hid (HS.out Am cm w8 ((Hm.out.1.below Hb8.out.1).wide Hb8.out.1.size) Hb8.out.2)
    clear ho8 S3 Hb7 Hb6 Ho6 Ma Mb Mc Hb5 Hb4 Hb3
    go_wp2_with fail
    refine D1.out.mono ?_
    rintro e w9 ⟨rfl, q9, hw9⟩
    have Hb9 : Hid (Below wr.heap.size wr w9 ∧ Below w.heap.size w w9) := by
      rw [hw9]
      exact ⟨drewN_below Hb8.out.1 _, drewN_below Hb8.out.2 _⟩
    have D2 := Lib.hid (HO.out Am cm w9 ((Hm.out.1.below Hb9.out.1).wide Hb9.out.1.size) Hb9.out.2)
    clear hw9 D1 HS Hb8 HO
    go_wp2_with fail
    refine D2.out.mono ?_
    rintro e w10 hx
    obtain ⟨Ad, cd, rfl, rd, _, hb10⟩ := hx.rm
    have Hb10 : Hid (Below w.heap.size w w10) := Hb9.out.2.trans (hb10.mono Hb9.out.2.size)
    have Rd := Lib.hid rd
    have D3 := Lib.hid (HQ.out w10 Hb10.out)
    clear rd hb10 hx D2 HQ Hb9
    rw [hlb]
    go_wp2_with fail
    refine D3.out.mono ?_
    rintro e w11 ⟨Ax, cx, rfl, rx, hb11⟩
    have Hb11 : Hid (Below w.heap.size w w11) := Hb10.out.trans (hb11.mono Hb10.out.size)
    have D4 : Hid (Calls Try.prog 24 #[.slice Ad lb cd, .slice Ax lb cx] w11 fun e w' => e = .returned (.bool true) ∧ ∃ q, w' = w11.drewN q) := by
      have := same_self (c := cd) (c2 := cx) ((Rd.out.below hb11).wide hb11.size) rx HL.out.2.1.small.1
      rw [hlb] at this
      exact this
    clear rx hb11 D3 Rd Hb10
    rw [hlb]
    go_wp2_with fail
    refine D4.out.mono ?_
    rintro e w12 ⟨rfl, q12, hw12⟩
    have Hb12 : Hid (Below w.heap.size w w12) := by rw [hw12]; exact drewN_below Hb11.out _
    clear hw12 D4 Hb11
    go_wp2_with fail
    go_ret
    exact ⟨by simp, Hb12.out⟩
end Go.Proofs.Ytbfbjmngcojaoaa
