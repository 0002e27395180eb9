/-
  Fronts of zones: the law's walk.
-/
import Derived.Test.YtkeflmpilplafaaZFront2
namespace Go.Proofs.Ytkeflmpilplafaa
open Go.RowKit

/-- what the caller holds behind i rows -/
def FrL (w0 : World) (pw d ga gs i : Nat) (w : World) : Prop :=
  ∃ (n : Nat) (al : List (List UInt8)) (sf : List Nat), n ≤ 2 * i ∧ al.length = 4 ∧ sf.length = 4 ∧ (∀ (z : Nat) l, al[z]? = some l → l.length ≤ i) ∧ (∀ (z : Nat) l s, al[z]? = some l → sf[z]? = some s → s ≤ l.length) ∧ Fr w0 pw d ga gs (Pf n) (DF al sf) al sf w
theorem FrL.first {w0 w : World} {pw d : Nat} {O : Nat → Option Tag} (h : Cl w0 w O pw (Pf 0) [(d, DF [[], [], [], []] [0, 0, 0, 0])]) :
    FrL w0 pw d w.heap.size (w.heap.size + 1) 0 ((w.alloc (.cells #[.slice none 0 0, .slice none 0 0, .slice none 0 0, .slice none 0 0] 55)).alloc (.cells #[.int .i64 0, .int .i64 0, .int .i64 0, .int .i64 0] 56)) := by
  refine ⟨0, [[], [], [], []], [0, 0, 0, 0], Nat.le_refl _, rfl, rfl, fun z l hl => ?_, fun z l s hl hs => ?_, O, fun _ => none, [.slice none 0 0, .slice none 0 0, .slice none 0 0, .slice none 0 0], (h.alloc _).alloc _, rfl, (Cells.new w _ _).alloc _, sys_fresh' h.1 (Nat.le_refl _), h.2.2.size, ?_, sys_fresh' h.1 (by omega), by have := h.2.2.size; omega, fun z l v hl hv => ?_⟩
  · match z, hl with
    | 0, hl | 1, hl | 2, hl | 3, hl => simp at hl; subst hl; exact Nat.le_refl _
    | z + 4, hl => simp at hl
  · match z, hl, hs with
    | 0, hl, hs | 1, hl, hs | 2, hl, hs | 3, hl, hs => simp at hl hs; subst hl; subst hs; exact Nat.le_refl _
    | z + 4, hl, hs => simp at hl
  · have := Cells.new (w.alloc (.cells #[.slice none 0 0, .slice none 0 0, .slice none 0 0, .slice none 0 0] 55)) #[.int .i64 0, .int .i64 0, .int .i64 0, .int .i64 0] 56
    simpa using this
  · match z, hl, hv with
    | 0, hl, hv | 1, hl, hv | 2, hl, hv | 3, hl, hv => simp at hl hv; subst hl; subst hv; exact ⟨Own.nil _ _, fun g hg => by cases hg⟩
    | z + 4, hl, hv => simp at hl
/-- the page that the caller makes for row i -/
theorem page_made (w : World) (cs : Array Value) (hcs : cs = (bvs (List.replicate 32 0)).toArray) (i : Nat) (hi : i < 256) :
    (w.alloc (.cells cs 5)).cell? ⟨w.heap.size, 0, none⟩ = some (.int .u8 0) ∧ (w.alloc (.cells cs 5)).frozen? ⟨w.heap.size, 0, none⟩ = false ∧
    (let w2 := w.alloc (.cells (cs.setIfInBounds 0 (.int .u8 (i : Int))) 5); Below w.heap.size w w2 ∧ RB w2 w2.heap.size (some ⟨w.heap.size, 0, none⟩) (pg (UInt8.ofNat i))) := by
  subst hcs
  have h1 : Cells (w.alloc (.cells (bvs (List.replicate 32 0)).toArray 5)) w.heap.size 5 (bvs (List.replicate 32 0)) := Cells.new w _ _
  refine ⟨h1.cell rfl, h1.frozen 0, (Below.refl _ w).alloc (Nat.le_refl _) _, ?_⟩
  refine (RB.new w _ _ _ ?_).wide (by simp)
  have e : (bvs (List.replicate 32 0)).set 0 (.int .u8 (i : Int)) = bvs (pg (UInt8.ofNat i)) := by
    simp [bvs, pg, bv, List.replicate_succ]
    omega
  rw [← e]
  simp

set_option maxRecDepth 20000 in
set_option maxHeartbeats 4000000 in
theorem fronts_any (A : Option Addr) (ws : List Int) (c : Nat) (fl : Int) (A2 : Option Addr) (pk : List Int) (c2 : Nat) (w : World) (hr : RI w w.heap.size A ws) (hr2 : RI w w.heap.size A2 pk) (hc2 : pk.length ≤ c2) (hcm2 : c2 ≤ 9223372036854775807) (hb : ∀ z ∈ ws, -9223372036854775808 ≤ z ∧ z ≤ 9223372036854775807) :
    Calls Try.prog 4 #[.slice A ws.length c, .int .i64 fl, .slice A2 pk.length c2] w fun e w' => e = .returned (.bool true) ∧ Below w.heap.size w w' := by
  have Hk := Lib.hid (known_any w)
  by_cases big : 200 < ws.length ∨ 100 < pk.length
  · have hd : (200 : Int) < (ws.length : Int) ∨ ((ws.length : Int) ≤ 200 ∧ (100 : Int) < (pk.length : Int)) := by omega
    clear big hr hb hr2 hc2 hcm2
    generalize ws.length = L at *
    generalize pk.length = L2 at *
    rcases hd with hd | ⟨hd, hd2⟩
    all_goals
      go_enter Try.func4, Try.ntmps4
      go_wp2_with (go_at_call 6; refine Hk.out.mono ?_; rintro e w1 ⟨rfl, hb1⟩; have Hb1 := Lib.hid hb1; clear hb1 Hk)
      go_ret
      exact ⟨rfl, Hb1.out⟩
  obtain ⟨L, hL⟩ : ∃ L, L = ws.length := ⟨_, rfl⟩
  have hL1 : (L : Int) ≤ 200 := by omega
  have hL2 : (pk.length : Int) ≤ 100 := by omega
  have HL := Lib.hid hL
  have Hr := Lib.hid hr
  have Hr2 := Lib.hid hr2
  have Hbd := Lib.hid hb
  rw [← hL]
  obtain ⟨cs, Hcs, hmk0⟩ := make_run 32 (by omega)
  have hmk : ∀ u : World, (Instr.makeSlice 46 (.int .i64 32) (.int .i64 32)).run Try.prog u = .ok (.slice (some ⟨u.heap.size, 0, none⟩) 32 32) (u.alloc (.cells cs 5)) := hmk0
  clear hmk0 hL hr big hb hr2
  go_enter Try.func4, Try.ntmps4
  go_wp2_with (go_at_call 6; refine Hk.out.mono ?_; rintro e w1 ⟨rfl, hb1⟩; have Hb1 := Lib.hid hb1; clear hb1 Hk)
  have Hbp := Lib.hid (begin_pow w1)
  refine Hbp.out.mono ?_
  rintro e w2 ⟨rfl, O2, hc20⟩
  have Hn : Hid (Calls Try.prog 9 #[.pointer (some ⟨w1.heap.size, 0, none⟩), .int .i64 4, .int .i64 300, .int .i64 32] w2 fun e w' => ∃ d O', e = .returned (.tuple #[.pointer (some ⟨d, 0, none⟩), .int .i64 0]) ∧ Cl w w' O' w1.heap.size (Pf 0) [(d, DF [[], [], [], []] [0, 0, 0, 0])]) := by
    obtain ⟨q1, q2, q3⟩ := hc20
    have hsz := Hb1.out.size
    have h : Cl w w2 O2 w1.heap.size Pow.new [] := ⟨q1, fun x hx => q2 x (by omega), Hb1.out.trans (q3.mono hsz)⟩
    exact h.new 4 300 32 (by simp) (by omega) (by omega) (by omega) (by omega) (by omega) (by omega)
  clear hc20 Hbp
  go_wp2_with fail
  refine Hn.out.mono ?_
  rintro e w3 ⟨d, O3, rfl, hc3⟩
  have Hc3 := Lib.hid hc3
  clear hc3 Hn
  go_wp2_with fail
  have Hst := Lib.hid (FrL.first Hc3.out)
  clear Hc3
  generalize (w3.alloc (.cells #[.slice none 0 0, .slice none 0 0, .slice none 0 0, .slice none 0 0] 55)).alloc (.cells #[.int .i64 0, .int .i64 0, .int .i64 0, .int .i64 0] 56) = W4 at Hst ⊢
  generalize w3.heap.size + 1 = gs at Hst ⊢
  generalize w3.heap.size = ga at Hst ⊢
  go_loopw [12] (fun iv wr => ∃ i : Nat, iv = .int .i64 (i : Int) ∧ i ≤ L ∧ Hid (FrL w w1.heap.size d ga gs i wr)) (fun iv _ => L - (intOf iv).toNat)
  case atStart => exact ⟨0, rfl, Nat.zero_le _, Hst.out⟩
  case round =>
    obtain ⟨i, rfl, hi, hrel⟩ := hrel
    by_cases hlt : i < L
    · have hiw : i < ws.length := by rw [← HL.out]; exact hlt
      obtain ⟨n, al, sf, hn, ha4, hs4, hal, hsf, hfr⟩ := hrel.out
      have hri := Hr.out.below hfr.fin
      obtain ⟨b, o, rfl, _⟩ := hri.flat (by omega)
      have hcz := hri.at_ hiw
      have hzb := Hbd.out ws[i] (List.getElem_mem hiw)
      generalize ws[i] = z at hcz hzb
      have ht1 : -4 < z.tmod 4 := Int.lt_tmod_of_pos z (by decide)
      have ht2 : z.tmod 4 < 4 := Int.tmod_lt_of_pos z (by decide)
      have hi200 : (i : Int) < 200 := by omega
      have hii : (i : Int) < (L : Int) := by omega
      obtain ⟨j, hj, htj⟩ : ∃ j : Nat, j < 4 ∧ (z.tmod 4 = (j : Int) ∨ (1 ≤ j ∧ z.tmod 4 = -(j : Int))) := by
        by_cases h0 : 0 ≤ z.tmod 4
        · exact ⟨(z.tmod 4).toNat, by omega, .inl (by omega)⟩
        · exact ⟨(-(z.tmod 4)).toNat, by omega, .inr ⟨by omega, by omega⟩⟩
      have hj' : (j : Int) < 4 := by omega
      obtain ⟨l, hl⟩ : ∃ l, al[j]? = some l := ⟨_, List.getElem?_eq_getElem (by omega)⟩
      obtain ⟨s0, hs0⟩ : ∃ s0, sf[j]? = some s0 := ⟨_, List.getElem?_eq_getElem (by omega)⟩
      have hll := hal j l hl
      obtain ⟨e1, e2, e3⟩ := go_DF n al sf j l s0 (UInt8.ofNat i) ha4 hs4 hl hs0 (by omega)
      obtain ⟨pc, pf, pb, pr⟩ := page_made wr cs Hcs.out i (by omega)
      have Happ : Hid (Calls Try.prog 16 #[.pointer (some ⟨d, 0, none⟩), .int .i64 (j : Int), .slice (some ⟨wr.heap.size, 0, none⟩) 32 32] (wr.alloc (.cells (cs.setIfInBounds 0 (.int .u8 (i : Int))) 5)) fun e w2 =>
          e = .returned (.int .i64 0) ∧ Fr w w1.heap.size d ga gs (Pf (n + 1)) (DF (al.set j (l ++ [UInt8.ofNat i])) sf) al sf w2) :=
        hfr.append pb (Nat.le_refl _) (pg_len _) pr (j : Int) (by show n ≤ _; omega) (Nat.zero_le _) e1 e2 e3
      have Hl := Lib.hid hl
      have Hll : Hid ((bvs l).length ≤ 200) := by show _ ≤ _; rw [bvs_length]; omega
      have hwu : IntKind.u8.wrap (i : Int) = (i : Int) := by rw [IntKind.wrap_u8]; omega
      have Hx : Hid (((UInt8.ofNat i).toNat : Int) = (i : Int)) := by show _ = _; rw [UInt8.toNat_ofNat']; omega
      clear pb pr e1 e2 e3 hri hiw ht1 ht2 hl hs0
      have Hfin : Hid (∀ w2, Fr w w1.heap.size d ga gs (Pf (n + 1)) (DF (al.set j (l ++ [UInt8.ofNat i])) sf) (al.set j (l ++ [UInt8.ofNat i])) sf w2 → FrL w w1.heap.size d ga gs (i + 1) w2) := by
        intro w2 hf2
        refine ⟨n + 1, _, sf, by omega, by simp [ha4], hs4, fun z' l' hz' => ?_, fun z' l' s' hz' hs' => ?_, hf2⟩
        · by_cases e : z' = j
          · subst e
            rw [List.getElem?_set_self (by omega)] at hz'
            cases hz'
            simp
            omega
          · rw [List.getElem?_set_ne (fun h => e h.symm)] at hz'
            have := hal z' l' hz'
            omega
        · by_cases e : z' = j
          · subst e
            rw [List.getElem?_set_self (by omega)] at hz'
            cases hz'
            have := hsf z' l s' Hl.out hs'
            simp
            omega
          · rw [List.getElem?_set_ne (fun h => e h.symm)] at hz'
            exact hsf z' l' s' hz' hs'
      obtain ⟨al2, hal2⟩ : ∃ al2, al2 = al.set j (l ++ [UInt8.ofNat i]) := ⟨_, rfl⟩
      have ha24 : al2.length = 4 := by rw [hal2]; simp [ha4]
      have Ha24 := Lib.hid ha24
      have Hs4 := Lib.hid hs4
      have Hflush : Hid (∀ w5, Fr w w1.heap.size d ga gs (Pf (n + 1)) (DF al2 sf) al2 sf w5 → Calls Try.prog 17 #[.pointer (some ⟨d, 0, none⟩)] w5 fun e w2 => e = .returned (.int .i64 0) ∧ Fr w w1.heap.size d ga gs (Pf (n + 2)) (DF al2 (al2.map List.length)) al2 sf w2) := by
        intro w5 hf
        obtain ⟨f1, f2, f3⟩ := fl_DF (n + 1) al2 sf (by rw [ha24, hs4])
        exact hf.flush (by show n + 1 ≤ _; omega) (Nat.zero_le _) f1 f2 f3
      have Hfin2 : Hid (∀ w2, Fr w w1.heap.size d ga gs (Pf (n + 2)) (DF al2 (al2.map List.length)) al2 (al2.map List.length) w2 → FrL w w1.heap.size d ga gs (i + 1) w2) := by
        intro w2 hf2
        refine ⟨n + 2, al2, al2.map List.length, by omega, ha24, by simp [ha24], fun z' l' hz' => ?_, fun z' l' s' hz' hs' => ?_, hf2⟩
        · rw [hal2] at hz'
          by_cases e : z' = j
          · subst e
            rw [List.getElem?_set_self (by omega)] at hz'
            cases hz'
            simp
            omega
          · rw [List.getElem?_set_ne (fun h => e h.symm)] at hz'
            have := hal z' l' hz'
            omega
        · rw [List.getElem?_map, hz'] at hs'
          cases hs'
          exact Nat.le_refl _
      rw [← hal2] at Hfin Happ
      have Hal2 := Lib.hid hal2
      clear hal2 ha24 hs4 ha4 hal hsf hn hfr hll hzb
      rcases htj with htj | ⟨hj1, htj⟩
      case' inr => have hj1' : (1 : Int) ≤ (j : Int) := by omega
      all_goals
        by_cases hfl : (i : Int) = fl
        · have hfb : ((i : Int) == fl) = true := by simp [hfl]
          clear hfl
          go_wp2_with (first
            | (go_at_call 16; refine Happ.out.mono ?_; rintro e w5 ⟨rfl, hf5⟩; obtain ⟨A5, c5, hc5, ho5, hz5⟩ := hf5.row Hl.out; have Hf5 := Lib.hid hf5; have Ho5 := Lib.hid (Own.toV ho5); have Hs5 : Hid (w.heap.size ≤ w5.heap.size) := hf5.fin.size; have Hc5 := Lib.hid hc5; clear hf5 ho5 hz5)
            | (at_builtin; go_must (refine app_one rfl (.tmp 72) (.tmp 75) 46 5 rfl Try.underlying46 (.int .u8 0) 1 info8 rfl w.heap.size _ (bvs l) rfl (Ho5.out.alloc _) ⟨w5.heap.size, 0, none⟩ 1 (.int .u8 (i : Int)) rfl (cell_new _ _ _) rfl (by have := Hll.out; omega) (by have := Hll.out; omega) (Nat.le_trans Hs5.out (by simp)) ?_); intro v9 W9 hown9 hg9 hb9; obtain ⟨⟨g9, cap9, rfl⟩, hc9, hf9, hfr9⟩ := Hf5.out.rowPut Hl.out Hc5.out (by rw [Hx.out]; exact hown9) hg9 hb9; rw [← Hal2.out] at hfr9; have Hfr9 := Lib.hid hfr9; clear hfr9 hown9 hg9 hb9)
            | (go_at_call 17; refine (Hflush.out _ Hfr9.out).mono ?_; rintro e w6 ⟨rfl, hf6⟩; have Hf6 := Lib.hid hf6; clear hf6))
          clear hfb htj
          have Hst6 : Hid (Fr w w1.heap.size d ga gs (Pf (n + 2)) (DF al2 (al2.map List.length)) al2 ((al2.map List.length).take 0 ++ sf.drop 0) w6) := by
            show Fr _ _ _ _ _ _ _ _ _ _
            have := Hf6.out
            simpa using this
          obtain ⟨wo, rfl⟩ : ∃ wo : World, wo = wr := ⟨_, rfl⟩
          go_loopw [15] (fun kv wz => ∃ k : Nat, kv = .int .i64 (k : Int) ∧ k ≤ 4 ∧ Hid (Fr w w1.heap.size d ga gs (Pf (n + 2)) (DF al2 (al2.map List.length)) al2 ((al2.map List.length).take k ++ sf.drop k) wz)) (fun kv _ => 4 - (intOf kv).toNat)
          case atStart => exact ⟨0, rfl, Nat.zero_le _, Hst6.out⟩
          case round =>
            obtain ⟨k, rfl, hk, hrel2⟩ := hrel
            by_cases hk4 : k < 4
            · have hk' : (k : Int) < 4 := by omega
              obtain ⟨lk, hlk⟩ : ∃ lk, al2[k]? = some lk := ⟨_, List.getElem?_eq_getElem (by rw [Ha24.out]; exact hk4)⟩
              obtain ⟨Ak, ck, hck, _, _⟩ := hrel2.out.row hlk
              have hsk : ∃ sk, ((al2.map List.length).take k ++ sf.drop k)[k]? = some sk := ⟨_, List.getElem?_eq_getElem (by simp [Ha24.out, Hs4.out]; omega)⟩
              obtain ⟨sk, hsk⟩ := hsk
              obtain ⟨hnk, hnf⟩ := hrel2.out.num hsk
              have Hput : Hid (Fr w w1.heap.size d ga gs (Pf (n + 2)) (DF al2 (al2.map List.length)) al2 ((al2.map List.length).take (k + 1) ++ sf.drop (k + 1)) (wr.setCell ⟨gs, k, none⟩ (.int .i64 (lk.length : Int)))) := by
                have h9 := hrel2.out.numPut k lk.length
                have e9 : ((al2.map List.length).take k ++ sf.drop k).set k lk.length = (al2.map List.length).take (k + 1) ++ sf.drop (k + 1) := by
                  have hkl : k < (al2.map List.length).length := by simp [Ha24.out]; exact hk4
                  have hks : k < sf.length := by rw [Hs4.out]; exact hk4
                  have hl9 : ((al2.map List.length).take k).length = k := by rw [List.length_take]; omega
                  rw [List.set_append_right _ _ (by omega), hl9, Nat.sub_self, List.drop_eq_getElem_cons hks, List.set_cons_zero, List.take_succ_eq_append_getElem hkl]
                  have : (al2.map List.length)[k] = lk.length := by
                    rw [List.getElem_map]
                    congr 1
                    have := (List.getElem?_eq_some_iff.1 hlk).2
                    exact this
                  rw [this]
                  simp
                rw [e9] at h9
                exact h9
              clear hlk hsk hk4
              go_wp2_with fail
              go_roundw
              case rel => exact ⟨k + 1, by go_num, by omega, Hput.out⟩
              case measure => simp [intOf]; omega
            · obtain rfl : k = 4 := by omega
              have Hend := Lib.hid (Hfin2.out wr (by
                have h9 := hrel2.out
                rw [List.take_of_length_le (by simp [Ha24.out]), List.drop_eq_nil_of_le (by rw [Hs4.out]; exact Nat.le_refl _), List.append_nil] at h9
                exact h9))
              clear hk4 hk
              go_wp2_with fail
              go_roundw
              case rel => exact ⟨i + 1, by go_num, by omega, Hend.out⟩
              case measure => simp [intOf]; omega
        · have hfb : ((i : Int) == fl) = false := by simp [hfl]
          clear hfl
          go_wp2_with (first
            | (go_at_call 16; refine Happ.out.mono ?_; rintro e w5 ⟨rfl, hf5⟩; obtain ⟨A5, c5, hc5, ho5, hz5⟩ := hf5.row Hl.out; have Hf5 := Lib.hid hf5; have Ho5 := Lib.hid (Own.toV ho5); have Hs5 : Hid (w.heap.size ≤ w5.heap.size) := hf5.fin.size; have Hc5 := Lib.hid hc5; clear hf5 ho5 hz5)
            | (at_builtin; go_must (refine app_one rfl (.tmp 72) (.tmp 75) 46 5 rfl Try.underlying46 (.int .u8 0) 1 info8 rfl w.heap.size _ (bvs l) rfl (Ho5.out.alloc _) ⟨w5.heap.size, 0, none⟩ 1 (.int .u8 (i : Int)) rfl (cell_new _ _ _) rfl (by have := Hll.out; omega) (by have := Hll.out; omega) (Nat.le_trans Hs5.out (by simp)) ?_); intro v9 W9 hown9 hg9 hb9; obtain ⟨⟨g9, cap9, rfl⟩, hc9, hf9, hfr9⟩ := Hf5.out.rowPut Hl.out Hc5.out (by rw [Hx.out]; exact hown9) hg9 hb9; rw [← Hal2.out] at hfr9; have Hfr9 := Lib.hid hfr9; clear hfr9 hown9 hg9 hb9))
          go_roundw
          case rel => exact ⟨i + 1, by go_num, by omega, Hfin.out _ Hfr9.out⟩
          case measure => simp [intOf]; omega
    · obtain rfl : i = L := by omega
      obtain ⟨n, al, sf, hn, ha4, hs4, hal, hsf, hfr⟩ := hrel.out
      have Hcut := Lib.hid (hfr.cut Hr2.out hc2 hcm2)
      obtain ⟨D, hD⟩ : ∃ D, D = (DF al sf).cut pk := ⟨_, rfl⟩
      rw [← hD] at Hcut
      have Hpt : Hid (∀ z : Nat, z < 4 → ∃ l s m, al[z]? = some l ∧ sf[z]? = some s ∧ l.length ≤ 200 ∧ s ≤ m ∧ m ≤ l.length ∧ ptrNum (Pf n) D (z : Int) = m ∧ ptrCode (Pf n) D (z : Int) = 0 ∧ ∀ k x, k < m → l[k]? = some x → readCode (Pf n) D (z : Int) (k : Int) = 0 ∧ readBytes (Pf n) D (z : Int) (k : Int) = pg x) := by
        intro z hz
        obtain ⟨l, hl⟩ : ∃ l, al[z]? = some l := ⟨_, List.getElem?_eq_getElem (by omega)⟩
        obtain ⟨s, hs⟩ : ∃ s, sf[z]? = some s := ⟨_, List.getElem?_eq_getElem (by omega)⟩
        obtain ⟨m, h1, h2, h3⟩ := cut_DF al sf pk z l s hl hs (hsf z l s hl hs)
        rw [← hD] at h3
        have hlen : D.piles.length = 4 := by rw [hD]; show (cutPiles (DF al sf).piles pk).length = 4; rw [cutPiles_length, DF_len al sf ha4 hs4]
        have hlo : D.lost = false := by rw [hD]; rfl
        have hpc : ptrCode (Pf n) D (z : Int) = 0 := by
          unfold ptrCode
          rw [hlo, hlen, if_neg (by intro h; exact h rfl), if_neg (by intro h; apply h; omega)]
        have hpl : (zoneOf D (z : Int)).pages.length = m := by rw [h3]; simp; omega
        refine ⟨l, s, m, hl, hs, (by have := hal z l hl; omega), h1, h2, ?_, hpc, fun k x hk hx => ?_⟩
        · unfold ptrNum
          rw [if_pos hpc, hpl]
        · have hrc : readCode (Pf n) D (z : Int) (k : Int) = 0 := by
            unfold readCode
            rw [hpc, hpl, if_neg (by intro h; exact h rfl), if_neg (by intro h; apply h; omega)]
          refine ⟨hrc, ?_⟩
          unfold readBytes
          rw [if_pos hrc, h3, Int.toNat_natCast, List.getD_eq_getElem?_getD]
          simp only [List.getElem?_map, List.getElem?_take, if_pos hk, hx]
          rfl
      clear hlt hi hrel hfr hsf hal hs4 ha4 hn hD
      go_wp2_with (go_at_call 18; refine Hcut.out.mono ?_; rintro e w6 ⟨rfl, hf6⟩; have Hf6 := Lib.hid hf6; clear hf6)
      obtain ⟨wo, rfl⟩ : ∃ wo : World, wo = wr := ⟨_, rfl⟩
      go_loopw [16] (fun zv wz => ∃ z : Nat, zv = .int .i64 (z : Int) ∧ z ≤ 4 ∧ Hid (Fr w w1.heap.size d ga gs (Pf n) D al sf wz)) (fun zv _ => 4 - (intOf zv).toNat)
      case atStart => exact ⟨0, rfl, by omega, Hf6.out⟩
      case round =>
        obtain ⟨z, rfl, hz, hrz⟩ := hrel
        by_cases hz4 : z < 4
        case neg =>
          have Hfin := Lib.hid hrz.out.fin
          obtain rfl : z = 4 := by omega
          clear hz4 hz
          go_wp2_with fail
          go_ret
          exact ⟨rfl, Hfin.out⟩
        obtain ⟨l, s, m, hl, hs, hlb, hsm, hml, hpn, hpc, hrd⟩ := Hpt.out z hz4
        have hz' : (z : Int) < 4 := by omega
        have Hptr : Hid (Calls Try.prog 19 #[.pointer (some ⟨d, 0, none⟩), .int .i64 (z : Int)] wr fun e w' => e = .returned (.tuple #[.int .i64 (m : Int), .int .i64 0]) ∧ wr = w') := by
          have := hrz.out.pointer (z : Int)
          rw [hpn, hpc] at this
          exact this
        obtain ⟨Al, cl, hcl, hol, _⟩ := hrz.out.row hl
        obtain ⟨hcs2, _⟩ := hrz.out.num hs
        have hsm' : (s : Int) ≤ (m : Int) := by omega
        have hml' : (m : Int) ≤ (l.length : Int) := by omega
        have hm200 : (m : Int) ≤ 200 := by omega
        have hd1 : decide (m < s) = false := by simp; omega
        have hd2 : decide (l.length < m) = false := by simp; omega
        have Hl := Lib.hid hl
        have Hrd := Lib.hid hrd
        have Hml := Lib.hid hml
        clear hl hs hrd hpn hpc hsm hml hz4 hol
        go_wp2_with (go_at_call 19; refine Hptr.out.mono ?_; rintro e w7 ⟨rfl, rfl⟩)
        clear hcl hcs2
        obtain ⟨wp, rfl⟩ : ∃ wp : World, wp = wr := ⟨_, rfl⟩
        go_loopw [19] (fun kv wz => ∃ k : Nat, kv = .int .i64 (k : Int) ∧ k ≤ m ∧ Hid (Fr w w1.heap.size d ga gs (Pf n) D al sf wz)) (fun kv _ => m - (intOf kv).toNat)
        case atStart => exact ⟨0, rfl, Nat.zero_le _, hrz.out⟩
        case round =>
          obtain ⟨k, rfl, hk, hrk⟩ := hrel
          by_cases hkm : k < m
          · have hk' : (k : Int) < (m : Int) := by omega
            have hkl : k < l.length := by have := Hml.out; omega
            obtain ⟨rc, rb⟩ := Hrd.out k l[k] hkm (List.getElem?_eq_getElem hkl)
            have hread := hrk.out.read (z : Int) (k : Int)
            rw [rc, rb] at hread
            have Hread : Hid (Calls Try.prog 14 #[.pointer (some ⟨d, 0, none⟩), .int .i64 (z : Int), .int .i64 (k : Int)] wr fun e w' => ∃ g c, e = .returned (.tuple #[.slice (some ⟨g, 0, none⟩) 32 c, .int .i64 0]) ∧ w'.cell? ⟨g, 0, none⟩ = some (.int .u8 (l[k].toNat : Int)) ∧ (∃ gl cl, w'.cell? ⟨ga, z, none⟩ = some (.slice (some ⟨gl, 0, none⟩) l.length cl) ∧ w'.cell? ⟨gl, k, none⟩ = some (.int .u8 (l[k].toNat : Int))) ∧ Fr w w1.heap.size d ga gs (Pf n) D al sf w') := by
              refine hread.mono fun e w' ⟨v, he, hv, hb⟩ => ?_
              have hf' := hrk.out.below hb
              obtain ⟨g, c, e1, _, _, _, hcell, _⟩ := hv.form (by rw [pg_len]; omega)
              obtain ⟨A9, c9, q1, q2, _⟩ := hf'.row Hl.out
              obtain ⟨g9, cap9, e9, _, _, _, hcell9, _⟩ := q2.form (by omega)
              have eA : A9 = some ⟨g9, 0, none⟩ := by injection e9
              subst eA
              refine ⟨g, c, ?_, ?_, ⟨g9, c9, q1, ?_⟩, hf'⟩
              · rw [he, e1, pg_len]
                rfl
              · have := hcell 0 (by rw [pg_len]; omega)
                simpa [pg] using this
              · exact hcell9 k hkl
            have hkl' : (k : Int) < (l.length : Int) := by omega
            generalize (l[k].toNat : Int) = xk at Hread
            clear hread rc rb hkm
            go_upto_region 40 with (go_at_call 14; refine Hread.out.mono ?_; rintro e w8 ⟨gq, cq, rfl, hq0, ⟨gl, cl2, hq1, hq2⟩, hf8⟩; have Hf8 := Lib.hid hf8; clear hf8)
            go_quiet (fail)
            go_wp2_with fail
            go_roundw
            case rel => exact ⟨k + 1, by go_num, by omega, Hf8.out.below ⟨rfl, rfl, rfl, Nat.le_refl _, fun _ _ => rfl⟩⟩
            case measure => simp [intOf]; omega
          · obtain rfl : k = m := by omega
            clear hkm hk
            go_wp2_with fail
            go_roundw
            case rel => exact ⟨z + 1, by go_num, by omega, hrk.out⟩
            case measure => simp [intOf]; omega
end Go.Proofs.Ytkeflmpilplafaa
