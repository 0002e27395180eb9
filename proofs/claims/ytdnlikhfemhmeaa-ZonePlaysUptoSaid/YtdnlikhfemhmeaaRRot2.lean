/-
  The second saying's Rot, walked.
-/
import Derived.Test.YtdnlikhfemhmeaaRRot
namespace Go.Proofs.Ytdnlikhfemhmeaa
open Go.RowKit

set_option maxRecDepth 20000 in
set_option maxHeartbeats 2000000 in
theorem rrot_any (pw i d : Nat) (P : Pow) (ds : List (Nat × Drv)) (D : Drv) (O : Nat → Option Tag) (z k bit : Int) (w : World) (h : RSysAt w O pw P ds) (hi : ds[i]? = some (d, D)) (hb : bit ≤ 9223372036854775807) :
    Calls Try.prog 35 #[.pointer (some ⟨d, 0, none⟩), .int .i64 z, .int .i64 k, .int .i64 bit] w (RSysPost w O pw P (rotD ds i d D z k bit) (.bool (rotOk D z k))) := by
  obtain ⟨g, cs, h1, h2, h3, h4, h5, h6⟩ := (h.drv i d D hi).1
  have hok := (h.drv i d D hi).2
  have cs1 := h1.cell (i := 3) rfl
  have c3 := h1.cell (i := 2) rfl
  have Hh := Lib.hid (is_any d g D.piles.length z w cs1)
  have stay : rotOk D z k = false → RSysPost w O pw P (rotD ds i d D z k bit) (.bool (rotOk D z k)) = RSysPost w O pw P ds (.bool false) ∧ RSysPost w O pw P ds (.bool false) (.returned (.bool false)) w := by
    intro hr
    refine ⟨by unfold rotD; rw [hr]; rfl, O, rfl, h, Ext.refl _ _⟩
  by_cases hz : 0 ≤ z ∧ z < (D.piles.length : Int)
  case neg =>
    obtain ⟨s1, s2⟩ := stay (by unfold rotOk; simp [hz])
    rw [s1]
    have Hs := Lib.hid s2
    rw [show decide (0 ≤ z ∧ z < (D.piles.length : Int)) = false from decide_eq_false hz] at Hh
    generalize D.piles.length = N at *
    clear s1 s2 stay h1 h2 h3 h4 h5 h6 hok h hi hz
    go_enter Try.func35, Try.ntmps35
    go_wp2_with (go_at_call 43; refine Hh.out.mono ?_; rintro e w1 ⟨rfl, rfl⟩)
    go_ret
    exact Hs.out
  obtain ⟨zn, rfl⟩ : ∃ zn : Nat, z = (zn : Int) := ⟨z.toNat, by omega⟩
  have hzn : zn < D.piles.length := by omega
  have hzi : (zn : Int) < (D.piles.length : Int) := by omega
  rw [show decide (0 ≤ (zn : Int) ∧ (zn : Int) < (D.piles.length : Int)) = true from decide_eq_true hz] at Hh
  obtain ⟨p, hzp⟩ : ∃ p, D.piles[zn]? = some p := ⟨_, List.getElem?_eq_getElem hzn⟩
  have hzo : zoneOf D (zn : Int) = p := by simp [zoneOf, List.getD, hzp]
  obtain ⟨v, e0, e1, vs, hrow, hOr, hvl, hpg⟩ := h6 zn p hzp
  obtain ⟨Ar, cr, rfl, hcr, _, hrd⟩ := hrow.rd
  have hc0 := h3.cell e0
  have hc0' := hc0
  rw [hvl] at hc0
  by_cases hk : 0 ≤ k ∧ k < (p.pages.length : Int)
  case neg =>
    obtain ⟨s1, s2⟩ := stay (by unfold rotOk; rw [hzo]; simp [hk])
    rw [s1]
    have Hs := Lib.hid s2
    by_cases hk0 : k < 0
    · generalize D.piles.length = N at *
      clear s1 s2 stay h1 h2 h3 h4 h5 h6 hok h hi hz hzp hzo e0 e1 hrow hOr hvl hpg hcr hrd hk hc0'
      go_enter Try.func35, Try.ntmps35
      go_wp2_with (go_at_call 43; refine Hh.out.mono ?_; rintro e w1 ⟨rfl, rfl⟩)
      go_ret
      exact Hs.out
    · have hk1 : 0 ≤ k := by omega
      have hk2 : (p.pages.length : Int) ≤ k := by omega
      generalize D.piles.length = N at *
      generalize p.pages.length = M at *
      clear s1 s2 stay h1 h2 h3 h4 h5 h6 hok h hi hz hzp hzo e0 e1 hrow hOr hvl hpg hcr hrd hk hk0 hc0'
      go_enter Try.func35, Try.ntmps35
      go_wp2_with (go_at_call 43; refine Hh.out.mono ?_; rintro e w1 ⟨rfl, rfl⟩)
      go_ret
      exact Hs.out
  obtain ⟨kn, rfl⟩ : ∃ kn : Nat, k = (kn : Int) := ⟨k.toNat, by omega⟩
  have hkn : kn < p.pages.length := by omega
  obtain ⟨l, hl⟩ : ∃ l, p.pages[kn]? = some l := ⟨_, List.getElem?_eq_getElem hkn⟩
  have hll : l.length = D.size := hok.sizes p (List.mem_of_getElem? hzp) l (List.mem_of_getElem? hl)
  have hlo := hok.low
  have hhi := hok.high
  obtain ⟨u, hu, hat⟩ := hpg kn l hl
  obtain ⟨br, rfl, hbrl, hcu⟩ := hrd kn u hu
  obtain ⟨Ap, cap, rfl, hcap, hrb, _⟩ := hat.1.rb
  have hro : rotOk D (zn : Int) (kn : Int) = true := by unfold rotOk; rw [hzo]; exact decide_eq_true ⟨hz, hk⟩
  obtain ⟨n, hn⟩ : ∃ n, n = rotBit D.size bit := ⟨_, rfl⟩
  have hnb : n < 8 * D.size := by
    rw [hn]
    unfold rotBit
    have := Int.emod_lt_of_pos (max bit 0) (show 0 < 8 * (D.size : Int) by omega)
    have := Int.emod_nonneg (max bit 0) (show 8 * (D.size : Int) ≠ 0 by omega)
    omega
  have hj : n / 8 < l.length := by omega
  have hgd : l.getD (n / 8) 0 = l[n / 8] := by simp [List.getD, hj]
  have hfl := flip_val l[n / 8] (n % 8) (Nat.mod_lt _ (by decide))
  have hdbr : d ≠ br := by intro e; have := hOr br rfl; rw [← e, h2] at this; cases this
  have hgbr : g ≠ br := by intro e; have := hOr br rfl; rw [← e, h4] at this; cases this
  have Hfin : Hid (∀ W1 v1, Below w.heap.size w W1 → Own W1 w.heap.size v1 ([] ++ l) → ∃ b1 c1, v1 = .slice (some ⟨b1, 0, none⟩) l.length c1 ∧ W1.cell? ⟨b1, n / 8, none⟩ = some (.int .u8 (l[n / 8].toNat : Int)) ∧ W1.frozen? ⟨b1, n / 8, none⟩ = false ∧
      (W1.setCell ⟨b1, n / 8, none⟩ (.int .u8 ((flipB l[n / 8] (n % 8)).toNat : Int))).cell? ⟨d, 3, none⟩ = some (.slice (some ⟨g, 0, none⟩) D.piles.length D.piles.length) ∧
      (W1.setCell ⟨b1, n / 8, none⟩ (.int .u8 ((flipB l[n / 8] (n % 8)).toNat : Int))).cell? ⟨g, zn * 2, none⟩ = some (.slice (some ⟨br, 0, none⟩) p.pages.length cr) ∧
      (W1.setCell ⟨b1, n / 8, none⟩ (.int .u8 ((flipB l[n / 8] (n % 8)).toNat : Int))).cell? ⟨br, kn, none⟩ = some (.slice Ap l.length cap) ∧ (W1.setCell ⟨b1, n / 8, none⟩ (.int .u8 ((flipB l[n / 8] (n % 8)).toNat : Int))).frozen? ⟨br, kn, none⟩ = false ∧
      RSysPost w O pw P (rotD ds i d D (zn : Int) (kn : Int) bit) (.bool true) (.returned (.bool true)) ((W1.setCell ⟨b1, n / 8, none⟩ (.int .u8 ((flipB l[n / 8] (n % 8)).toNat : Int))).setCell ⟨br, kn, none⟩ (.slice (some ⟨b1, 0, none⟩) l.length c1))) := by
    intro W1 v1 hb1 hown
    have hown2 : Own W1 w.heap.size v1 l := by simpa using hown
    obtain ⟨b1, c1, rfl, hge, _, _, hcell, hfz⟩ := hown2.form (by omega)
    have e9 : rotD ds i d D (zn : Int) (kn : Int) bit = ds.set i (d, D.rot zn kn n) := by unfold rotD; rw [hro, if_pos rfl, ← hn]; rfl
    obtain ⟨O', q1, q2⟩ := rrot_facts (n := n) h hi h1 h2 h3 h4 h5 h6 hzp e0 e1 hrow (hOr br rfl) hvl hpg hl hb1 hown2
    rw [hgd] at q1 q2
    have hblk : ∀ x, x < w.heap.size → (W1.setCell ⟨b1, n / 8, none⟩ (.int .u8 ((flipB l[n / 8] (n % 8)).toNat : Int))).heap[x]? = w.heap[x]? := fun x hx =>
      (Below.heap_setCell _ _ _ _ (fun e => by have e2 : x = b1 := e; omega)).trans (hb1.block x hx)
    have hfr : w.frozen? ⟨br, kn, none⟩ = false := by
      rcases hrow.form with ⟨q, _⟩ | ⟨g9, cp9, cur, q, _, hcur, _⟩
      · exact absurd q (by intro e; injection e with e1; cases e1)
      · have e1 : br = g9 := by injection q with q1; injection q1 with q2; injection q2
        subst e1
        exact hcur.frozen _
    exact ⟨b1, c1, rfl, hcell _ hj, hfz _, (World.cell?_of_block (w := w) (hblk d h1.lt)).trans cs1, (World.cell?_of_block (w := w) (hblk g h3.lt)).trans hc0, (World.cell?_of_block (w := w) (hblk br hbrl)).trans hcu, (World.frozen?_of_block (w := w) (hblk br hbrl)).trans hfr, by rw [e9]; exact ⟨O', rfl, q1, q2⟩⟩
  have hal1 : (w.alloc (.cells #[] 5)).cell? ⟨d, 3, none⟩ = some (.slice (some ⟨g, 0, none⟩) D.piles.length D.piles.length) := (World.cell?_alloc_lt w _ ⟨d, 3, none⟩ h1.lt).trans cs1
  have hal2 : (w.alloc (.cells #[] 5)).cell? ⟨g, zn * 2, none⟩ = some (.slice (some ⟨br, 0, none⟩) p.pages.length cr) := (World.cell?_alloc_lt w _ ⟨g, zn * 2, none⟩ h3.lt).trans hc0
  have hal3 : (w.alloc (.cells #[] 5)).cell? ⟨br, kn, none⟩ = some (.slice Ap l.length cap) := (World.cell?_alloc_lt w _ ⟨br, kn, none⟩ hbrl).trans hcu
  rw [hro]
  have hki : (kn : Int) < (p.pages.length : Int) := by omega
  have hs1 : (32 : Int) ≤ (D.size : Int) := by omega
  have hs2 : (D.size : Int) ≤ 65536 := by omega
  obtain ⟨mb, hmb⟩ : ∃ mb : Int, mb = max bit 0 := ⟨_, rfl⟩
  have hmb0 : 0 ≤ mb := by omega
  have hmb1 : mb ≤ 9223372036854775807 := by omega
  have hnz : ¬ (8 * (D.size : Int) = 0) := by omega
  have hw8 : IntKind.i64.wrap (8 * (D.size : Int)) = 8 * (D.size : Int) := IntWalk.i64_in _ (by omega)
  have htm : mb.tmod (8 * (D.size : Int)) = (n : Int) := by
    rw [Int.tmod_eq_emod_of_nonneg hmb0, hn, hmb]
    unfold rotBit
    have := Int.emod_nonneg (max bit 0) (show 8 * (D.size : Int) ≠ 0 by omega)
    omega
  have htm2 : mb % (8 * (D.size : Int)) = (n : Int) := by rw [← Int.tmod_eq_emod_of_nonneg hmb0]; exact htm
  obtain ⟨j, hjj⟩ : ∃ j, j = n / 8 := ⟨_, rfl⟩
  obtain ⟨m, hmm⟩ : ∃ m, m = n % 8 := ⟨_, rfl⟩
  have hi2 : (n : Int) / 8 = (j : Int) := by omega
  have hi3 : (n : Int) % 8 = (m : Int) := by omega
  have hm8 : m < 8 := by omega
  have hjl : (j : Int) < (l.length : Int) := by omega
  have Hlb := Lib.hid (show l.length ≤ 65536 by omega)
  have hlb' : (l.length : Int) ≤ 65536 := by omega
  have hj6 : (j : Int) ≤ 65536 := by omega
  have Hrb := Lib.hid hrb
  simp only [← hjj, ← hmm] at hfl Hfin
  generalize l[n / 8] = xb at hfl Hfin
  generalize l[j] = xb at hfl Hfin
  have Hfl := Lib.hid hfl
  have Hmb := Lib.hid hmb
  generalize D.piles.length = N at *
  generalize p.pages.length = M at *
  generalize D.size = sz at *
  clear stay h1 h2 h3 h4 h5 h6 hok h hi hz hzp hzo e0 e1 hrow hOr hvl hpg hcr hrd hk hgd hfl hl hu hat hro hj hll hkn hzn hrb hc0' hmb hn hjj hmm hcap hlo hhi hnb
  by_cases hb0 : bit < 0
  · have Hn0 : Hid ((n : Int) = 0) := by
      have e := Hmb.out
      have e2 : mb = 0 := by omega
      rw [e2] at htm2
      show _ = _
      simpa using htm2.symm
    clear htm htm2
    go_enter Try.func35, Try.ntmps35
    go_upto_region 5 with (go_at_call 43; refine Hh.out.mono ?_; rintro e w1 ⟨rfl, rfl⟩)
    go_cut [3] (fun v wx => wx = w ∧ v = .int .i64 (n : Int))
    case first =>
      go_wp2_with fail
      go_meet
      exact ⟨rfl, by rw [Hn0.out]⟩
    case rest =>
      obtain ⟨rfl, rfl⟩ := hcut
      go_upto_region 8 with (at_builtin; refine app_bytes rfl (.tmp 40) (.tmp 51) rfl wc.heap.size _ [] rfl (Own.made wc _ (Nat.le_refl _)) _ Ap l.length cap l rfl rfl (Hrb.out.alloc (Nat.le_refl _) _) (by have := Hlb.out; simp; omega) (by simp) ?_; intro v1 W1 hown hbel _; obtain ⟨b1, c1, rfl, hx, hxf, t1, t2, t3, t4, hfin⟩ := Hfin.out W1 v1 (((Below.refl _ _).alloc (Nat.le_refl _) _).trans hbel) hown; have Hfin2 := Lib.hid hfin; clear hown hbel hfin hal1 hal2 hal3)
      rw [Hfl.out]
      obtain ⟨W2, hW2⟩ : ∃ W2, W2 = W1.setCell ⟨b1, j, none⟩ (.int .u8 ((flipB xb m).toNat : Int)) := ⟨_, rfl⟩
      rw [← hW2] at t1 t2 t3 t4 Hfin2 ⊢
      clear hW2
      go_wp2_with fail
      go_ret
      exact Hfin2.out
  · have He : Hid (mb = bit) := by have := Hmb.out; show _ = _; omega
    rw [He.out] at htm htm2 hmb0 hmb1
    clear hb0
    go_enter Try.func35, Try.ntmps35
    go_upto_region 5 with (go_at_call 43; refine Hh.out.mono ?_; rintro e w1 ⟨rfl, rfl⟩)
    go_cut [3] (fun v wx => wx = w ∧ v = .int .i64 (n : Int))
    case first =>
      go_wp2_with fail
      go_meet
      exact ⟨rfl, by first | rfl | (simp only [htm]) | (simp only [htm2])⟩
    case rest =>
      obtain ⟨rfl, rfl⟩ := hcut
      go_upto_region 8 with (at_builtin; refine app_bytes rfl (.tmp 40) (.tmp 51) rfl wc.heap.size _ [] rfl (Own.made wc _ (Nat.le_refl _)) _ Ap l.length cap l rfl rfl (Hrb.out.alloc (Nat.le_refl _) _) (by have := Hlb.out; simp; omega) (by simp) ?_; intro v1 W1 hown hbel _; obtain ⟨b1, c1, rfl, hx, hxf, t1, t2, t3, t4, hfin⟩ := Hfin.out W1 v1 (((Below.refl _ _).alloc (Nat.le_refl _) _).trans hbel) hown; have Hfin2 := Lib.hid hfin; clear hown hbel hfin hal1 hal2 hal3)
      rw [Hfl.out]
      obtain ⟨W2, hW2⟩ : ∃ W2, W2 = W1.setCell ⟨b1, j, none⟩ (.int .u8 ((flipB xb m).toNat : Int)) := ⟨_, rfl⟩
      rw [← hW2] at t1 t2 t3 t4 Hfin2 ⊢
      clear hW2
      go_wp2_with fail
      go_ret
      exact Hfin2.out
end Go.Proofs.Ytdnlikhfemhmeaa
