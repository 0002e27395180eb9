/-
  The second saying's Append, walked.
-/
import Derived.Test.YtdnlikhfemhmeaaRAppend
import Derived.Deep.RegionHeld3
import Derived.BigQuiet
namespace Go.Proofs.Ytdnlikhfemhmeaa
open Go.RowKit

set_option maxRecDepth 20000 in
set_option maxHeartbeats 2000000 in
theorem rappend_any (pw i d : Nat) (P : Pow) (ds : List (Nat × Drv)) (D : Drv) (O : Nat → Option Tag) (z : Int) (A : Option Addr) (c : Nat) (l : List UInt8) (w : World) (h : RSysAt w O pw P ds) (hi : ds[i]? = some (d, D))
    (hn : ds.length ≤ 1048576) (hw : P.writes ≤ 1099511627776) (hl : P.left ≤ 9223372036854775807) (hr : RB w w.heap.size A l) (hA : l ≠ [] → ∀ ad, A = some ad → O ad.block = none) :
    Calls Try.prog 26 #[.pointer (some ⟨d, 0, none⟩), .int .i64 z, .slice A l.length c] w (RSysPost w O pw (appP P D z l) (appD P ds i d D z l) (.int .i64 (appCode P D z l : Nat))) := by
  obtain ⟨g, cs, h1, h2, h3, h4, h5, h6⟩ := (h.drv i d D hi).1
  have hok := (h.drv i d D hi).2
  obtain ⟨dv, Ap, np, cp, hp1, hp2, hp3⟩ := h.pow
  have c0 := h1.cell (i := 0) rfl
  have c1 := h1.cell (i := 1) rfl
  have c2 := h1.cell (i := 2) rfl
  have cs1 := h1.cell (i := 3) rfl
  have c4 := h1.cell (i := 4) rfl
  have cp1 := hp1.cell (i := 0) rfl
  have Hf := Lib.hid (up_any pw d P.off D.lost w c0 cp1 c4)
  have stay : ∀ q, appGo P D z l = false → RSysPost w O pw (appP P D z l) (appD P ds i d D z l) (.int .i64 (appCode P D z l : Nat)) (.returned (.int .i64 (appCode P D z l : Nat))) (w.drewN q) := by
    intro q hg
    unfold appP appD
    rw [hg]
    exact ⟨O, rfl, h.drewN q, (Ext.refl w O).drewN q⟩
  by_cases hrd : readyCode P.off D.lost = 0
  case neg =>
    have hs := stay 0 (by unfold appGo; simp [hrd])
    have hcode : appCode P D z l = readyCode P.off D.lost := by unfold appCode; rw [if_pos hrd]
    have Hs : Hid (RSysPost w O pw (appP P D z l) (appD P ds i d D z l) (.int .i64 (readyCode P.off D.lost : Nat)) (.returned (.int .i64 (readyCode P.off D.lost : Nat))) w) := by rw [← hcode]; exact hs
    rw [hcode]
    have hne : (((readyCode P.off D.lost : Nat) : Int) != 0) = true := by simp; exact hrd
    generalize readyCode P.off D.lost = r at *
    clear hcode hs stay hrd h1 h2 h3 h4 h5 h6 hok hp1 hp2 hp3 c0 c1 cs1 c2 c4 cp1 h hi
    go_enter Try.func26, Try.ntmps26
    go_wp2_with (go_at_call 42; refine Hf.out.mono ?_; rintro e w1 ⟨rfl, rfl⟩)
    go_ret
    exact Hs.out
  have hlost : D.lost = false := by unfold readyCode at hrd; revert hrd; cases P.off <;> cases D.lost <;> simp
  rw [hrd] at Hf
  have Hf2 : Hid (Calls Try.prog 42 #[.pointer (some ⟨d, 0, none⟩)] w fun e w' => e = .returned (.int .i64 0) ∧ w = w') := Hf.out
  have Hh := Lib.hid (is_any d g D.piles.length z w cs1)
  by_cases hz : 0 ≤ z ∧ z < (D.piles.length : Int)
  case neg =>
    rw [show decide (0 ≤ z ∧ z < (D.piles.length : Int)) = false from decide_eq_false hz] at Hh
    have hs := stay 0 (by unfold appGo; simp only [hz, false_and, and_false, decide_false])
    have hcode : appCode P D z l = 1 := by unfold appCode; rw [if_neg (by simp [hrd]), if_pos (.inl hz)]
    rw [hcode] at hs ⊢
    have Hs : Hid (RSysPost w O pw (appP P D z l) (appD P ds i d D z l) (.int .i64 1) (.returned (.int .i64 1)) w) := hs
    clear hcode hs stay hrd h1 h2 h3 h4 h5 h6 hok hp1 hp2 hp3 c0 c1 cs1 c2 c4 cp1 h hi hz Hf
    go_enter Try.func26, Try.ntmps26
    go_wp2_with (first | (go_at_call 42; refine Hf2.out.mono ?_; rintro e w1 ⟨rfl, rfl⟩) | (go_at_call 43; refine Hh.out.mono ?_; rintro e w1 ⟨rfl, rfl⟩))
    go_ret
    exact Hs.out
  rw [show decide (0 ≤ z ∧ z < (D.piles.length : Int)) = true from decide_eq_true hz] at Hh
  obtain ⟨zn, rfl⟩ : ∃ zn : Nat, z = (zn : Int) := ⟨z.toNat, by omega⟩
  have hzn : zn < D.piles.length := by omega
  have hzi : (zn : Int) < (D.piles.length : Int) := by omega
  by_cases hsz : l.length = D.size
  case neg =>
    have hs := stay 0 (by unfold appGo; simp [hsz])
    have hcode : appCode P D (zn : Int) l = 1 := by unfold appCode; rw [if_neg (by simp [hrd]), if_pos (.inr hsz)]
    rw [hcode] at hs ⊢
    have Hs : Hid (RSysPost w O pw (appP P D (zn : Int) l) (appD P ds i d D (zn : Int) l) (.int .i64 1) (.returned (.int .i64 1)) w) := hs
    have hne : ((l.length : Int) != (D.size : Int)) = true := by simp; omega
    generalize l.length = n at *
    clear hcode hs stay hrd h1 h2 h3 h4 h5 h6 hok hp1 hp2 hp3 c0 c1 cs1 c4 cp1 h hi hz hsz Hf
    go_enter Try.func26, Try.ntmps26
    go_wp2_with (first | (go_at_call 42; refine Hf2.out.mono ?_; rintro e w1 ⟨rfl, rfl⟩) | (go_at_call 43; refine Hh.out.mono ?_; rintro e w1 ⟨rfl, rfl⟩))
    go_ret
    exact Hs.out
  obtain ⟨p, hzp⟩ : ∃ p, D.piles[zn]? = some p := ⟨_, List.getElem?_eq_getElem hzn⟩
  have hzo : zoneOf D (zn : Int) = p := by simp [zoneOf, List.getD, hzp]
  obtain ⟨v, e0, e1, vs, hrow, hOr, hvl, hpg⟩ := h6 zn p hzp
  obtain ⟨Ar, cr, rfl, hcr, _, _⟩ := hrow.rd
  have hc0 := h3.cell e0
  rw [hvl] at hc0
  have hcap := hok.cap
  have hpp := hok.pages p (List.mem_of_getElem? hzp)
  have hsz' : (l.length : Int) ≤ 65536 := by have := hok.high; omega
  by_cases hroom : p.pages.length < D.cap
  case neg =>
    have hcode : appCode P D (zn : Int) l = 5 := by unfold appCode; rw [if_neg (by simp [hrd]), if_neg (by intro hh; rcases hh with hh | hh; exact hh hz; exact hh hsz), hzo, if_pos (by omega)]
    have Hs : Hid (∀ q, RSysPost w O pw (appP P D (zn : Int) l) (appD P ds i d D (zn : Int) l) (.int .i64 5) (.returned (.int .i64 5)) (w.drewN q)) := by
      intro q
      have hs := stay q (by unfold appGo; simp [hzo, hroom])
      rw [hcode] at hs
      exact hs
    rw [hcode]
    have hne : ((l.length : Int) != (D.size : Int)) = false := by simp; omega
    have hge : (D.cap : Int) ≤ (p.pages.length : Int) := by omega
    generalize p.pages.length = n at *
    generalize D.size = sz at *
    generalize D.piles.length = N at *
    clear hcode stay hrd h1 h2 h3 h4 h5 h6 hok hp1 hp2 hp3 c0 c4 cp1 h hi hz hsz hrow hOr hvl hpg hzp hzo Hf
    go_enter Try.func26, Try.ntmps26
    go_upto_region 6 with (first | (go_at_call 42; refine Hf2.out.mono ?_; rintro e w1 ⟨rfl, rfl⟩) | (go_at_call 43; refine Hh.out.mono ?_; rintro e w1 ⟨rfl, rfl⟩))
    go_quiet (fail)
    go_wp2_with fail
    go_ret
    exact Hs.out _
  have hgo : appGo P D (zn : Int) l = true := by unfold appGo; exact decide_eq_true ⟨hrd, hz, hsz, by rw [hzo]; exact hroom⟩
  have hcode : appCode P D (zn : Int) l = if writeOk P then 0 else 8 := by
    unfold appCode
    rw [if_neg (by simp [hrd]), if_neg (by intro hh; rcases hh with hh | hh; exact hh hz; exact hh hsz), hzo, if_neg (by omega)]
  have eP : appP P D (zn : Int) l = writeP P := by unfold appP; rw [hgo]; rfl
  have eD : appD P ds i d D (zn : Int) l = if writeOk P then ds.set i (d, D.add zn l) else writeD P ds := by unfold appD; rw [hgo]; rfl
  rw [hcode, eP, eD]
  have Hw := Lib.hid (fun q => rdwrite_any pw i d P ds D O (w.drewN q) (h.drewN q) hi hn hw hl)
  have hne : ((l.length : Int) != (D.size : Int)) = false := by simp; omega
  have hlt : (p.pages.length : Int) < (D.cap : Int) := by omega
  by_cases hok2 : writeOk P = true
  case neg =>
    have hok3 : writeOk P = false := by simpa using hok2
    rw [hok3] at Hw ⊢
    have Hw2 : Hid (∀ q, Calls Try.prog 51 #[.pointer (some ⟨d, 0, none⟩)] (w.drewN q) fun e w' => e = .returned (.int .i64 8) ∧ RWritePost (w.drewN q) O pw P ds w') := Hw.out
    have Hs : Hid (∀ q w', RWritePost (w.drewN q) O pw P ds w' → RSysPost w O pw (writeP P) (writeD P ds) (.int .i64 8) (.returned (.int .i64 8)) w') := fun q w' ⟨O2, q1, q2, _⟩ => ⟨O2, rfl, q1, q2.of_drewN⟩
    have Hg : Hid (RSysPost w O pw (writeP P) (if false = true then ds.set i (d, D.add zn l) else writeD P ds) (.int .i64 ((if false = true then 0 else 8 : Nat) : Int)) = RSysPost w O pw (writeP P) (writeD P ds) (.int .i64 8)) := rfl
    rw [Hg.out]
    clear Hg
    generalize p.pages.length = n at *
    generalize D.size = sz at *
    generalize D.piles.length = N at *
    clear hcode stay hrd h1 h2 h3 h4 h5 h6 hok hp1 hp2 hp3 cp1 h hi hz hsz hrow hOr hvl hpg hzp hzo hgo eP eD hok2 hok3 hpp hcap hroom Hf Hw
    go_enter Try.func26, Try.ntmps26
    go_upto_region 6 with (first | (go_at_call 42; refine Hf2.out.mono ?_; rintro e w1 ⟨rfl, rfl⟩) | (go_at_call 43; refine Hh.out.mono ?_; rintro e w1 ⟨rfl, rfl⟩))
    go_quiet (fail)
    go_wp2_with (go_at_call 51; refine (Hw2.out _).mono ?_; rintro e w2 ⟨rfl, hpost⟩; have Hs2 := Lib.hid (Hs.out _ w2 hpost); clear hpost)
    go_ret
    exact Hs2.out
  have Hok2 := Lib.hid hok2
  rw [hok2] at Hw ⊢
  rw [writeD_ok hok2]
  have Hw2 : Hid (∀ q, Calls Try.prog 51 #[.pointer (some ⟨d, 0, none⟩)] (w.drewN q) fun e w' => e = .returned (.int .i64 0) ∧ RWritePost (w.drewN q) O pw P ds w') := Hw.out
  have Hg : Hid (RSysPost w O pw (writeP P) (if true = true then ds.set i (d, D.add zn l) else ds) (.int .i64 ((if true = true then 0 else 8 : Nat) : Int)) = RSysPost w O pw (writeP P) (ds.set i (d, D.add zn l)) (.int .i64 0)) := rfl
  rw [Hg.out]
  have Hst : Hid (∀ q w2, RWritePost (w.drewN q) O pw P ds w2 → w2.cell? ⟨d, 3, none⟩ = some (.slice (some ⟨g, 0, none⟩) D.piles.length D.piles.length) ∧ w2.cell? ⟨g, zn * 2, none⟩ = some (.slice Ar p.pages.length cr) ∧ RB w2 w2.heap.size A l ∧ g < w2.heap.size ∧ d < w2.heap.size ∧
      OwnV w2 0 46 (.slice Ar p.pages.length cr) vs ∧ ∀ W1 W9 u v9 ob, Below w2.drew.heap.size w2.drew W1 → Own W1 w2.drew.heap.size u l → OwnV W9 0 46 v9 (vs ++ [u]) → (W1.alloc ob).grownBy W9 (Value.slice Ar p.pages.length cr).ownBlock → (v9.ownBlock = (Value.slice Ar p.pages.length cr).ownBlock ∨ v9.ownBlock = some (W1.alloc ob).heap.size) →
        (∃ g9 cap9, v9 = .slice (some ⟨g9, 0, none⟩) (vs.length + 1) cap9) ∧ W9.cell? ⟨g, zn * 2, none⟩ = some (.slice Ar p.pages.length cr) ∧ W9.frozen? ⟨g, zn * 2, none⟩ = false ∧ W9.cell? ⟨d, 3, none⟩ = some (.slice (some ⟨g, 0, none⟩) D.piles.length D.piles.length) ∧
          (W9.setCell ⟨g, zn * 2, none⟩ v9).cell? ⟨d, 3, none⟩ = some (.slice (some ⟨g, 0, none⟩) D.piles.length D.piles.length) ∧ RSysPost w O pw (writeP P) (ds.set i (d, D.add zn l)) (.int .i64 0) (.returned (.int .i64 0)) (W9.setCell ⟨g, zn * 2, none⟩ v9)) := by
    rintro q w2 ⟨O2, q1, q2, q3⟩
    obtain ⟨rfl, k3'⟩ := q3 Hok2.out
    rw [writeD_ok Hok2.out] at q1
    have k3 : Kept (fun b => b ≠ pw) w w2 := ⟨k3'.os, k3'.tape, k3'.output, k3'.size, k3'.block⟩
    have ht : ∀ b t, O2 b = some t → t ≠ .pw → b ≠ pw := fun b t hb n e => n (by rw [e, hp2] at hb; cases hb; rfl)
    have hag : Agree (fun t => t ≠ .pw) w O2 w2 O2 := fun b t hlt hb ht2 => ⟨k3.block b hlt (ht b t hb ht2), hb⟩
    have r1 := h1.move (k3.block d h1.lt (ht d _ h2 (by intro e; cases e)))
    have r3 := h3.move (k3.block g h3.lt (ht g _ h4 (by intro e; cases e)))
    have r6 : ∀ (z : Nat) p, D.piles[z]? = some p → PileAt w2 O2 i z cs p := fun z' p' hz' => (h6 z' p' hz').keep hag (by intro e; cases e) (fun k => by intro e; cases e)
    have rr : RB w2 w2.heap.size A l := (hr.kept q2.of_drewN.1 hA (Nat.le_refl _)).wide k3.size
    have rrow : OwnV w2 0 46 (.slice Ar vs.length cr) vs := hrow.move fun gg hg => k3.block gg (hrow.ge gg hg).2 (ht gg _ (hOr gg hg) (by intro e; cases e))
    have rpg : ∀ (k : Nat) l, p.pages[k]? = some l → ∃ u, vs[k]? = some u ∧ PageAt w2 O2 (.page i zn k) u l := fun k l hl => by
      obtain ⟨u, hu, hat⟩ := hpg k l hl
      exact ⟨u, hu, hat.keep hag (by intro e; cases e)⟩
    rw [hvl] at rrow
    refine ⟨r1.cell rfl, by rw [← hvl]; exact r3.cell e0, rr, r3.lt, r1.lt, rrow, fun W1 W9 u v9 ob hb1 hu hown9 hg9 hb9 => ?_⟩
    have hgv : (Value.slice Ar p.pages.length cr).ownBlock ≠ some g := fun e => by have := hOr g (by rw [hvl]; exact e); rw [h4] at this; cases this
    obtain ⟨a1, a2, a3, a4⟩ := add_facts r3.lt (by rw [← hvl]; exact r3.cell e0) (r3.frozen _) hgv rrow hb1 hu hown9 hg9 hb9
    have hdv : (Value.slice Ar p.pages.length cr).ownBlock ≠ some d := fun e => by have := hOr d (by rw [hvl]; exact e); rw [h2] at this; cases this
    have hdg : d ≠ g := by intro e; rw [e, h4] at h2; cases h2
    have hb1s : w2.heap.size ≤ W1.heap.size := hb1.size
    have bd : W9.heap[d]? = w2.heap[d]? := by
      rw [hg9.block d (by have := r1.lt; simp; omega) (fun e => hdv e.symm), Below.heap_alloc W1 ob d (by have := r1.lt; omega)]
      exact hb1.block d r1.lt
    obtain ⟨_, O', s1, s2⟩ := q1.add hi r1 h2 r3 h4 h5 r6 hzp e0 e1 (by rw [hvl]; exact rrow) hOr hvl rpg (by rw [hvl]; exact a4) hsz hroom hlost
    exact ⟨a1, a2, a3, (World.cell?_of_block (w := w2) bd).trans (r1.cell rfl), (World.cell?_of_block (w := w2) ((Below.heap_setCell W9 ⟨g, zn * 2, none⟩ v9 d hdg).trans bd)).trans (r1.cell rfl), O', rfl, s1, q2.of_drewN.trans s2⟩
  have Hvl : Hid (vs.length ≤ 4096) := by show _ ≤ _; omega
  have Hll : Hid (l.length ≤ 65536) := by show _ ≤ _; omega
  generalize ds.set i (d, D.add zn l) = ds2 at *
  generalize p.pages.length = n at *
  generalize D.size = sz at *
  generalize D.piles.length = N at *
  clear Hg hcode stay hrd h1 h2 h3 h4 h5 h6 hok hp1 hp2 hp3 cp1 h hi hz hsz hrow hOr hpg hzp hzo hgo eP eD hok2 hpp hcap hroom Hf Hw hvl
  go_enter Try.func26, Try.ntmps26
  go_upto_region 6 with (first | (go_at_call 42; refine Hf2.out.mono ?_; rintro e w1 ⟨rfl, rfl⟩) | (go_at_call 43; refine Hh.out.mono ?_; rintro e w1 ⟨rfl, rfl⟩))
  go_quiet (fail)
  go_wp2_with (go_at_call 51; refine (Hw2.out _).mono ?_; rintro e w2 ⟨rfl, hpost⟩; obtain ⟨hd3, hr0, hrb, hgl, hdl, hrow2, hfin⟩ := Hst.out _ w2 hpost; have Hfin := Lib.hid hfin; have Hrb := Lib.hid hrb; have Hgl := Lib.hid hgl; have Hdl := Lib.hid hdl; have Hrow2 := Lib.hid hrow2; clear hpost hfin hrb hgl hdl hrow2)
  have hal0 : (w2.drew.alloc (.cells #[] 5)).cell? ⟨g, zn * 2, none⟩ = some (.slice Ar n cr) := (World.cell?_alloc_lt w2.drew _ ⟨g, zn * 2, none⟩ Hgl.out).trans hr0
  have hal1 : (w2.alloc (.cells #[] 5)).cell? ⟨g, zn * 2, none⟩ = some (.slice Ar n cr) := (World.cell?_alloc_lt w2 _ ⟨g, zn * 2, none⟩ Hgl.out).trans hr0
  have hald : (w2.drew.alloc (.cells #[] 5)).cell? ⟨d, 3, none⟩ = some (.slice (some ⟨g, 0, none⟩) N N) := (World.cell?_alloc_lt w2.drew _ ⟨d, 3, none⟩ Hdl.out).trans hd3
  have Hd3 := Lib.hid hd3
  have Hr0 := Lib.hid hr0
  refine wp_region_noPanic ?_
  refine wp_region_held_drew (S := (fun W => W.cell? ⟨d, 3, none⟩ = some (.slice (some ⟨g, 0, none⟩) N N))) (by kernel_rfl) ?_ (fun hHeld => ?_)
  · try dsimp only
    (first | exact Hd3.out | exact hald | exact hS1 | exact hS2 | exact hS9 | exact hS10)
  refine wpAnyH_take (i := 0) (v := ?_) rfl (by kernel_rfl) (by kernel_rfl) (by kernel_rfl) (fun _ _ _ h => h) (Or.inl ⟨by rfl, ?_⟩) (by assumption) ?_
  rotate_left
  · intro w hSw
    try dsimp only at hSw
    simp only [List.getElem_toArray, List.getElem_cons_succ, List.getElem_cons_zero]
    go_simp
    try with_reducible rfl
  simp only [List.getElem_toArray, List.getElem_cons_succ, List.getElem_cons_zero]
  try simp only [Act.put, List.setIfInBounds_toArray, List.set_cons_zero, List.set_cons_succ]
  refine wpAnyH_take (i := 1) (v := ?_) rfl (by kernel_rfl) (by kernel_rfl) (by kernel_rfl) (fun _ _ _ h => h) (Or.inl ⟨by rfl, ?_⟩) (by assumption) ?_
  rotate_left
  · intro w hSw
    try dsimp only at hSw
    simp only [List.getElem_toArray, List.getElem_cons_succ, List.getElem_cons_zero]
    go_simp
    try with_reducible rfl
  simp only [List.getElem_toArray, List.getElem_cons_succ, List.getElem_cons_zero]
  try simp only [Act.put, List.setIfInBounds_toArray, List.set_cons_zero, List.set_cons_succ]
  refine wpAnyH_take (i := 2) (v := ?_) rfl (by kernel_rfl) (by kernel_rfl) (by kernel_rfl) (fun _ _ _ h => h) (Or.inl ⟨by rfl, ?_⟩) (by assumption) ?_
  rotate_left
  · intro w hSw
    try dsimp only at hSw
    simp only [List.getElem_toArray, List.getElem_cons_succ, List.getElem_cons_zero]
    go_simp
    try with_reducible rfl
  simp only [List.getElem_toArray, List.getElem_cons_succ, List.getElem_cons_zero]
  try simp only [Act.put, List.setIfInBounds_toArray, List.set_cons_zero, List.set_cons_succ]
  refine wpAnyH_take (i := 3) (v := ?_) rfl (by kernel_rfl) (by kernel_rfl) (by kernel_rfl) (fun _ _ _ h => h) (Or.inl ⟨by rfl, ?_⟩) (by assumption) ?_
  rotate_left
  · intro w hSw
    try dsimp only at hSw
    simp only [List.getElem_toArray, List.getElem_cons_succ, List.getElem_cons_zero]
    go_simp
    try with_reducible rfl
  simp only [List.getElem_toArray, List.getElem_cons_succ, List.getElem_cons_zero]
  try simp only [Act.put, List.setIfInBounds_toArray, List.set_cons_zero, List.set_cons_succ]
  refine wpAnyH_take (i := 4) (v := ?_) rfl (by kernel_rfl) (by kernel_rfl) (by kernel_rfl) (fun _ _ _ h => h) (Or.inl ⟨by rfl, ?_⟩) (by assumption) ?_
  rotate_left
  · intro w hSw
    try dsimp only at hSw
    simp only [List.getElem_toArray, List.getElem_cons_succ, List.getElem_cons_zero]
    go_simp
    try with_reducible rfl
  simp only [List.getElem_toArray, List.getElem_cons_succ, List.getElem_cons_zero]
  try simp only [Act.put, List.setIfInBounds_toArray, List.set_cons_zero, List.set_cons_succ]
  refine wpAnyH_take (i := 5) (v := ?_) rfl (by kernel_rfl) (by kernel_rfl) (by kernel_rfl) (fun _ _ _ h => h) (Or.inl ⟨by rfl, ?_⟩) (by assumption) ?_
  rotate_left
  · intro w hSw
    try dsimp only at hSw
    simp only [List.getElem_toArray, List.getElem_cons_succ, List.getElem_cons_zero]
    go_simp
    try with_reducible rfl
  simp only [List.getElem_toArray, List.getElem_cons_succ, List.getElem_cons_zero]
  try simp only [Act.put, List.setIfInBounds_toArray, List.set_cons_zero, List.set_cons_succ]
  refine wpAnyH_take (i := 6) (v := ?_) rfl (by kernel_rfl) (by kernel_rfl) (by kernel_rfl) (fun _ _ _ h => h) (Or.inl ⟨by rfl, ?_⟩) (by assumption) ?_
  rotate_left
  · intro w hSw
    try dsimp only at hSw
    simp only [List.getElem_toArray, List.getElem_cons_succ, List.getElem_cons_zero]
    go_simp
    try with_reducible rfl
  simp only [List.getElem_toArray, List.getElem_cons_succ, List.getElem_cons_zero]
  try simp only [Act.put, List.setIfInBounds_toArray, List.set_cons_zero, List.set_cons_succ]
  refine wpAnyH_take (i := 7) (v := ?_) rfl (by kernel_rfl) (by kernel_rfl) (by kernel_rfl) (fun _ _ _ h => h) (Or.inl ⟨by rfl, ?_⟩) (by assumption) ?_
  rotate_left
  · intro w hSw
    try dsimp only at hSw
    simp only [List.getElem_toArray, List.getElem_cons_succ, List.getElem_cons_zero]
    go_simp
    try with_reducible rfl
  simp only [List.getElem_toArray, List.getElem_cons_succ, List.getElem_cons_zero]
  try simp only [Act.put, List.setIfInBounds_toArray, List.set_cons_zero, List.set_cons_succ]
  refine wpAnyH_take (i := 8) (v := ?_) rfl (by kernel_rfl) (by kernel_rfl) (by kernel_rfl) (fun _ _ _ h => h) (Or.inl ⟨by rfl, ?_⟩) (by assumption) ?_
  rotate_left
  · intro w hSw
    try dsimp only at hSw
    simp only [List.getElem_toArray, List.getElem_cons_succ, List.getElem_cons_zero]
    go_simp
    try with_reducible rfl
  simp only [List.getElem_toArray, List.getElem_cons_succ, List.getElem_cons_zero]
  try simp only [Act.put, List.setIfInBounds_toArray, List.set_cons_zero, List.set_cons_succ]
  refine wpAnyH_take (i := 9) (v := ?_) rfl (by kernel_rfl) (by kernel_rfl) (by kernel_rfl) (fun _ _ _ h => h) (Or.inl ⟨by rfl, ?_⟩) (by assumption) ?_
  rotate_left
  · intro w hSw
    try dsimp only at hSw
    simp only [List.getElem_toArray, List.getElem_cons_succ, List.getElem_cons_zero]
    go_simp
    try with_reducible rfl
  simp only [List.getElem_toArray, List.getElem_cons_succ, List.getElem_cons_zero]
  try simp only [Act.put, List.setIfInBounds_toArray, List.set_cons_zero, List.set_cons_succ]
  refine wpAnyH_take (i := 10) (v := ?_) rfl (by kernel_rfl) (by kernel_rfl) (by kernel_rfl) (fun _ _ _ h => h) (Or.inl ⟨by rfl, ?_⟩) (by assumption) ?_
  rotate_left
  · intro w hSw
    try dsimp only at hSw
    simp only [List.getElem_toArray, List.getElem_cons_succ, List.getElem_cons_zero]
    go_simp
    try with_reducible rfl
  simp only [List.getElem_toArray, List.getElem_cons_succ, List.getElem_cons_zero]
  try simp only [Act.put, List.setIfInBounds_toArray, List.set_cons_zero, List.set_cons_succ]
  refine wpAnyH_take (i := 11) (v := ?_) rfl (by kernel_rfl) (by kernel_rfl) (by kernel_rfl) (fun _ _ _ h => h) (Or.inl ⟨by rfl, ?_⟩) (by assumption) ?_
  rotate_left
  · intro w hSw
    try dsimp only at hSw
    simp only [List.getElem_toArray, List.getElem_cons_succ, List.getElem_cons_zero]
    go_simp
    try with_reducible rfl
  simp only [List.getElem_toArray, List.getElem_cons_succ, List.getElem_cons_zero]
  try simp only [Act.put, List.setIfInBounds_toArray, List.set_cons_zero, List.set_cons_succ]
  refine wpAnyH_take (i := 14) (v := ?_) rfl (by kernel_rfl) (by kernel_rfl) (by kernel_rfl) (fun _ _ _ h => h) (Or.inl ⟨by rfl, ?_⟩) (by assumption) ?_
  rotate_left
  · intro w hSw
    try dsimp only at hSw
    simp only [List.getElem_toArray, List.getElem_cons_succ, List.getElem_cons_zero]
    go_simp
    try with_reducible rfl
  simp only [List.getElem_toArray, List.getElem_cons_succ, List.getElem_cons_zero]
  try simp only [Act.put, List.setIfInBounds_toArray, List.set_cons_zero, List.set_cons_succ]
  refine wpAnyH_ready (rs := [12, 13]) (by kernel_rfl) (by simp) ?_
  refine AllReadyH.cons rfl (fun K hK => ?_) ?_
  · skip
    simp only [List.getElem_toArray, List.getElem_cons_succ, List.getElem_cons_zero]
    go_simp
    refine hK.out _ _ ?_ (fun hHeld => ?_)
    · try dsimp only
      (first | exact Hd3.out | exact hald | exact hS1 | exact hS2 | exact hS9 | exact hS10)
    clear hK K
    try simp only [List.getElem_toArray, List.getElem_cons_succ, List.getElem_cons_zero]
    try simp only [Act.put, List.setIfInBounds_toArray, List.set_cons_zero, List.set_cons_succ]
    refine wpAnyH_ready (rs := [13]) (by kernel_rfl) (by simp) ?_
    refine AllReadyH.cons rfl (fun K hK => ?_) ?_
    · skip
      simp only [List.getElem_toArray, List.getElem_cons_succ, List.getElem_cons_zero]
      go_simp
      refine hK.out _ _ ?_ (fun hHeld => ?_)
      · try dsimp only
        (first | exact Hd3.out | exact hald | exact hS1 | exact hS2 | exact hS9 | exact hS10)
      clear hK K
      try simp only [List.getElem_toArray, List.getElem_cons_succ, List.getElem_cons_zero]
      try simp only [Act.put, List.setIfInBounds_toArray, List.set_cons_zero, List.set_cons_succ]
      refine wpAnyH_ready (rs := [15]) (by kernel_rfl) (by simp) ?_
      refine AllReadyH.cons rfl (fun K hK => ?_) ?_
      · skip
        (skip; (refine step_app_bytes (by rfl) (.tmp 57) (.tmp 58) (by rfl) w2.heap.size (.slice (some ⟨w2.heap.size, 0, none⟩) 0 0) [] (by rfl) (Own.made w2.drew _ (Nat.le_refl _)) w2.heap.size A l.length c l (by rfl) rfl (RB.alloc (w := w2.drew) Hrb.out (Nat.le_refl _) _) (by have := Hll.out; simp; omega) (by simp [World.drew]) ?_); intro v1 W1 hown1 hbel1 _;
                 have hb1 : Below w2.drew.heap.size w2.drew W1 := ((Below.refl _ w2.drew).alloc (Nat.le_refl _) _).trans hbel1;
                 have hu1 : Own W1 w2.drew.heap.size v1 l := (by simpa using hown1);
                 have hS1 : W1.cell? ⟨d, 3, none⟩ = some (.slice (some ⟨g, 0, none⟩) N N) := (hb1.cell (p := ⟨d, 3, none⟩) Hdl.out).trans Hd3.out;
                 have hr1 : W1.cell? ⟨g, zn * 2, none⟩ = some (.slice Ar n cr) := (hb1.cell (p := ⟨g, zn * 2, none⟩) Hgl.out).trans Hr0.out;
                 obtain ⟨Au, cu, rfl, _, _, _⟩ := hu1.rb;
                 have hS2 : (W1.alloc (.cells #[.slice Au l.length cu] 46)).cell? ⟨d, 3, none⟩ = some (.slice (some ⟨g, 0, none⟩) N N) := (World.cell?_alloc_lt W1 _ ⟨d, 3, none⟩ (Nat.lt_of_lt_of_le Hdl.out hb1.size)).trans hS1;
                 have hr2 : (W1.alloc (.cells #[.slice Au l.length cu] 46)).cell? ⟨g, zn * 2, none⟩ = some (.slice Ar n cr) := (World.cell?_alloc_lt W1 _ ⟨g, zn * 2, none⟩ (Nat.lt_of_lt_of_le Hgl.out hb1.size)).trans hr1;
                 have Hrow1 : Hid (OwnV W1 0 46 (.slice Ar n cr) vs) := Hrow2.out.move (fun gg hgg => hb1.block gg (Hrow2.out.ge gg hgg).2);
                 have Hb1 := Lib.hid hb1; have Hu1 := Lib.hid hu1; clear hown1 hbel1 hb1 hu1)
        refine hK.out _ _ ?_ (fun hHeld => ?_)
        · try dsimp only
          (first | exact Hd3.out | exact hald | exact hS1 | exact hS2 | exact hS9 | exact hS10)
        clear hK K
        try simp only [List.getElem_toArray, List.getElem_cons_succ, List.getElem_cons_zero]
        try simp only [Act.put, List.setIfInBounds_toArray, List.set_cons_zero, List.set_cons_succ]
        refine wpAnyH_ready (rs := [16]) (by kernel_rfl) (by simp) ?_
        refine AllReadyH.cons rfl (fun K hK => ?_) ?_
        · skip
          simp only [List.getElem_toArray, List.getElem_cons_succ, List.getElem_cons_zero]
          go_simp
          refine hK.out _ _ ?_ (fun hHeld => ?_)
          · try dsimp only
            (first | exact Hd3.out | exact hald | exact hS1 | exact hS2 | exact hS9 | exact hS10)
          clear hK K
          try simp only [List.getElem_toArray, List.getElem_cons_succ, List.getElem_cons_zero]
          try simp only [Act.put, List.setIfInBounds_toArray, List.set_cons_zero, List.set_cons_succ]
          refine wpAnyH_ready (rs := [17]) (by kernel_rfl) (by simp) ?_
          refine AllReadyH.cons rfl (fun K hK => ?_) ?_
          · skip
            (skip; (refine step_app_one (by rfl) (.tmp 56) (.tmp 60) 89 46 (by rfl) Try.underlying89 (.slice none 0 0) 24 info_bytes rfl 0 (.slice Ar n cr) vs (by rfl) (Hrow1.out.alloc _) ⟨W1.heap.size, 0, none⟩ 1 (.slice Au l.length cu) (by rfl) (cell_new _ _ _) rfl (by have := Hvl.out; omega) (by have := Hvl.out; omega) (Nat.zero_le _) ?_); intro v9 W9 hown9 hg9 hb9;
                     obtain ⟨⟨g9, cap9, rfl⟩, hc9, hf9, hS9, hS10, hfin9⟩ := Hfin.out W1 W9 _ v9 _ Hb1.out Hu1.out hown9 hg9 hb9; have Hfin9 := Lib.hid hfin9; clear hown9 hg9 hb9 hfin9)
            refine hK.out _ _ ?_ (fun hHeld => ?_)
            · try dsimp only
              (first | exact Hd3.out | exact hald | exact hS1 | exact hS2 | exact hS9 | exact hS10)
            clear hK K
            try simp only [List.getElem_toArray, List.getElem_cons_succ, List.getElem_cons_zero]
            try simp only [Act.put, List.setIfInBounds_toArray, List.set_cons_zero, List.set_cons_succ]
            refine wpAnyH_take (i := 18) (v := ?_) rfl (by kernel_rfl) (by kernel_rfl) (by kernel_rfl) (fun _ _ _ h => h) (Or.inl ⟨by rfl, ?_⟩) (by assumption) ?_
            rotate_left
            · intro w hSw
              try dsimp only at hSw
              simp only [List.getElem_toArray, List.getElem_cons_succ, List.getElem_cons_zero]
              go_simp
              try with_reducible rfl
            simp only [List.getElem_toArray, List.getElem_cons_succ, List.getElem_cons_zero]
            try simp only [Act.put, List.setIfInBounds_toArray, List.set_cons_zero, List.set_cons_succ]
            refine wpAnyH_take (i := 19) (v := ?_) rfl (by kernel_rfl) (by kernel_rfl) (by kernel_rfl) (fun _ _ _ h => h) (Or.inl ⟨by rfl, ?_⟩) (by assumption) ?_
            rotate_left
            · intro w hSw
              try dsimp only at hSw
              simp only [List.getElem_toArray, List.getElem_cons_succ, List.getElem_cons_zero]
              go_simp
              try with_reducible rfl
            simp only [List.getElem_toArray, List.getElem_cons_succ, List.getElem_cons_zero]
            try simp only [Act.put, List.setIfInBounds_toArray, List.set_cons_zero, List.set_cons_succ]
            refine wpAnyH_ready (rs := [20]) (by kernel_rfl) (by simp) ?_
            refine AllReadyH.cons rfl (fun K hK => ?_) ?_
            · skip
              simp only [List.getElem_toArray, List.getElem_cons_succ, List.getElem_cons_zero]
              go_simp
              refine hK.out _ _ ?_ (fun hHeld => ?_)
              · try dsimp only
                (first | exact Hd3.out | exact hald | exact hS1 | exact hS2 | exact hS9 | exact hS10)
              clear hK K
              try simp only [List.getElem_toArray, List.getElem_cons_succ, List.getElem_cons_zero]
              try simp only [Act.put, List.setIfInBounds_toArray, List.set_cons_zero, List.set_cons_succ]
              refine wpAnyH_done (by kernel_rfl) ?_ _
              refine NoPanic.normal ?_
              go_wp2_with fail
              go_ret
              exact Hfin9.out
            exact AllReadyH.nil
          exact AllReadyH.nil
        exact AllReadyH.nil
      exact AllReadyH.nil
    exact AllReadyH.nil
  refine AllReadyH.cons rfl (fun K hK => ?_) ?_
  · skip
    simp only [List.getElem_toArray, List.getElem_cons_succ, List.getElem_cons_zero]
    go_simp
    refine hK.out _ _ ?_ (fun hHeld => ?_)
    · try dsimp only
      (first | exact Hd3.out | exact hald | exact hS1 | exact hS2 | exact hS9 | exact hS10)
    clear hK K
    try simp only [List.getElem_toArray, List.getElem_cons_succ, List.getElem_cons_zero]
    try simp only [Act.put, List.setIfInBounds_toArray, List.set_cons_zero, List.set_cons_succ]
    refine wpAnyH_ready (rs := [12, 15]) (by kernel_rfl) (by simp) ?_
    refine AllReadyH.cons rfl (fun K hK => ?_) ?_
    · skip
      simp only [List.getElem_toArray, List.getElem_cons_succ, List.getElem_cons_zero]
      go_simp
      refine hK.out _ _ ?_ (fun hHeld => ?_)
      · try dsimp only
        (first | exact Hd3.out | exact hald | exact hS1 | exact hS2 | exact hS9 | exact hS10)
      clear hK K
      try simp only [List.getElem_toArray, List.getElem_cons_succ, List.getElem_cons_zero]
      try simp only [Act.put, List.setIfInBounds_toArray, List.set_cons_zero, List.set_cons_succ]
      refine wpAnyH_ready (rs := [15]) (by kernel_rfl) (by simp) ?_
      refine AllReadyH.cons rfl (fun K hK => ?_) ?_
      · skip
        (skip; (refine step_app_bytes (by rfl) (.tmp 57) (.tmp 58) (by rfl) w2.heap.size (.slice (some ⟨w2.heap.size, 0, none⟩) 0 0) [] (by rfl) (Own.made w2.drew _ (Nat.le_refl _)) w2.heap.size A l.length c l (by rfl) rfl (RB.alloc (w := w2.drew) Hrb.out (Nat.le_refl _) _) (by have := Hll.out; simp; omega) (by simp [World.drew]) ?_); intro v1 W1 hown1 hbel1 _;
                 have hb1 : Below w2.drew.heap.size w2.drew W1 := ((Below.refl _ w2.drew).alloc (Nat.le_refl _) _).trans hbel1;
                 have hu1 : Own W1 w2.drew.heap.size v1 l := (by simpa using hown1);
                 have hS1 : W1.cell? ⟨d, 3, none⟩ = some (.slice (some ⟨g, 0, none⟩) N N) := (hb1.cell (p := ⟨d, 3, none⟩) Hdl.out).trans Hd3.out;
                 have hr1 : W1.cell? ⟨g, zn * 2, none⟩ = some (.slice Ar n cr) := (hb1.cell (p := ⟨g, zn * 2, none⟩) Hgl.out).trans Hr0.out;
                 obtain ⟨Au, cu, rfl, _, _, _⟩ := hu1.rb;
                 have hS2 : (W1.alloc (.cells #[.slice Au l.length cu] 46)).cell? ⟨d, 3, none⟩ = some (.slice (some ⟨g, 0, none⟩) N N) := (World.cell?_alloc_lt W1 _ ⟨d, 3, none⟩ (Nat.lt_of_lt_of_le Hdl.out hb1.size)).trans hS1;
                 have hr2 : (W1.alloc (.cells #[.slice Au l.length cu] 46)).cell? ⟨g, zn * 2, none⟩ = some (.slice Ar n cr) := (World.cell?_alloc_lt W1 _ ⟨g, zn * 2, none⟩ (Nat.lt_of_lt_of_le Hgl.out hb1.size)).trans hr1;
                 have Hrow1 : Hid (OwnV W1 0 46 (.slice Ar n cr) vs) := Hrow2.out.move (fun gg hgg => hb1.block gg (Hrow2.out.ge gg hgg).2);
                 have Hb1 := Lib.hid hb1; have Hu1 := Lib.hid hu1; clear hown1 hbel1 hb1 hu1)
        refine hK.out _ _ ?_ (fun hHeld => ?_)
        · try dsimp only
          (first | exact Hd3.out | exact hald | exact hS1 | exact hS2 | exact hS9 | exact hS10)
        clear hK K
        try simp only [List.getElem_toArray, List.getElem_cons_succ, List.getElem_cons_zero]
        try simp only [Act.put, List.setIfInBounds_toArray, List.set_cons_zero, List.set_cons_succ]
        refine wpAnyH_ready (rs := [16]) (by kernel_rfl) (by simp) ?_
        refine AllReadyH.cons rfl (fun K hK => ?_) ?_
        · skip
          simp only [List.getElem_toArray, List.getElem_cons_succ, List.getElem_cons_zero]
          go_simp
          refine hK.out _ _ ?_ (fun hHeld => ?_)
          · try dsimp only
            (first | exact Hd3.out | exact hald | exact hS1 | exact hS2 | exact hS9 | exact hS10)
          clear hK K
          try simp only [List.getElem_toArray, List.getElem_cons_succ, List.getElem_cons_zero]
          try simp only [Act.put, List.setIfInBounds_toArray, List.set_cons_zero, List.set_cons_succ]
          refine wpAnyH_ready (rs := [17]) (by kernel_rfl) (by simp) ?_
          refine AllReadyH.cons rfl (fun K hK => ?_) ?_
          · skip
            (skip; (refine step_app_one (by rfl) (.tmp 56) (.tmp 60) 89 46 (by rfl) Try.underlying89 (.slice none 0 0) 24 info_bytes rfl 0 (.slice Ar n cr) vs (by rfl) (Hrow1.out.alloc _) ⟨W1.heap.size, 0, none⟩ 1 (.slice Au l.length cu) (by rfl) (cell_new _ _ _) rfl (by have := Hvl.out; omega) (by have := Hvl.out; omega) (Nat.zero_le _) ?_); intro v9 W9 hown9 hg9 hb9;
                     obtain ⟨⟨g9, cap9, rfl⟩, hc9, hf9, hS9, hS10, hfin9⟩ := Hfin.out W1 W9 _ v9 _ Hb1.out Hu1.out hown9 hg9 hb9; have Hfin9 := Lib.hid hfin9; clear hown9 hg9 hb9 hfin9)
            refine hK.out _ _ ?_ (fun hHeld => ?_)
            · try dsimp only
              (first | exact Hd3.out | exact hald | exact hS1 | exact hS2 | exact hS9 | exact hS10)
            clear hK K
            try simp only [List.getElem_toArray, List.getElem_cons_succ, List.getElem_cons_zero]
            try simp only [Act.put, List.setIfInBounds_toArray, List.set_cons_zero, List.set_cons_succ]
            refine wpAnyH_take (i := 18) (v := ?_) rfl (by kernel_rfl) (by kernel_rfl) (by kernel_rfl) (fun _ _ _ h => h) (Or.inl ⟨by rfl, ?_⟩) (by assumption) ?_
            rotate_left
            · intro w hSw
              try dsimp only at hSw
              simp only [List.getElem_toArray, List.getElem_cons_succ, List.getElem_cons_zero]
              go_simp
              try with_reducible rfl
            simp only [List.getElem_toArray, List.getElem_cons_succ, List.getElem_cons_zero]
            try simp only [Act.put, List.setIfInBounds_toArray, List.set_cons_zero, List.set_cons_succ]
            refine wpAnyH_take (i := 19) (v := ?_) rfl (by kernel_rfl) (by kernel_rfl) (by kernel_rfl) (fun _ _ _ h => h) (Or.inl ⟨by rfl, ?_⟩) (by assumption) ?_
            rotate_left
            · intro w hSw
              try dsimp only at hSw
              simp only [List.getElem_toArray, List.getElem_cons_succ, List.getElem_cons_zero]
              go_simp
              try with_reducible rfl
            simp only [List.getElem_toArray, List.getElem_cons_succ, List.getElem_cons_zero]
            try simp only [Act.put, List.setIfInBounds_toArray, List.set_cons_zero, List.set_cons_succ]
            refine wpAnyH_ready (rs := [20]) (by kernel_rfl) (by simp) ?_
            refine AllReadyH.cons rfl (fun K hK => ?_) ?_
            · skip
              simp only [List.getElem_toArray, List.getElem_cons_succ, List.getElem_cons_zero]
              go_simp
              refine hK.out _ _ ?_ (fun hHeld => ?_)
              · try dsimp only
                (first | exact Hd3.out | exact hald | exact hS1 | exact hS2 | exact hS9 | exact hS10)
              clear hK K
              try simp only [List.getElem_toArray, List.getElem_cons_succ, List.getElem_cons_zero]
              try simp only [Act.put, List.setIfInBounds_toArray, List.set_cons_zero, List.set_cons_succ]
              refine wpAnyH_done (by kernel_rfl) ?_ _
              refine NoPanic.normal ?_
              go_wp2_with fail
              go_ret
              exact Hfin9.out
            exact AllReadyH.nil
          exact AllReadyH.nil
        exact AllReadyH.nil
      exact AllReadyH.nil
    refine AllReadyH.cons rfl (fun K hK => ?_) ?_
    · skip
      (skip; (refine step_app_bytes (by rfl) (.tmp 57) (.tmp 58) (by rfl) w2.heap.size (.slice (some ⟨w2.heap.size, 0, none⟩) 0 0) [] (by rfl) (Own.made w2.drew _ (Nat.le_refl _)) w2.heap.size A l.length c l (by rfl) rfl (RB.alloc (w := w2.drew) Hrb.out (Nat.le_refl _) _) (by have := Hll.out; simp; omega) (by simp [World.drew]) ?_); intro v1 W1 hown1 hbel1 _;
               have hb1 : Below w2.drew.heap.size w2.drew W1 := ((Below.refl _ w2.drew).alloc (Nat.le_refl _) _).trans hbel1;
               have hu1 : Own W1 w2.drew.heap.size v1 l := (by simpa using hown1);
               have hS1 : W1.cell? ⟨d, 3, none⟩ = some (.slice (some ⟨g, 0, none⟩) N N) := (hb1.cell (p := ⟨d, 3, none⟩) Hdl.out).trans Hd3.out;
               have hr1 : W1.cell? ⟨g, zn * 2, none⟩ = some (.slice Ar n cr) := (hb1.cell (p := ⟨g, zn * 2, none⟩) Hgl.out).trans Hr0.out;
               obtain ⟨Au, cu, rfl, _, _, _⟩ := hu1.rb;
               have hS2 : (W1.alloc (.cells #[.slice Au l.length cu] 46)).cell? ⟨d, 3, none⟩ = some (.slice (some ⟨g, 0, none⟩) N N) := (World.cell?_alloc_lt W1 _ ⟨d, 3, none⟩ (Nat.lt_of_lt_of_le Hdl.out hb1.size)).trans hS1;
               have hr2 : (W1.alloc (.cells #[.slice Au l.length cu] 46)).cell? ⟨g, zn * 2, none⟩ = some (.slice Ar n cr) := (World.cell?_alloc_lt W1 _ ⟨g, zn * 2, none⟩ (Nat.lt_of_lt_of_le Hgl.out hb1.size)).trans hr1;
               have Hrow1 : Hid (OwnV W1 0 46 (.slice Ar n cr) vs) := Hrow2.out.move (fun gg hgg => hb1.block gg (Hrow2.out.ge gg hgg).2);
               have Hb1 := Lib.hid hb1; have Hu1 := Lib.hid hu1; clear hown1 hbel1 hb1 hu1)
      refine hK.out _ _ ?_ (fun hHeld => ?_)
      · try dsimp only
        (first | exact Hd3.out | exact hald | exact hS1 | exact hS2 | exact hS9 | exact hS10)
      clear hK K
      try simp only [List.getElem_toArray, List.getElem_cons_succ, List.getElem_cons_zero]
      try simp only [Act.put, List.setIfInBounds_toArray, List.set_cons_zero, List.set_cons_succ]
      refine wpAnyH_ready (rs := [12, 16]) (by kernel_rfl) (by simp) ?_
      refine AllReadyH.cons rfl (fun K hK => ?_) ?_
      · skip
        simp only [List.getElem_toArray, List.getElem_cons_succ, List.getElem_cons_zero]
        go_simp
        refine hK.out _ _ ?_ (fun hHeld => ?_)
        · try dsimp only
          (first | exact Hd3.out | exact hald | exact hS1 | exact hS2 | exact hS9 | exact hS10)
        clear hK K
        try simp only [List.getElem_toArray, List.getElem_cons_succ, List.getElem_cons_zero]
        try simp only [Act.put, List.setIfInBounds_toArray, List.set_cons_zero, List.set_cons_succ]
        refine wpAnyH_ready (rs := [16]) (by kernel_rfl) (by simp) ?_
        refine AllReadyH.cons rfl (fun K hK => ?_) ?_
        · skip
          simp only [List.getElem_toArray, List.getElem_cons_succ, List.getElem_cons_zero]
          go_simp
          refine hK.out _ _ ?_ (fun hHeld => ?_)
          · try dsimp only
            (first | exact Hd3.out | exact hald | exact hS1 | exact hS2 | exact hS9 | exact hS10)
          clear hK K
          try simp only [List.getElem_toArray, List.getElem_cons_succ, List.getElem_cons_zero]
          try simp only [Act.put, List.setIfInBounds_toArray, List.set_cons_zero, List.set_cons_succ]
          refine wpAnyH_ready (rs := [17]) (by kernel_rfl) (by simp) ?_
          refine AllReadyH.cons rfl (fun K hK => ?_) ?_
          · skip
            (skip; (refine step_app_one (by rfl) (.tmp 56) (.tmp 60) 89 46 (by rfl) Try.underlying89 (.slice none 0 0) 24 info_bytes rfl 0 (.slice Ar n cr) vs (by rfl) (Hrow1.out.alloc _) ⟨W1.heap.size, 0, none⟩ 1 (.slice Au l.length cu) (by rfl) (cell_new _ _ _) rfl (by have := Hvl.out; omega) (by have := Hvl.out; omega) (Nat.zero_le _) ?_); intro v9 W9 hown9 hg9 hb9;
                     obtain ⟨⟨g9, cap9, rfl⟩, hc9, hf9, hS9, hS10, hfin9⟩ := Hfin.out W1 W9 _ v9 _ Hb1.out Hu1.out hown9 hg9 hb9; have Hfin9 := Lib.hid hfin9; clear hown9 hg9 hb9 hfin9)
            refine hK.out _ _ ?_ (fun hHeld => ?_)
            · try dsimp only
              (first | exact Hd3.out | exact hald | exact hS1 | exact hS2 | exact hS9 | exact hS10)
            clear hK K
            try simp only [List.getElem_toArray, List.getElem_cons_succ, List.getElem_cons_zero]
            try simp only [Act.put, List.setIfInBounds_toArray, List.set_cons_zero, List.set_cons_succ]
            refine wpAnyH_take (i := 18) (v := ?_) rfl (by kernel_rfl) (by kernel_rfl) (by kernel_rfl) (fun _ _ _ h => h) (Or.inl ⟨by rfl, ?_⟩) (by assumption) ?_
            rotate_left
            · intro w hSw
              try dsimp only at hSw
              simp only [List.getElem_toArray, List.getElem_cons_succ, List.getElem_cons_zero]
              go_simp
              try with_reducible rfl
            simp only [List.getElem_toArray, List.getElem_cons_succ, List.getElem_cons_zero]
            try simp only [Act.put, List.setIfInBounds_toArray, List.set_cons_zero, List.set_cons_succ]
            refine wpAnyH_take (i := 19) (v := ?_) rfl (by kernel_rfl) (by kernel_rfl) (by kernel_rfl) (fun _ _ _ h => h) (Or.inl ⟨by rfl, ?_⟩) (by assumption) ?_
            rotate_left
            · intro w hSw
              try dsimp only at hSw
              simp only [List.getElem_toArray, List.getElem_cons_succ, List.getElem_cons_zero]
              go_simp
              try with_reducible rfl
            simp only [List.getElem_toArray, List.getElem_cons_succ, List.getElem_cons_zero]
            try simp only [Act.put, List.setIfInBounds_toArray, List.set_cons_zero, List.set_cons_succ]
            refine wpAnyH_ready (rs := [20]) (by kernel_rfl) (by simp) ?_
            refine AllReadyH.cons rfl (fun K hK => ?_) ?_
            · skip
              simp only [List.getElem_toArray, List.getElem_cons_succ, List.getElem_cons_zero]
              go_simp
              refine hK.out _ _ ?_ (fun hHeld => ?_)
              · try dsimp only
                (first | exact Hd3.out | exact hald | exact hS1 | exact hS2 | exact hS9 | exact hS10)
              clear hK K
              try simp only [List.getElem_toArray, List.getElem_cons_succ, List.getElem_cons_zero]
              try simp only [Act.put, List.setIfInBounds_toArray, List.set_cons_zero, List.set_cons_succ]
              refine wpAnyH_done (by kernel_rfl) ?_ _
              refine NoPanic.normal ?_
              go_wp2_with fail
              go_ret
              exact Hfin9.out
            exact AllReadyH.nil
          exact AllReadyH.nil
        exact AllReadyH.nil
      refine AllReadyH.cons rfl (fun K hK => ?_) ?_
      · skip
        simp only [List.getElem_toArray, List.getElem_cons_succ, List.getElem_cons_zero]
        go_simp
        refine hK.out _ _ ?_ (fun hHeld => ?_)
        · try dsimp only
          (first | exact Hd3.out | exact hald | exact hS1 | exact hS2 | exact hS9 | exact hS10)
        clear hK K
        try simp only [List.getElem_toArray, List.getElem_cons_succ, List.getElem_cons_zero]
        try simp only [Act.put, List.setIfInBounds_toArray, List.set_cons_zero, List.set_cons_succ]
        refine wpAnyH_ready (rs := [12]) (by kernel_rfl) (by simp) ?_
        refine AllReadyH.cons rfl (fun K hK => ?_) ?_
        · skip
          simp only [List.getElem_toArray, List.getElem_cons_succ, List.getElem_cons_zero]
          go_simp
          refine hK.out _ _ ?_ (fun hHeld => ?_)
          · try dsimp only
            (first | exact Hd3.out | exact hald | exact hS1 | exact hS2 | exact hS9 | exact hS10)
          clear hK K
          try simp only [List.getElem_toArray, List.getElem_cons_succ, List.getElem_cons_zero]
          try simp only [Act.put, List.setIfInBounds_toArray, List.set_cons_zero, List.set_cons_succ]
          refine wpAnyH_ready (rs := [17]) (by kernel_rfl) (by simp) ?_
          refine AllReadyH.cons rfl (fun K hK => ?_) ?_
          · skip
            (skip; (refine step_app_one (by rfl) (.tmp 56) (.tmp 60) 89 46 (by rfl) Try.underlying89 (.slice none 0 0) 24 info_bytes rfl 0 (.slice Ar n cr) vs (by rfl) (Hrow1.out.alloc _) ⟨W1.heap.size, 0, none⟩ 1 (.slice Au l.length cu) (by rfl) (cell_new _ _ _) rfl (by have := Hvl.out; omega) (by have := Hvl.out; omega) (Nat.zero_le _) ?_); intro v9 W9 hown9 hg9 hb9;
                     obtain ⟨⟨g9, cap9, rfl⟩, hc9, hf9, hS9, hS10, hfin9⟩ := Hfin.out W1 W9 _ v9 _ Hb1.out Hu1.out hown9 hg9 hb9; have Hfin9 := Lib.hid hfin9; clear hown9 hg9 hb9 hfin9)
            refine hK.out _ _ ?_ (fun hHeld => ?_)
            · try dsimp only
              (first | exact Hd3.out | exact hald | exact hS1 | exact hS2 | exact hS9 | exact hS10)
            clear hK K
            try simp only [List.getElem_toArray, List.getElem_cons_succ, List.getElem_cons_zero]
            try simp only [Act.put, List.setIfInBounds_toArray, List.set_cons_zero, List.set_cons_succ]
            refine wpAnyH_take (i := 18) (v := ?_) rfl (by kernel_rfl) (by kernel_rfl) (by kernel_rfl) (fun _ _ _ h => h) (Or.inl ⟨by rfl, ?_⟩) (by assumption) ?_
            rotate_left
            · intro w hSw
              try dsimp only at hSw
              simp only [List.getElem_toArray, List.getElem_cons_succ, List.getElem_cons_zero]
              go_simp
              try with_reducible rfl
            simp only [List.getElem_toArray, List.getElem_cons_succ, List.getElem_cons_zero]
            try simp only [Act.put, List.setIfInBounds_toArray, List.set_cons_zero, List.set_cons_succ]
            refine wpAnyH_take (i := 19) (v := ?_) rfl (by kernel_rfl) (by kernel_rfl) (by kernel_rfl) (fun _ _ _ h => h) (Or.inl ⟨by rfl, ?_⟩) (by assumption) ?_
            rotate_left
            · intro w hSw
              try dsimp only at hSw
              simp only [List.getElem_toArray, List.getElem_cons_succ, List.getElem_cons_zero]
              go_simp
              try with_reducible rfl
            simp only [List.getElem_toArray, List.getElem_cons_succ, List.getElem_cons_zero]
            try simp only [Act.put, List.setIfInBounds_toArray, List.set_cons_zero, List.set_cons_succ]
            refine wpAnyH_ready (rs := [20]) (by kernel_rfl) (by simp) ?_
            refine AllReadyH.cons rfl (fun K hK => ?_) ?_
            · skip
              simp only [List.getElem_toArray, List.getElem_cons_succ, List.getElem_cons_zero]
              go_simp
              refine hK.out _ _ ?_ (fun hHeld => ?_)
              · try dsimp only
                (first | exact Hd3.out | exact hald | exact hS1 | exact hS2 | exact hS9 | exact hS10)
              clear hK K
              try simp only [List.getElem_toArray, List.getElem_cons_succ, List.getElem_cons_zero]
              try simp only [Act.put, List.setIfInBounds_toArray, List.set_cons_zero, List.set_cons_succ]
              refine wpAnyH_done (by kernel_rfl) ?_ _
              refine NoPanic.normal ?_
              go_wp2_with fail
              go_ret
              exact Hfin9.out
            exact AllReadyH.nil
          exact AllReadyH.nil
        exact AllReadyH.nil
      exact AllReadyH.nil
    exact AllReadyH.nil
  exact AllReadyH.nil
end Go.Proofs.Ytdnlikhfemhmeaa
