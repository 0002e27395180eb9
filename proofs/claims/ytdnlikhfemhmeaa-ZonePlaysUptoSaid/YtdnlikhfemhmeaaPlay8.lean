/-
  Both sides hold the same: the law's look at all pages.
-/
import Derived.Test.YtdnlikhfemhmeaaPlay7
import Derived.Test.YtdnlikhfemhmeaaZText
namespace Go.Proofs.Ytdnlikhfemhmeaa
open Go.RowKit

section
variable {M : Nat → Prop} {w0 w : World} {pw qw : Nat} {P R : Pow} {ds es : List (Nat × Drv)} {i d : Nat} {D : Drv}
theorem Rig.offs (h : Rig M w0 pw qw P ds R es w) : Calls Try.prog 21 #[.pointer (some ⟨pw, 0, none⟩)] w (fun e w' => e = .returned (.bool P.off) ∧ w = w') ∧ Calls Try.prog 23 #[.pointer (some ⟨pw, 0, none⟩)] w (fun e w' => e = .returned (.int .i64 (P.writes : Int)) ∧ w = w') ∧
    w.cell? ⟨qw, 0, none⟩ = some (.bool R.off) ∧ w.cell? ⟨qw, 3, none⟩ = some (.int .i64 (R.writes : Int)) := by
  obtain ⟨O, Q, h1, h2, _⟩ := h.st
  obtain ⟨dv, A, n, c, u1, _⟩ := h2.pow
  exact ⟨sysOff h1, sysWrites h1, u1.cell rfl, u1.cell rfl⟩
theorem Rig.losts (h : Rig M w0 pw qw P ds R es w) (hi : ds[i]? = some (d, D)) {e : Nat} {E : Drv} (he : es[i]? = some (e, E)) : Calls Try.prog 37 #[.pointer (some ⟨d, 0, none⟩)] w (fun e w' => e = .returned (.bool D.lost) ∧ w = w') ∧ w.cell? ⟨e, 4, none⟩ = some (.bool E.lost) := by
  obtain ⟨O, Q, h1, h2, _⟩ := h.st
  obtain ⟨g, cs, u1, _⟩ := (h1.drv i d D hi).1
  obtain ⟨g', cs', v1, _⟩ := (h2.drv i e E he).1
  exact ⟨lost_any d D.lost w (u1.cell rfl), v1.cell rfl⟩
theorem Rig.points (h : Rig M w0 pw qw P ds R es w) (z : Int) (hi : ds[i]? = some (d, D)) {e : Nat} {E : Drv} (he : es[i]? = some (e, E)) : Calls Try.prog 19 #[.pointer (some ⟨d, 0, none⟩), .int .i64 z] w (fun e w' => e = .returned (.tuple #[.int .i64 (ptrNum P D z : Nat), .int .i64 (ptrCode P D z : Nat)]) ∧ w = w') ∧
    Calls Try.prog 38 #[.pointer (some ⟨e, 0, none⟩), .int .i64 z] w (fun e w' => e = .returned (.tuple #[.int .i64 (ptrNum R E z : Nat), .int .i64 (ptrCode R E z : Nat)]) ∧ w = w') := by
  obtain ⟨O, Q, h1, h2, _⟩ := h.st
  exact ⟨pointer_any pw i d P ds D O z w h1 hi, rpointer_any qw i e R es E Q z w h2 he⟩
theorem Rig.read (h : Rig M w0 pw qw P ds R es w) (z k : Int) (hi : ds[i]? = some (d, D)) : Calls Try.prog 14 #[.pointer (some ⟨d, 0, none⟩), .int .i64 z, .int .i64 k] w fun e w' => ∃ A c, e = .returned (.tuple #[.slice A (readBytes P D z k).length c, .int .i64 (readCode P D z k : Nat)]) ∧
    (convert 46 9 (.slice A (readBytes P D z k).length c)).run Try.prog w' = .ok (.string ⟨(readBytes P D z k).toArray⟩) w' ∧ Rig M w0 pw qw P ds R es w' := by
  obtain ⟨O, Q, h1, h2, _⟩ := h.st
  refine (read_any pw i d P ds D O z k w h1 hi).mono fun e w' ⟨v, he, hv, hb⟩ => ?_
  obtain ⟨A, c, rfl, _, hr, _⟩ := hv.rb
  exact ⟨A, c, he, text_run w' _ A _ c hr, h.below hb⟩
theorem Rig.rread (h : Rig M w0 pw qw P ds R es w) (z k : Int) (hi : es[i]? = some (d, D)) : Calls Try.prog 15 #[.pointer (some ⟨d, 0, none⟩), .int .i64 z, .int .i64 k] w fun e w' => ∃ A c, e = .returned (.tuple #[.slice A (readBytes R D z k).length c, .int .i64 (readCode R D z k : Nat)]) ∧
    (convert 46 9 (.slice A (readBytes R D z k).length c)).run Try.prog w' = .ok (.string ⟨(readBytes R D z k).toArray⟩) w' ∧ w = w' := by
  obtain ⟨O, Q, h1, h2, _⟩ := h.st
  refine (rread_any qw i d R es D Q z k w h2 hi).mono fun e w' ⟨v, he, hv, _, hw⟩ => ?_
  obtain ⟨A, c, rfl, _, hr, _⟩ := hv.rb
  exact ⟨A, c, he, by rw [← hw]; exact text_run w _ A _ c hr, hw⟩
end

set_option maxRecDepth 20000 in
set_option maxHeartbeats 4000000 in
theorem same_any {M : Nat → Prop} {w0 w : World} {g pw qw bd be cd ce n : Nat} {dl el : List Nat} (zones : Int) (hg : RigAt M w0 g pw qw bd be cd ce dl el) (hp : Play M w0 pw qw dl el n w) :
    Calls Try.prog 13 #[.pointer (some ⟨g, 0, none⟩), .int .i64 zones] w fun e w' => e = .returned (.bool true) ∧ Play M w0 pw qw dl el n w' := by
  obtain ⟨P, ds, es, hr, h1, h2, h3, h4, h5⟩ := hp
  have Hr := Lib.hid hr
  have l1 : ds.length = dl.length := by rw [← h2]; simp
  have Hfin : Hid (∀ w', Rig M w0 pw qw P ds P es w' → Play M w0 pw qw dl el n w') := fun w' q => ⟨P, ds, es, q, h1, h2, h3, h4, h5⟩
  have hN4 := hg.few
  have Hcell : Hid (∀ w', Rig M w0 pw qw P ds P es w' → w'.cell? ⟨g, 0, none⟩ = some (.pointer (some ⟨pw, 0, none⟩)) ∧ w'.cell? ⟨g, 1, none⟩ = some (.pointer (some ⟨qw, 0, none⟩)) ∧ w'.cell? ⟨g, 2, none⟩ = some (.slice (some ⟨bd, 0, none⟩) dl.length cd) ∧ w'.cell? ⟨g, 3, none⟩ = some (.slice (some ⟨be, 0, none⟩) dl.length ce)) :=
    fun w' q => ⟨q.cell hg.mg hg.g0, q.cell hg.mg hg.g1, q.cell hg.mg hg.g2, q.cell hg.mg hg.g3⟩
  have Hdrv : Hid (∀ i, i < dl.length → ∃ d e D, ds[i]? = some (d, D) ∧ es[i]? = some (e, D) ∧ ∀ w', Rig M w0 pw qw P ds P es w' → w'.cell? ⟨bd, i, none⟩ = some (.pointer (some ⟨d, 0, none⟩)) ∧ w'.cell? ⟨be, i, none⟩ = some (.pointer (some ⟨e, 0, none⟩))) := by
    intro i hi
    obtain ⟨⟨d, D⟩, hd⟩ : ∃ q, ds[i]? = some q := ⟨_, List.getElem?_eq_getElem (by omega)⟩
    obtain ⟨e, he⟩ := dat_other h1 hd
    exact ⟨d, e, D, hd, he, fun w' q => ⟨q.cell hg.md (hg.dd i d (by rw [← h2]; simp [hd])), q.cell hg.me (hg.ee i e (by rw [← h3]; simp [he]))⟩⟩
  have o3 := hr.offs.2.2.1
  have o4 := hr.offs.2.2.2
  have Ho1 : Hid (∀ q, Calls Try.prog 21 #[.pointer (some ⟨pw, 0, none⟩)] (w.drewN q) (fun e w' => e = .returned (.bool P.off) ∧ ∃ m, w' = w.drewN m)) := fun q => (hr.drewN q).offs.1.mono fun e w' ⟨q1, q2⟩ => ⟨q1, q, q2.symm⟩
  have Ho2 : Hid (∀ q, Calls Try.prog 23 #[.pointer (some ⟨pw, 0, none⟩)] (w.drewN q) (fun e w' => e = .returned (.int .i64 (P.writes : Int)) ∧ ∃ m, w' = w.drewN m)) := fun q => (hr.drewN q).offs.2.1.mono fun e w' ⟨q1, q2⟩ => ⟨q1, q, q2.symm⟩
  obtain ⟨g0, g1, g2, g3⟩ := Hcell.out w hr
  have hN4' : (dl.length : Int) ≤ 4 := by omega
  clear hr h1 h2 h3 h4 h5 l1 hg hN4
  obtain ⟨N, hN⟩ : ∃ N, N = dl.length := ⟨_, rfl⟩
  rw [← hN] at Hcell Hdrv g2 g3 hN4'
  clear hN
  have hoff : P.off = true ∨ P.off = false := by cases P.off <;> simp
  rcases hoff with hoff | hoff
  all_goals
    rw [hoff] at Ho1 o3
    generalize P.writes = nw at Ho2 o4
    go_enter Try.func13, Try.ntmps13
    go_wp2_with fail
    go_quiet (first | (go_at_call 21; exact Ho1.out _) | (go_at_call 23; exact Ho2.out _))
    go_wp2_with fail
    clear o3 o4 Ho1 Ho2 g0 g1 g2 g3
    go_loopw [5] (fun iv wr => ∃ i : Nat, iv = .int .i64 (i : Int) ∧ i ≤ N ∧ Hid (Rig M w0 pw qw P ds P es wr)) (fun iv _ => N - (intOf iv).toNat)
    case atStart => exact ⟨0, rfl, Nat.zero_le _, Hr.out.drewN _⟩
    case round =>
      obtain ⟨i, rfl, hi, hrel⟩ := hrel
      obtain ⟨g0, g1, g2, g3⟩ := Hcell.out wr hrel.out
      by_cases hlt : i < N
      case neg =>
        obtain rfl : i = N := by omega
        have Hf := Lib.hid (Hfin.out _ hrel.out)
        clear hlt hi
        go_wp2_with fail
        go_ret
        exact ⟨rfl, Hf.out⟩
      obtain ⟨d, e, D, hd, he, hc⟩ := Hdrv.out i hlt
      have Hc := Lib.hid hc
      obtain ⟨c1, c2⟩ := hc wr hrel.out
      have Hd := Lib.hid hd
      have He := Lib.hid he
      have o4 := (hrel.out.losts hd he).2
      have Ho1 : Hid (∀ q, Calls Try.prog 37 #[.pointer (some ⟨d, 0, none⟩)] (wr.drewN q) (fun e w' => e = .returned (.bool D.lost) ∧ ∃ m, w' = wr.drewN m)) := fun q => ((hrel.out.drewN q).losts hd he).1.mono fun e w' ⟨q1, q2⟩ => ⟨q1, q, q2.symm⟩
      have hi' : (i : Int) < (N : Int) := by omega
      clear hd he hc hlt
      generalize D.lost = lb at Ho1 o4
      go_wp2_with fail
      go_quiet (first | (go_at_call 37; exact Ho1.out _))
      go_wp2_with fail
      clear o4 Ho1 c1 c2 g0 g1 g2 g3
      have Hr2 := Lib.hid (hrel.out.drewN nq)
      clear hrel
      generalize wr.drewN nq = wo at Hr2 ⊢
      go_loopw [6] (fun zv wz => ∃ z : Int, zv = .int .i64 z ∧ -1 ≤ z ∧ z ≤ 9 ∧ Hid (Rig M w0 pw qw P ds P es wz)) (fun zv _ => (9 - intOf zv).toNat)
      case atStart => exact ⟨-1, rfl, by omega, by omega, Hr2.out⟩
      case round =>
        obtain ⟨z, rfl, hz1, hz2, hrz⟩ := hrel
        obtain ⟨g0, g1, g2, g3⟩ := Hcell.out wr hrz.out
        obtain ⟨c1, c2⟩ := Hc.out wr hrz.out
        by_cases hzz : z ≤ zones
        case neg =>
          have hz3 : zones < z := by omega
          clear hzz
          go_wp2_with fail
          go_roundw
          case rel => exact ⟨i + 1, by go_num, by omega, hrz.out⟩
          case measure => simp [intOf]; omega
        by_cases hz9 : z < 9
        case neg =>
          have hz3 : 9 ≤ z := by omega
          clear hz9
          go_wp2_with fail
          go_roundw
          case rel => exact ⟨i + 1, by go_num, by omega, hrz.out⟩
          case measure => simp [intOf]; omega
        obtain ⟨p1, p2⟩ := hrz.out.points z Hd.out He.out
        have Hp1 := Lib.hid p1
        have Hp2 := Lib.hid p2
        clear p1 p2
        generalize ptrNum P D z = m at Hp1 Hp2
        generalize ptrCode P D z = pc at Hp1 Hp2
        go_wp2_with (first | (go_at_call 19; refine Hp1.out.mono ?_; rintro e w7 ⟨rfl, rfl⟩) | (go_at_call 38; refine Hp2.out.mono ?_; rintro e w7 ⟨rfl, rfl⟩))
        clear g0 g1 g2 g3 c1 c2 Hp1 Hp2
        obtain ⟨wp, rfl⟩ : ∃ wp : World, wp = wr := ⟨_, rfl⟩
        go_loopw [11] (fun kv wz => ∃ k : Nat, kv = .int .i64 (k : Int) ∧ k ≤ 9 ∧ Hid (Rig M w0 pw qw P ds P es wz)) (fun kv _ => 9 - (intOf kv).toNat)
        case atStart => exact ⟨0, rfl, by omega, hrz.out⟩
        case round =>
          obtain ⟨k, rfl, hk, hrk⟩ := hrel
          obtain ⟨g0, g1, g2, g3⟩ := Hcell.out wr hrk.out
          obtain ⟨c1, c2⟩ := Hc.out wr hrk.out
          by_cases hkm : (k : Int) ≤ (m : Int)
          case neg =>
            have hz3 : (m : Int) < (k : Int) := by omega
            clear hkm
            go_wp2_with fail
            go_roundw
            case rel => exact ⟨z + 1, by go_num, by omega, by omega, hrk.out⟩
            case measure => simp [intOf]; omega
          by_cases hk9 : k < 9
          case neg =>
            have hz3 : (9 : Int) ≤ (k : Int) := by omega
            clear hk9
            go_wp2_with fail
            go_roundw
            case rel => exact ⟨z + 1, by go_num, by omega, by omega, hrk.out⟩
            case measure => simp [intOf]; omega
          have hk9' : (k : Int) < 9 := by omega
          have Hread : Hid (Calls Try.prog 14 #[.pointer (some ⟨d, 0, none⟩), .int .i64 z, .int .i64 (k : Int)] wr fun v8 w' => ∃ A c, v8 = .returned (.tuple #[.slice A (readBytes P D z k).length c, .int .i64 (readCode P D z k : Nat)]) ∧
              (convert 46 9 (.slice A (readBytes P D z k).length c)).run Try.prog w' = .ok (.string ⟨(readBytes P D z k).toArray⟩) w' ∧ Hid (Rig M w0 pw qw P ds P es w') ∧ w'.cell? ⟨g, 3, none⟩ = some (.slice (some ⟨be, 0, none⟩) N ce) ∧ w'.cell? ⟨be, i, none⟩ = some (.pointer (some ⟨e, 0, none⟩)) ∧
              Hid (Calls Try.prog 15 #[.pointer (some ⟨e, 0, none⟩), .int .i64 z, .int .i64 (k : Int)] w' fun v9 w2 => ∃ A c, v9 = .returned (.tuple #[.slice A (readBytes P D z k).length c, .int .i64 (readCode P D z k : Nat)]) ∧
                (convert 46 9 (.slice A (readBytes P D z k).length c)).run Try.prog w2 = .ok (.string ⟨(readBytes P D z k).toArray⟩) w2 ∧ w' = w2)) :=
            (hrk.out.read z k Hd.out).mono fun e' w' ⟨A, c, q1, q2, q3⟩ => ⟨A, c, q1, q2, q3, (Hcell.out w' q3).2.2.2, (Hc.out w' q3).2, q3.rread z k He.out⟩
          generalize readBytes P D z k = l at Hread
          generalize readCode P D z k = rc at Hread
          clear hk9
          go_wp2_with (first | (go_at_call 14; refine Hread.out.mono ?_; rintro v w8 ⟨Aa, ca, rfl, t1, Hr8, u1, u2, Hrd⟩; clear g0 g1 g2 g3 c1 c2) | (go_at_call 15; refine Hrd.out.mono ?_; rintro v w9 ⟨Ab, cb, rfl, t2, rfl⟩))
          go_roundw
          case rel => exact ⟨k + 1, by go_num, by omega, Hr8.out⟩
          case measure => simp [intOf]; omega
end Go.Proofs.Ytdnlikhfemhmeaa
