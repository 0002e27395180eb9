/-
  The second saying's reader of records.
-/
import Derived.Test.YtnphlaolinalkaaDoorReadRec
import Derived.Test.YtnphlaolinalkaaDoorRead2
import Derived.Test.YtnphlaolinalkaaDoorRefRn
import Derived.Test.YtnphlaolinalkaaDoorRefSum
import Derived.Test.YtnphlaolinalkaaDoorLow
import Derived.Deep.RegionHeld3
import Derived.BigQuiet
import Derived.Deep.RegionHeldLaw
import Derived.Test.YtnphlaolinalkaaDoorAppStep
namespace Go.Proofs.YtnphlaolinalkaaDoor
open Go.RowKit

set_option maxRecDepth 200000 in
set_option maxHeartbeats 4000000 in
theorem refReadRec_any (A : Option Addr) (c : Nat) (l : List UInt8) (w : World) (hr : RB w w.heap.size A l) (hl : l.length ≤ 1099511627776) (hc : l.length ≤ c) :
    Calls Tryd.prog 20 #[.slice A l.length c] w fun e w' => ∃ v, e = .returned (.tuple #[.int .u64 ((readRec l).1 : Nat), v, .int .i64 ((readRec l).2.2.1 : Nat), .int .i64 ((readRec l).2.2.2 : Nat)]) ∧
      Own w' w.heap.size v (readRec l).2.1 ∧ Below w.heap.size w w' := by
  have hrn := refRn_any A c l w _ hr hl
  have Hr := Lib.hid hr
  have Hspec : Hid (readRec l = _) := (by rw [readRec] : readRec l = _)
  have Hok := Lib.hid (@readNum_ok l)
  generalize readRec l = out at Hspec ⊢
  generalize hrd : readNum l = rd at hrn Hspec Hok
  obtain ⟨v, n, e⟩ := rd
  have hrn : Calls Tryd.prog 15 #[.slice A l.length c] w fun r w' => r = .returned (.tuple #[.int .u64 (v : Int), .int .i64 (n : Int), .int .i64 (e : Int)]) ∧ w = w' := hrn
  have Hrn := Lib.hid hrn
  clear hr hrn hrd
  by_cases he : e = 0
  · obtain ⟨hn1, hn2, hn3, _⟩ := Hok.out he
    dsimp only at hn1 hn2 hn3
    have hb0 : ((e : Int) != 0) = false := by simp [he]
    have hlb : (l.length : Int) ≤ 1099511627776 := by omega
    have hnl : (n : Int) ≤ (l.length : Int) := by omega
    by_cases hv : 16777216 < v
    · have hs : out = (0, [], 0, 3) := by rw [Hspec.out]; simp [he, hv]
      subst hs
      clear Hspec he Hok
      go_enter Tryd.func20, Tryd.ntmps20
      go_wp2_with fail
      refine Hrn.out.mono ?_
      rintro e' w' ⟨rfl, rfl⟩
      go_wp2_with fail
      refine bodyPost_ret (results_four rfl _ _ _) rfl ⟨.slice none 0 0, rfl, Own.nil _ _, Below.refl _ _⟩
    · have hvb : (v : Int) ≤ 16777216 := by omega
      by_cases hsh : l.length < n + 12 + v
      · have hs : out = (0, [], 0, 21) := by rw [Hspec.out]; simp [he, hv, hsh]
        subst hs
        clear Hspec he Hok
        have hq : (l.length : Int) - (n : Int) < 12 ∨ (12 ≤ (l.length : Int) - (n : Int) ∧ (l.length : Int) - (n : Int) - 12 < (v : Int)) := by omega
        have hwl : 12 ≤ (l.length : Int) - (n : Int) → IntKind.u64.wrap ((l.length : Int) - (n : Int) - 12) = (l.length : Int) - (n : Int) - 12 := fun h => by rw [IntKind.wrap_u64]; omega
        rcases hq with hq | ⟨hq, hq2⟩
        · clear hwl
          go_enter Tryd.func20, Tryd.ntmps20
          go_wp2_with fail
          refine Hrn.out.mono ?_
          rintro e' w' ⟨rfl, rfl⟩
          go_wp2_with fail
          refine bodyPost_ret (results_four rfl _ _ _) rfl ⟨.slice none 0 0, rfl, Own.nil _ _, Below.refl _ _⟩
        · have hwl2 := hwl hq
          clear hwl
          go_enter Tryd.func20, Tryd.ntmps20
          go_wp2_with fail
          refine Hrn.out.mono ?_
          rintro e' w' ⟨rfl, rfl⟩
          go_wp2_with fail
          refine bodyPost_ret (results_four rfl _ _ _) rfl ⟨.slice none 0 0, rfl, Own.nil _ _, Below.refl _ _⟩
      · have hsh' : (n : Int) + 12 + (v : Int) ≤ (l.length : Int) := by omega
        obtain ⟨b, o, rfl, hblk⟩ := Hr.out.flat (show 0 < l.length by omega)
        have hcn : ¬ c = n := by omega
        have hcn4 : ¬ c = n + 4 := by omega
        have hcn2 : n + 12 + v ≤ c := by omega
        have hcn3 : (n : Int) + 12 + (v : Int) ≤ (c : Int) := by omega
        have hq : 12 ≤ (l.length : Int) - (n : Int) := by omega
        have hwl2 : IntKind.u64.wrap ((l.length : Int) - (n : Int) - 12) = (l.length : Int) - (n : Int) - 12 := by rw [IntKind.wrap_u64]; omega
        have hs0 : out = if leNat (((l.drop n).take (12 + v)).take 4) ≠ sumOf (((l.drop n).take (12 + v)).drop 4) then (0, [], 0, 23)
            else (leNat ((((l.drop n).take (12 + v)).drop 4).take 8), ((l.drop n).take (12 + v)).drop 12, n + 12 + v, 0) := by
          rw [Hspec.out]; simp only [he, hv, hsh, ne_eq, not_true, if_false]
        have Hs0 := Lib.hid hs0
        clear hs0 Hspec he Hok hblk
        go_enter Tryd.func20, Tryd.ntmps20
        go_wp2_with fail
        refine Hrn.out.mono ?_
        rintro e' w' ⟨rfl, rfl⟩
        go_upto_region 9 with fail
        have hm : n + 12 + v - (n + 4) = 8 + v := by omega
        rw [hm]
        have e1 : ((l.drop n).take (12 + v)).take 4 = (l.drop n).take 4 := by rw [List.take_take, Nat.min_eq_left (by omega)]
        have e2 : ((l.drop n).take (12 + v)).drop 4 = (l.drop (n + 4)).take (8 + v) := by rw [List.drop_take, List.drop_drop]; congr 1; omega
        have hbl : ((l.drop (n + 4)).take (8 + v)).length = 8 + v := by rw [List.length_take, List.length_drop]; omega
        have Hbl := Lib.hid hbl
        have Hrb : Hid (RB w w.heap.size (some ⟨b, o + (n + 4), none⟩) ((l.drop (n + 4)).take (8 + v))) := (Hr.out.cutFlat (n + 4)).take (8 + v)
        have Hsum : Hid (∀ W, Below w.heap.size w W → Calls Tryd.prog 13 #[.slice (some ⟨b, o + (n + 4), none⟩) (8 + v) (c - (n + 4))] W fun e w' => e = .returned (.int .u32 (sumOf ((l.drop (n + 4)).take (8 + v)) : Nat)) ∧ W = w') := fun W hW => by
          have := refSum_any (some ⟨b, o + (n + 4), none⟩) (c - (n + 4)) _ W _ (Hrb.out.below hW) (by rw [hbl]; omega)
          rw [hbl] at this
          exact this
        have Hfour : Hid (∀ W, Below w.heap.size w W → Calls Tryd.prog 37 #[.slice (some ⟨b, o + n, none⟩) (l.length - n) (c - n)] W fun e w' => e = .returned (.int .u32 (leNat ((l.drop n).take 4) : Nat)) ∧ ∃ k, w' = W.drewN k) := fun W hW => by
          have := readFour_any (some ⟨b, o + n, none⟩) (c - n) (l.drop n) W _ ((Hr.out.cutFlat n).below hW) (by rw [List.length_drop]; omega) (by rw [List.length_drop]; omega)
          rw [List.length_drop] at this
          exact this
        have hs1 := Hs0.out
        rw [e1, e2] at hs1
        have Hs1 := Lib.hid hs1
        generalize leNat ((l.drop n).take 4) = a at Hfour Hs1
        generalize hsm : sumOf ((l.drop (n + 4)).take (8 + v)) = sm at Hsum Hs1
        clear e1 e2 hbl hs1 Hs0 hm hsm
        go_cut [51] (fun s wx => s = .bool ((sm : Int) != (a : Int)) ∧ Hid (Below w.heap.size w wx))
        case first =>
          go_region_held3 (fun _ => True) (exact trivial) (first
            | (go_at_call 13; refine (Hsum.out _ (by exact ⟨rfl, rfl, rfl, Nat.le_refl _, fun _ _ => rfl⟩)).mono ?_; rintro e w' ⟨rfl, rfl⟩)
            | (go_at_call 37; refine (Hfour.out _ (by exact ⟨rfl, rfl, rfl, Nat.le_refl _, fun _ _ => rfl⟩)).mono ?_; rintro e w' ⟨rfl, k, rfl⟩))
          all_goals
            go_wp2_with fail
            go_meet
            exact ⟨rfl, ⟨rfl, rfl, rfl, Nat.le_refl _, fun _ _ => rfl⟩⟩
        case rest =>
          obtain ⟨rfl, hbelc⟩ := hcut
          by_cases hsum : a = sm
          · have hb : ((sm : Int) != (a : Int)) = false := by simp [hsum]
            have hout : out = (leNat (((l.drop (n + 4)).take (8 + v)).take 8), ((l.drop n).take (12 + v)).drop 12, n + 12 + v, 0) := by rw [Hs1.out, if_neg (fun h => h hsum)]
            have Hout := Lib.hid hout
            clear hout hsum Hs1 Hsum Hfour
            by_cases hcv : c = n + 12
            · obtain rfl : v = 0 := by omega
              have hce : c - (n + 4) = 8 := by omega
              have Hrc : Hid (RB wc w.heap.size (some ⟨b, o + (n + 4), none⟩) ((l.drop (n + 4)).take (8 + 0))) := Hrb.out.below hbelc.out
              have e3 : ((l.drop n).take (12 + 0)).drop 12 = [] := List.eq_nil_of_length_eq_zero (by rw [List.length_drop, List.length_take]; omega)
              have hbl := Hbl.out
              generalize hbody : (l.drop (n + 4)).take (8 + 0) = body at *
              have Hlow : Hid (∀ W, Below w.heap.size wc W → Calls Tryd.prog 38 #[.slice (some ⟨b, o + (n + 4), none⟩) 8 8, .int .i64 8] W fun e w' => e = .returned (.int .u64 (leNat (body.take 8) : Nat)) ∧ W = w') := fun W hW => by
                have := readLow_any (some ⟨b, o + (n + 4), none⟩) 8 body 8 W _ (Hrc.out.below hW) (by omega) (by rw [hbl]; omega) (by rw [hbl]; omega)
                rw [hbl] at this
                exact this
              have He3 := Lib.hid e3
              have Hsz : Hid (w.heap.size ≤ wc.heap.size) := hbelc.out.size
              have Hl0 : Hid (([] : List UInt8).length + ([] : List UInt8).length ≤ 140737488355327) := by show _ ≤ _; simp
              have HwA : Hid (IntKind.i64.wrap ((n : Int) + 12) = (n : Int) + 12) := by show _ = _; rw [IntKind.wrap_i64]; omega
              have HwB : Hid (IntKind.i64.wrap 0 = 0) := rfl
              rw [hce]
              clear e3 hbl hbody hce hcv Hrc
              go_upto_region 11 with fail
              go_region_law (first
                | (go_simp; go_at_call 38; refine (Hlow.out _ (by first | exact (Below.refl _ _).drew | exact ((Below.refl _ _).alloc Hsz.out _).drew | exact (((Below.refl _ _).drew).alloc Hsz.out _).trans (hbel9.mono Hsz.out))).mono ?_; rintro e w' ⟨rfl, rfl⟩)
                | (go_must (refine step_app_bytes (by rfl) (.tmp 54) (.tmp 56) (by rfl) wc.heap.size _ [] (by rfl) (Own.made wc.drew _ (Nat.le_refl _)) 0 (some ⟨b, o + (n + 4), none⟩) 0 _ [] (by rfl) rfl (RB.nil _ _ _) Hl0.out (by simp) ?_); intro v9 W9 hown9 hbel9 _))
              all_goals
                go_wp2_with fail
                refine bodyPost_ret (results_four rfl _ _ _) rfl ⟨v9, by simp [Hout.out, HwA.out, HwB.out]; and_intros <;> rfl, by rw [Hout.out]; show Own _ _ _ _; rw [He3.out]; exact hown9.wide Hsz.out, hbelc.out.trans ((((Below.refl _ wc).drew).alloc (Nat.le_refl _) _).trans hbel9 |>.mono Hsz.out)⟩
            · have hc8 : ¬ c - (n + 4) = 8 := by omega
              have hc8' : 8 ≤ c - (n + 4) := by omega
              have Hrc : Hid (RB wc w.heap.size (some ⟨b, o + (n + 4), none⟩) ((l.drop (n + 4)).take (8 + v))) := Hrb.out.below hbelc.out
              have e3 : ((l.drop n).take (12 + v)).drop 12 = ((l.drop (n + 4)).take (8 + v)).drop 8 := by
                rw [List.drop_take, List.drop_drop, List.drop_take, List.drop_drop, show 12 + v - 12 = 8 + v - 8 by omega]
              have hbl := Hbl.out
              generalize hbody : (l.drop (n + 4)).take (8 + v) = body at *
              have Hpl : Hid (RB wc w.heap.size (some ⟨b, o + (n + 4) + 8, none⟩) (body.drop 8)) := Hrc.out.cutFlat 8
              have Hpn : Hid (8 + v - 8 = (body.drop 8).length) := by show _ = _; rw [List.length_drop, hbl]
              have Hlow : Hid (∀ W, Below w.heap.size wc W → Calls Tryd.prog 38 #[.slice (some ⟨b, o + (n + 4), none⟩) (8 + v) (c - (n + 4)), .int .i64 8] W fun e w' => e = .returned (.int .u64 (leNat (body.take 8) : Nat)) ∧ W = w') := fun W hW => by
                have := readLow_any (some ⟨b, o + (n + 4), none⟩) (c - (n + 4)) body 8 W _ (Hrc.out.below hW) (by omega) (by rw [hbl]; omega) (by rw [hbl]; omega)
                rw [hbl] at this
                exact this
              have He3 := Lib.hid e3
              have c8i : (8 : Int) ≤ ((c - (n + 4) : Nat) : Int) := by omega
              have Hsz : Hid (w.heap.size ≤ wc.heap.size) := hbelc.out.size
              have Hl0 : Hid (([] : List UInt8).length + (body.drop 8).length ≤ 140737488355327) := by show _ ≤ _; rw [List.length_drop, hbl]; simp; omega
              have hv8 : 8 + v - 8 = v := by omega
              have h88 : (8 : Int) ≤ 8 + (v : Int) := by omega
              have Hpn2 : Hid (v = (body.drop 8).length) := by show _ = _; have := Hpn.out; omega
              clear e3 hbl hbody
              have HwA : Hid (IntKind.i64.wrap ((n : Int) + 12) = (n : Int) + 12) := by show _ = _; rw [IntKind.wrap_i64]; omega
              have HwB : Hid (IntKind.i64.wrap (v : Int) = (v : Int)) := by show _ = _; rw [IntKind.wrap_i64]; omega
              have HwC : Hid (IntKind.i64.wrap ((n : Int) + 12 + (v : Int)) = (n : Int) + 12 + (v : Int)) := by show _ = _; rw [IntKind.wrap_i64]; omega
              go_upto_region 11 with fail
              go_region_law (first
                | (go_simp; go_at_call 38; refine (Hlow.out _ (by first | exact (Below.refl _ _).drew | exact ((Below.refl _ _).alloc Hsz.out _).drew | exact (((Below.refl _ _).drew).alloc Hsz.out _).trans (hbel9.mono Hsz.out))).mono ?_; rintro e w' ⟨rfl, rfl⟩)
                | (go_must (refine step_app_bytes (by rfl) (.tmp 54) (.tmp 56) (by rfl) wc.heap.size _ [] (by rfl) (Own.made wc.drew _ (Nat.le_refl _)) _ (some ⟨b, o + (n + 4) + 8, none⟩) v _ (body.drop 8) (by rfl) Hpn2.out ((RB.drew Hpl.out).alloc Hsz.out _) Hl0.out (by simp) ?_); intro v9 W9 hown9 hbel9 _))
              all_goals
                go_wp2_with fail
                refine bodyPost_ret (results_four rfl _ _ _) rfl ⟨v9, by simp [Hout.out, HwA.out, HwB.out, HwC.out]; and_intros <;> rfl, by rw [Hout.out]; show Own _ _ _ _; rw [He3.out]; exact hown9.wide Hsz.out, hbelc.out.trans ((((Below.refl _ wc).drew).alloc (Nat.le_refl _) _).trans hbel9 |>.mono Hsz.out)⟩
          · have hb : ((sm : Int) != (a : Int)) = true := by simp; omega
            have hout : out = (0, [], 0, 23) := by rw [Hs1.out, if_pos hsum]
            subst hout
            clear hsum Hsum Hfour Hs1
            go_wp2_with fail
            refine bodyPost_ret (results_four rfl _ _ _) rfl ⟨.slice none 0 0, rfl, Own.nil _ _, hbelc.out⟩
  · have hb0 : ((e : Int) != 0) = true := by simp [he]
    have hs : out = (0, [], 0, e) := by rw [Hspec.out]; simp [he]
    subst hs
    clear Hspec he Hok
    go_enter Tryd.func20, Tryd.ntmps20
    go_wp2_with fail
    refine Hrn.out.mono ?_
    rintro e' w' ⟨rfl, rfl⟩
    go_wp2_with fail
    refine bodyPost_ret (results_four rfl _ _ _) rfl ⟨.slice none 0 0, rfl, Own.nil _ _, Below.refl _ _⟩
end Go.Proofs.YtnphlaolinalkaaDoor
