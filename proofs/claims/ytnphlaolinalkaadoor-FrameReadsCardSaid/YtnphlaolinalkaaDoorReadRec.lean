/-
  The program's reader of records.
-/
import Derived.Test.YtnphlaolinalkaaDoorRead3
import Derived.Test.YtnphlaolinalkaaDoorRn
import Derived.Test.YtnphlaolinalkaaDoorSum
import Derived.Test.YtnphlaolinalkaaDoorClone
import Derived.Deep.RegionWith
import Derived.Deep.DeepCutAuto
import Derived.Deep.DeepFit
import Derived.Deep.DeepMust
namespace Go.Proofs.YtnphlaolinalkaaDoor
open Go.RowKit

/-- four results at a function's end -/
theorem results_four {fn : Func} {t u v x : Tmp} (h : fn.results = #[.tmp t, .tmp u, .tmp v, .tmp x]) (tmps : Array Value) (P : Program) (w : World) :
    (results fn tmps).run P w = .ok (.tuple #[tmps.getD t undef, tmps.getD u undef, tmps.getD v undef, tmps.getD x undef]) w := by
  simp [results, h]

/-- a stretch of bytes whose first four are held against the sum of the others: what both calls tell -/
theorem check_facts (w : World) (b q m c : Nat) (body : List UInt8) (ht : Tab w) (hr : RB w w.heap.size (some ⟨b, q, none⟩) body) (hm : body.length = m) (h12 : 12 ≤ m) (hmc : m ≤ c) (hml : m ≤ 1099511627776) :
    ∃ a s : Nat, Hid (∀ W, Below w.heap.size w W → Calls Tryd.prog 36 #[.slice (some ⟨b, q, none⟩) 4 c] W fun e w' => e = .returned (.int .u64 (a : Int)) ∧ W = w') ∧
      Hid (Calls Tryd.prog 12 #[.slice (some ⟨w.heap.size, 0, none⟩) 1 1] (w.drew.alloc (.cells #[.slice (some ⟨b, q + 4, none⟩) (m - 4) (c - 4)] 24)) fun e w' => e = .returned (.int .u32 (s : Int)) ∧ (w.drew.alloc (.cells #[.slice (some ⟨b, q + 4, none⟩) (m - 4) (c - 4)] 24)) = w') ∧
      Hid (s < 4294967296 ∧ a = leNat (body.take 4) ∧ s = sumOf (body.drop 4)) := by
  refine ⟨leNat (body.take 4), sumOf (body.drop 4), ?_, ?_, sumOf_lt _, rfl, rfl⟩
  · intro W hW
    have h1 : RB W w.heap.size (some ⟨b, q, none⟩) (body.take 4) := (hr.take 4).below hW
    have := get_any (some ⟨b, q, none⟩) c (body.take 4) W _ h1 (by rw [List.length_take]; omega)
    rw [List.length_take, Nat.min_eq_left (by omega)] at this
    exact this
  · have h1 : RB w.drew w.heap.size (some ⟨b, q + 4, none⟩) (body.drop 4) := hr.cutFlat 4
    have h2 := RBB.one w.drew (c - 4) 24 h1 (Nat.le_refl _) (by rw [List.length_drop]; omega)
    have h3 : Tab (w.drew.alloc (.cells #[.slice (some ⟨b, q + 4, none⟩) (body.drop 4).length (c - 4)] 24)) := ht.below (((Below.refl w.heap.size w).drew).alloc (Nat.le_refl _) _) ht.pos
    have h4 := sum_any (some ⟨w.heap.size, 0, none⟩) 1 [body.drop 4] _ _ h3 h2 (by simp) (by simp; omega)
    rw [show [body.drop 4].flatten = body.drop 4 from by simp, List.length_drop, hm] at h4
    exact h4

set_option maxRecDepth 200000 in
set_option maxHeartbeats 1000000 in
theorem readRec_any (A : Option Addr) (c : Nat) (l : List UInt8) (w : World) (ht : Tab w) (hr : RB w w.heap.size A l) (hl : l.length ≤ 1099511627776) (hc : l.length ≤ c) (hA : A = none → c = 0) :
    Calls Tryd.prog 19 #[.slice A l.length c] w fun e w' => ∃ v, e = .returned (.tuple #[.int .u64 ((readRec l).1 : Nat), v, .int .i64 ((readRec l).2.2.1 : Nat), .int .i64 ((readRec l).2.2.2 : Nat)]) ∧
      Own w' w.heap.size v (readRec l).2.1 ∧ Below w.heap.size w w' := by
  have hrn := rn_any A c l w _ hr hl hc hA
  have Ht := Lib.hid ht
  have Hr := Lib.hid hr
  have Hspec : Hid (readRec l = _) := (by rw [readRec] : readRec l = _)
  have Hok := Lib.hid (@readNum_ok l)
  generalize readRec l = out at Hspec ⊢
  generalize hrd : readNum l = rd at hrn Hspec Hok
  obtain ⟨v, n, e⟩ := rd
  have Hrn := Lib.hid hrn
  clear ht hr hrn hA hrd
  by_cases he : e = 0
  · obtain ⟨hn1, hn2, hn3, _⟩ := Hok.out he
    dsimp only at hn1 hn2 hn3
    have hrn : Calls Tryd.prog 14 #[.slice A l.length c] w fun e w' => e = .returned (.tuple #[.int .u64 (v : Int), .int .i64 (n : Int), .int .i64 0]) ∧ w = w' := by
      have := Hrn.out
      rw [he] at this
      exact this
    have Hrn2 := Lib.hid hrn
    clear Hrn Hok hrn
    by_cases hv : 16777216 < v
    · have hs : out = (0, [], 0, 3) := by rw [Hspec.out]; simp [he, hv]
      subst hs
      clear Hspec he
      go_enter Tryd.func19, Tryd.ntmps19
      go_wp2_with fail
      refine Hrn2.out.mono ?_
      rintro e' w' ⟨rfl, rfl⟩
      go_wp2_with fail
      refine bodyPost_ret (results_four rfl _ _ _) rfl ⟨.slice none 0 0, rfl, Own.nil _ _, Below.refl _ _⟩
    · by_cases hsh : l.length < n + 12 + v
      · have hs : out = (0, [], 0, 21) := by rw [Hspec.out]; simp [he, hv, hsh]
        subst hs
        clear Hspec he
        have hsh' : (l.length : Int) < (n : Int) + 12 + (v : Int) := by omega
        go_enter Tryd.func19, Tryd.ntmps19
        go_wp2_with fail
        refine Hrn2.out.mono ?_
        rintro e' w' ⟨rfl, rfl⟩
        go_wp2_with fail
        refine bodyPost_ret (results_four rfl _ _ _) rfl ⟨.slice none 0 0, rfl, Own.nil _ _, Below.refl _ _⟩
      · have hsh' : (n : Int) + 12 + (v : Int) ≤ (l.length : Int) := by omega
        obtain ⟨b, o, rfl, hblk⟩ := Hr.out.flat (show 0 < l.length by omega)
        have hcn : ¬ c = n := by omega
        have hcn2 : n + 12 + v ≤ c := by omega
        go_enter Tryd.func19, Tryd.ntmps19
        go_wp2_with fail
        refine Hrn2.out.mono ?_
        rintro e' w' ⟨rfl, rfl⟩
        go_upto_region 10 with fail
        have hm : n + 12 + v - n = 12 + v := by omega
        rw [hm]
        have hbody := (Hr.out.cutFlat n).take (12 + v)
        have hblen : ((l.drop n).take (12 + v)).length = 12 + v := by rw [List.length_take, List.length_drop]; omega
        have hs0 : out = if leNat (((l.drop n).take (12 + v)).take 4) ≠ sumOf (((l.drop n).take (12 + v)).drop 4) then (0, [], 0, 23)
            else (leNat ((((l.drop n).take (12 + v)).drop 4).take 8), ((l.drop n).take (12 + v)).drop 12, n + 12 + v, 0) := by
          rw [Hspec.out]; simp only [he, hv, hsh, ne_eq, not_true, if_false]
        have Hs0 := Lib.hid hs0
        generalize (l.drop n).take (12 + v) = body at hbody hblen Hs0
        have hm12 : 12 ≤ 12 + v := by omega
        have hmc : 12 + v ≤ c - n := by omega
        have hml : 12 + v ≤ 1099511627776 := by omega
        clear hs0 Hspec he Hrn2 hm
        generalize 12 + v = m at hblen hm12 hmc hml ⊢
        generalize o + n = q at hbody ⊢
        generalize c - n = c2 at hmc ⊢
        obtain ⟨a, sm, Hget, Hsum, Has⟩ := check_facts w b q m c2 body Ht.out hbody hblen hm12 hmc hml
        have n4 : ¬ c2 = 4 := by omega
        have c4 : 4 ≤ c2 := by omega
        have c4' : (4 : Int) ≤ (c2 : Int) := by omega
        have m4' : (4 : Int) ≤ (m : Int) := by omega
        have c12' : (12 : Int) ≤ (c2 : Int) := by omega
        have m12' : (12 : Int) ≤ (m : Int) := by omega
        have c12 : 12 ≤ c2 := by omega
        have m4 : 4 ≤ m := by omega
        have hw : IntKind.u64.wrap (sm : Int) = (sm : Int) := by rw [IntKind.wrap_u64]; have := Has.out.1; omega
        have Hbody := Lib.hid hbody
        have Hblen := Lib.hid hblen
        clear hbody hblen hcn hcn2 hsh hsh' hc hn1 hn2 hn3
        go_cut [43] (fun s wx => s = .bool ((a : Int) != (sm : Int)) ∧ Hid (Below w.heap.size w wx))
        case first =>
          go_region_with (first | (go_at_call 36; refine (Hget.out _ (by first | exact (Below.refl _ _).drew | exact ((Below.refl _ _).drew).alloc (Nat.le_refl _) _)).mono ?_; rintro e w' ⟨rfl, rfl⟩) | (go_at_call 12; refine Hsum.out.mono ?_; rintro e w' ⟨rfl, rfl⟩))
          all_goals
            go_wp2_with fail
            go_meet
            exact ⟨rfl, ((Below.refl _ _).alloc (Nat.le_refl _) _).drew⟩
        case rest =>
          obtain ⟨rfl, hbelc⟩ := hcut
          by_cases hsum : a = sm
          · have hb : ((a : Int) != (sm : Int)) = false := by simp [hsum]
            have hout : out = (leNat ((body.drop 4).take 8), body.drop 12, n + 12 + v, 0) := by
              rw [Hs0.out, if_neg]
              rw [← Has.out.2.1, ← Has.out.2.2]
              exact fun h => h hsum
            subst hout
            have Hget2 : Hid (∀ W, Below w.heap.size w W → Calls Tryd.prog 36 #[.slice (some ⟨b, q + 4, none⟩) 8 (c2 - 4)] W fun e w' => e = .returned (.int .u64 (leNat ((body.drop 4).take 8) : Nat)) ∧ W = w') := fun W hW => by
              have h1 : RB W w.heap.size (some ⟨b, q + 4, none⟩) ((body.drop 4).take 8) := ((Hbody.out.cutFlat 4).take 8).below hW
              have := get_any (some ⟨b, q + 4, none⟩) (c2 - 4) _ W _ h1 (by rw [List.length_take]; omega)
              rw [List.length_take, List.length_drop, Hblen.out, Nat.min_eq_left (by omega)] at this
              exact this
            have hclone : ∀ ad, (c2 = 12 → ad = ⟨b, q, none⟩) → (¬ c2 = 12 → ad = ⟨b, q + 12, none⟩) → Calls Tryd.prog 35 #[.slice (some ad) (m - 12) (c2 - 12)] wc.drew
                fun e w' => ∃ v, e = .returned v ∧ Own w' wc.heap.size v (body.drop 12) ∧ Below wc.heap.size wc.drew w' := fun ad h1 h2 => by
              have hl : (body.drop 12).length = m - 12 := by rw [List.length_drop, Hblen.out]
              by_cases h12 : c2 = 12
              · have h0 : body.drop 12 = [] := List.eq_nil_of_length_eq_zero (by omega)
                have := clone_any (some ad) (c2 - 12) (body.drop 12) wc.drew 0 (by rw [h0]; exact RB.nil _ _ _) (by omega) (by omega)
                rw [hl] at this
                exact this
              · rw [h2 h12]
                have := clone_any (some ⟨b, q + 12, none⟩) (c2 - 12) (body.drop 12) wc.drew w.heap.size ((Hbody.out.cutFlat 12).below hbelc.out.drew) hbelc.out.size (by omega)
                rw [hl] at this
                exact this
            have Hclone := Lib.hid hclone
            generalize hsq : leNat ((body.drop 4).take 8) = sq at Hget2
            generalize hpl : body.drop 12 = pl at Hclone
            have Hsq := Lib.hid hsq
            have Hpl := Lib.hid hpl
            clear hsq hpl
            clear hclone hsum Hget Hsum hw Has Hs0
            by_cases h12 : c2 = 12
            · have Hcl := Lib.hid (Hclone.out ⟨b, q, none⟩ (fun _ => rfl) (fun h => absurd h12 h))
              have hd : (c2 = 12) = True := by simp [h12]
              clear Hclone h12
              go_wp2_with fail
              go_region_with (first | (go_at_call 36; refine (Hget2.out _ (by first | exact hbelc.out.drew | exact hbelc.out.drew.trans (hbel9.mono hbelc.out.size))).mono ?_; rintro e w' ⟨rfl, rfl⟩) | (go_at_call 35; refine Hcl.out.mono ?_; rintro e W9 ⟨v9, rfl, hown9, hbel9⟩))
              all_goals
                go_wp2_with fail
                refine bodyPost_ret (results_four rfl _ _ _) rfl ⟨v9, by simp [Hsq.out], by simp only [Hpl.out]; exact hown9.wide hbelc.out.size, hbelc.out.drew.trans (hbel9.mono hbelc.out.size)⟩
            · have Hcl := Lib.hid (Hclone.out ⟨b, q + 12, none⟩ (fun h => absurd h h12) (fun _ => rfl))
              clear Hclone
              go_wp2_with fail
              go_region_with (first | (go_at_call 36; refine (Hget2.out _ (by first | exact hbelc.out.drew | exact hbelc.out.drew.trans (hbel9.mono hbelc.out.size))).mono ?_; rintro e w' ⟨rfl, rfl⟩) | (go_at_call 35; refine Hcl.out.mono ?_; rintro e W9 ⟨v9, rfl, hown9, hbel9⟩))
              all_goals
                go_wp2_with fail
                refine bodyPost_ret (results_four rfl _ _ _) rfl ⟨v9, by simp [Hsq.out], by simp only [Hpl.out]; exact hown9.wide hbelc.out.size, hbelc.out.drew.trans (hbel9.mono hbelc.out.size)⟩
          · have hb : ((a : Int) != (sm : Int)) = true := by simp; omega
            have hout : out = (0, [], 0, 23) := by
              rw [Hs0.out, if_pos]
              rw [← Has.out.2.1, ← Has.out.2.2]
              exact hsum
            subst hout
            clear hsum Hget Hsum hw Has Hs0
            go_wp2_with fail
            refine bodyPost_ret (results_four rfl _ _ _) rfl ⟨.slice none 0 0, rfl, Own.nil _ _, hbelc.out⟩
  · go_enter Tryd.func19, Tryd.ntmps19
    go_wp2_with fail
    refine Hrn.out.mono ?_
    rintro e' w' ⟨rfl, rfl⟩
    unfold rnVal
    have hb : ((e : Int) != 0) = true := by simp [he]
    have hs : out = (0, [], 0, e) := by rw [Hspec.out]; simp [he]
    subst hs
    clear Hspec he
    go_wp2_with fail
    refine bodyPost_ret (results_four rfl _ _ _) rfl ⟨.slice none 0 0, rfl, Own.nil _ _, Below.refl _ _⟩
end Go.Proofs.YtnphlaolinalkaaDoor
