/-
  Drop, Alone, Resize walked.
-/
import Derived.Test.YtejimgjonhaocaaMe6
namespace Go.Proofs.Ytejimgjonhaocaa
open Go.RowKit Go.Maps Go.Lib

theorem rise_len : ∀ (L : List Md) (lo hi : Nat), L.Pairwise (fun a b => a.id < b.id) → (∀ m ∈ L, lo ≤ m.id ∧ m.id < hi) → L.length ≤ hi - lo
  | [], _, _, _, _ => Nat.zero_le _
  | a :: L, lo, hi, hr, h => by
    have ha := h a (.head _)
    have := rise_len L (a.id + 1) hi (List.pairwise_cons.1 hr).2 fun m hm => ⟨(List.pairwise_cons.1 hr).1 m hm, (h m (.tail _ hm)).2⟩
    simp only [List.length_cons]
    omega
theorem Ok.len {dep nxt : Nat} {L : List Md} (h : Ok dep nxt L) : L.length ≤ nxt := by
  have := rise_len L 0 nxt h.rise fun m hm => ⟨Nat.zero_le _, h.hi m hm⟩
  omega
theorem wrap_small {x : Int} (h : -9000000000000000000 ≤ x ∧ x ≤ 9000000000000000000) : wrap64 x = x := by unfold wrap64; omega
/-- what Drop answers, and leaves -/
def dropE (L : List Md) (n : Nat) : Int := match look L n with
  | none => 4
  | some _ => if 0 < ups L n then 9 else 0
def dropA (L : List Md) (n : Nat) : List Md := if dropE L n = 0 then dropL L n else L
/-- what Resize answers, and leaves -/
def resE (L : List Md) (n : Nat) (s : Int) : Int := match look L n with
  | none => 4
  | some m => if m.fixed = true then 11 else if s < m.size ∨ 1048576 < s then 1 else 0
def resA (L : List Md) (n : Nat) (s : Int) : List Md := if resE L n s = 0 then resL L n s.toNat else L
section
set_option maxRecDepth 20000
set_option maxHeartbeats 1600000
variable {w w' : World} {tb mb dep nxt N : Nat} {L : List Md}
theorem less_one (ho : Ok dep nxt L) (hx : nxt ≤ 1000000) (hN : N < 900000) {n : Nat} {m : Md} (hm : look L n = some m) :
    ∃ g', rowG (dropL L n) = updG g' n none ∧ rowG (aloneL L n) = updG g' n (some (rowV (gAlone m) (ups L n : Nat))) ∧ ∀ w1 tb mb, TabG w1 tb mb dep nxt (rowG L) N →
      Calls Try.prog 38 #[.pointer (some ⟨tb, 0, none⟩), .int .u64 (m.tgt : Int), .int .i64 (-1)] w1 fun e w' => e = .returned (.tuple #[]) ∧ TabG w' tb mb dep nxt g' (N + 1) ∧ Kept (fun b => b ≠ mb) w1 w' := by
  have hmm := look_mem hm
  have hlt := ho.down m hmm.1
  have hhi := ho.hi m hmm.1
  have h64 : m.tgt < T64 := by unfold T64; omega
  cases hu : look L m.tgt with
  | none =>
    refine ⟨rowG L, rowG_drop0 ho hm hu, rowG_alone0 ho hm hu, fun w1 tb mb h => ?_⟩
    refine (count_none h h64 (rowG_none hu) _).mono ?_
    rintro e w' ⟨rfl, hb⟩
    exact ⟨rfl, (h.below hb).mono (by omega), ⟨hb.os, hb.tape, hb.output, hb.size, fun b hlt _ => hb.block b hlt⟩⟩
  | some u =>
    refine ⟨_, rowG_drop ho hm hu, rowG_alone ho hm hu, fun w1 tb mb h => ?_⟩
    have := ups_le L m.tgt
    have := ho.len
    exact count_some h h64 (rowG_some hu) (by omega) (wrap_small (by omega))
theorem drop_any (h : TabG w tb mb dep nxt (rowG L) N) (ho : Ok dep nxt L) (hx : nxt ≤ 1000000) (hN : N < 900000) {n : Nat} (hn : n < T64) :
    Calls Try.prog 27 #[.pointer (some ⟨tb, 0, none⟩), .int .u64 (n : Int)] w fun e w' => e = .returned (.int .i64 (dropE L n)) ∧ TabG w' tb mb dep nxt (rowG (dropA L n)) (N + 2) ∧ Kept (Off tb mb) w w' := by
  have c2 := h.t2
  have H := Lib.hid h
  have Hn := Lib.hid hn
  cases hm : look L n with
  | none =>
    have hlk := h.fetch_none hn (rowG_none hm)
    unfold rowZ at hlk
    have He : Hid (dropE L n = 4 ∧ dropA L n = L) := by
      have e : dropE L n = 4 := by unfold dropE; rw [hm]
      exact ⟨e, by unfold dropA; rw [e]; rfl⟩
    clear h hn hm ho
    go_enter Try.func27, Try.ntmps27
    go_wp2_with fail
    go_ret
    exact ⟨by rw [He.out.1]; rfl, by rw [He.out.2]; exact (H.out.alloc _).mono (by omega), (Kept.refl _ _).alloc _⟩
  | some m =>
    have hlk := h.fetch_some hn (rowG_some hm)
    unfold rowV at hlk
    by_cases hp : 0 < ups L n
    · have He : Hid (dropE L n = 9 ∧ dropA L n = L) := by
        have e : dropE L n = 9 := by unfold dropE; rw [hm]; simp [hp]
        exact ⟨e, by unfold dropA; rw [e]; rfl⟩
      have hp' : (0 : Int) < (ups L n : Nat) := by omega
      clear h hn hm ho
      go_enter Try.func27, Try.ntmps27
      go_wp2_with fail
      go_ret
      exact ⟨by rw [He.out.1]; rfl, by rw [He.out.2]; exact (H.out.alloc _).mono (by omega), (Kept.refl _ _).alloc _⟩
    · obtain ⟨g', hg1, -, hcl⟩ := less_one ho hx hN hm
      have He : Hid (dropE L n = 0 ∧ rowG (dropA L n) = updG g' n none) := by
        have e : dropE L n = 0 := by unfold dropE; rw [hm]; simp [hp]
        exact ⟨e, by unfold dropA; rw [if_pos e]; exact hg1⟩
      have hz : ups L n = 0 := by omega
      rw [hz] at hlk
      have H1 := Lib.hid (H.out.alloc (.cells #[.int .u64 (m.id : Int), .int .u64 (m.tgt : Int), .int .i64 (m.off : Int), .int .i64 (m.size : Int), .bool m.fixed, .int .i64 (0 : Nat)] 75))
      have Hkp : Hid (Kept (Off tb mb) w (w.alloc (.cells #[.int .u64 (m.id : Int), .int .u64 (m.tgt : Int), .int .i64 (m.off : Int), .int .i64 (m.size : Int), .bool m.fixed, .int .i64 (0 : Nat)] 75))) := (Kept.refl _ _).alloc _
      have Hcl := Lib.hid (hcl _ _ _ H1.out)
      clear h hn hm ho hg1 hcl H hz hp
      go_enter Try.func27, Try.ntmps27
      go_wp2_with fail
      refine Hcl.out.mono ?_
      rintro e w2 ⟨rfl, h2, k2⟩
      have H2 := Lib.hid h2
      have K2 : Hid (Kept (Off tb mb) w w2) := Hkp.out.trans (k2.mono fun b _ q => q.2)
      clear h2 k2 Hkp H1 Hcl c2 hlk
      have c2 := H2.out.t2
      go_wp2_with (refine mv_drop rfl _ _ rfl Try.underlying65 H2.out.mc Hn.out rfl rfl ?_)
      intro w3 h3 t3
      have H3 := Lib.hid (H2.out.turned h3 t3)
      have K3 : Hid (Kept (Off tb mb) w w3) := K2.out.grown t3.grown (fun g e => by cases e; exact fun q => q.2 rfl)
      clear h3 t3
      go_wp2_with fail
      go_ret
      exact ⟨by rw [He.out.1]; rfl, by rw [He.out.2]; exact H3.out.mono (by omega), K3.out⟩
theorem alone_any (h : TabG w tb mb dep nxt (rowG L) N) (ho : Ok dep nxt L) (hx : nxt ≤ 1000000) (hN : N < 900000) {n : Nat} (hn : n < T64) :
    Calls Try.prog 25 #[.pointer (some ⟨tb, 0, none⟩), .int .u64 (n : Int)] w fun e w' => e = .returned (.int .i64 (haveE L n 0)) ∧ TabG w' tb mb dep nxt (rowG (aloneL L n)) (N + 2) ∧ Kept (Off tb mb) w w' := by
  have c2 := h.t2
  have H := Lib.hid h
  have Hn := Lib.hid hn
  cases hm : look L n with
  | none =>
    have hlk := h.fetch_none hn (rowG_none hm)
    unfold rowZ at hlk
    have He : Hid (haveE L n 0 = 4 ∧ aloneL L n = L) := ⟨by unfold haveE; rw [hm]; rfl, chg_none hm⟩
    clear h hn hm ho
    go_enter Try.func25, Try.ntmps25
    go_wp2_with fail
    go_ret
    exact ⟨by rw [He.out.1]; rfl, by rw [He.out.2]; exact (H.out.alloc _).mono (by omega), (Kept.refl _ _).alloc _⟩
  | some m =>
    have hlk := h.fetch_some hn (rowG_some hm)
    unfold rowV at hlk
    obtain ⟨g', -, hg2, hcl⟩ := less_one ho hx hN hm
    have He : Hid (haveE L n 0 = 0 ∧ rowG (aloneL L n) = updG g' n (some (rowV (gAlone m) (ups L n : Nat)))) := ⟨by unfold haveE; rw [hm]; rfl, hg2⟩
    have H1 := Lib.hid (H.out.alloc (.cells #[.int .u64 (m.id : Int), .int .u64 (m.tgt : Int), .int .i64 (m.off : Int), .int .i64 (m.size : Int), .bool m.fixed, .int .i64 (ups L n : Nat)] 75))
    have Hc := Lib.hid (Cells.new w #[.int .u64 (m.id : Int), .int .u64 (m.tgt : Int), .int .i64 (m.off : Int), .int .i64 (m.size : Int), .bool m.fixed, .int .i64 (ups L n : Nat)] 75)
    have Hkp : Hid (Kept (Off tb mb) w (w.alloc (.cells #[.int .u64 (m.id : Int), .int .u64 (m.tgt : Int), .int .i64 (m.off : Int), .int .i64 (m.size : Int), .bool m.fixed, .int .i64 (ups L n : Nat)] 75))) := (Kept.refl _ _).alloc _
    have Hne : Hid (w.heap.size ≠ mb ∧ w.heap.size ≠ tb) := ⟨by have := h.mc.lt; omega, by have := h.tc.lt; omega⟩
    have Hcl := Lib.hid (hcl _ _ _ H1.out)
    obtain ⟨B, hB⟩ : ∃ B, B = w.heap.size := ⟨_, rfl⟩
    have HBw := Lib.hid hB
    clear h hn hm ho hg2 hcl H
    go_enter Try.func25, Try.ntmps25
    go_wp2_with fail
    refine Hcl.out.mono ?_
    rintro e w2 ⟨rfl, h2, k2⟩
    have H2 := Lib.hid h2
    have K2 : Hid (Kept (Off tb mb) w w2) := Hkp.out.trans (k2.mono fun b _ q => q.2)
    have Hc2 : Hid (Cells w2 w.heap.size 75 [.int .u64 (m.id : Int), .int .u64 (m.tgt : Int), .int .i64 (m.off : Int), .int .i64 (m.size : Int), .bool m.fixed, .int .i64 (ups L n : Nat)]) := Hc.out.move (k2.block _ Hc.out.lt Hne.out.1)
    have Hge := Lib.hid (Nat.le_refl w.heap.size)
    clear h2 k2 Hkp H1 Hcl c2 hlk Hc
    rw [← hB] at Hc2 Hne Hge ⊢
    have Hnew : Hid (Kept (Off tb mb) w ((w2.setCell ⟨B, 1, none⟩ (.int .u64 0)).setCell ⟨B, 2, none⟩ (.int .i64 0))) := by
      have hB := HBw.out
      refine ⟨K2.out.os, K2.out.tape, K2.out.output, by have := K2.out.size; simpa [World.setCell] using this, fun b hb hk => ?_⟩
      rw [Below.heap_setCell _ _ _ _ (by show b ≠ B; omega), Below.heap_setCell _ _ _ _ (by show b ≠ B; omega)]
      exact K2.out.block b hb hk
    have c2 := H2.out.t2
    have k0 := Hc2.out.cell (i := 0) rfl
    have k1 := Hc2.out.cell (i := 1) rfl
    have k2 := Hc2.out.cell (i := 2) rfl
    have f1 := Hc2.out.frozen 1
    have f2 := Hc2.out.frozen 2
    clear hB
    go_wp2_with fail
    have H3 : Hid (TabG ((w2.setCell ⟨B, 1, none⟩ (.int .u64 0)).setCell ⟨B, 2, none⟩ (.int .i64 0)) tb mb dep nxt g' (N + 1)) := by
      refine H2.out.move ?_ ?_
      · rw [Below.heap_setCell _ _ _ _ (by exact fun e => Hne.out.2 e.symm), Below.heap_setCell _ _ _ _ (by exact fun e => Hne.out.2 e.symm)]
      · rw [Below.heap_setCell _ _ _ _ (by exact fun e => Hne.out.1 e.symm), Below.heap_setCell _ _ _ _ (by exact fun e => Hne.out.1 e.symm)]
    have Hc3 := Lib.hid ((Hc2.out.set 1 (.int .u64 0)).set 2 (.int .i64 0))
    clear c2 k0 k1 k2 f1 f2 Hc2 H2 K2
    generalize (w2.setCell ⟨B, 1, none⟩ (.int .u64 0)).setCell ⟨B, 2, none⟩ (.int .i64 0) = w3 at *
    have c2 := H3.out.t2
    have k0 := Hc3.out.cell (i := 0) rfl
    have k1 := Hc3.out.cell (i := 1) rfl
    have k2 := Hc3.out.cell (i := 2) rfl
    have k3 := Hc3.out.cell (i := 3) rfl
    have k4 := Hc3.out.cell (i := 4) rfl
    have k5 := Hc3.out.cell (i := 5) rfl
    refine wp_region_still_tail 6 (by kernel_rfl) (by kernel_rfl) ?_
    simp only [List.take_succ_cons, List.take_zero, List.drop_succ_cons, List.drop_zero]
    repeat still_step
    refine wpStill_nil ?_
    change wpList _ _ _ _ _ w3.drew
    refine mv_store rfl _ _ _ rfl Try.underlying65 H3.out.drew.mc (by omega) Hn.out _ rfl rfl rfl ?_
    intro w4 hm2 ht2
    have H9 := Lib.hid (H3.out.drew.turned hm2 ht2)
    have K9 : Hid (Kept (Off tb mb) w w4) := Hnew.out.drew.grown ht2.grown (fun g e => by cases e; exact fun q => q.2 rfl)
    clear hm2 ht2
    go_wp2_with fail
    go_ret
    exact ⟨by rw [He.out.1]; rfl, by rw [He.out.2]; exact H9.out.mono (by omega), K9.out⟩
theorem res_any (h : TabG w tb mb dep nxt (rowG L) N) (ho : Ok dep nxt L) (hN : N < 900000) {n : Nat} (hn : n < T64) (s : Int) :
    Calls Try.prog 30 #[.pointer (some ⟨tb, 0, none⟩), .int .u64 (n : Int), .int .i64 s] w fun e w' => e = .returned (.int .i64 (resE L n s)) ∧ TabG w' tb mb dep nxt (rowG (resA L n s)) (N + 2) ∧ Kept (Off tb mb) w w' := by
  have c2 := h.t2
  have H := Lib.hid h
  have Hn := Lib.hid hn
  cases hm : look L n with
  | none =>
    have hlk := h.fetch_none hn (rowG_none hm)
    unfold rowZ at hlk
    have He : Hid (resE L n s = 4 ∧ resA L n s = L) := by
      have e : resE L n s = 4 := by unfold resE; rw [hm]
      exact ⟨e, by unfold resA; rw [e]; rfl⟩
    clear h hn hm
    go_enter Try.func30, Try.ntmps30
    go_wp2_with fail
    go_ret
    exact ⟨by rw [He.out.1]; rfl, by rw [He.out.2]; exact (H.out.alloc _).mono (by omega), (Kept.refl _ _).alloc _⟩
  | some m =>
    have hlk := h.fetch_some hn (rowG_some hm)
    unfold rowV at hlk
    cases hf : m.fixed with
    | true =>
      rw [hf] at hlk
      have He : Hid (resE L n s = 11 ∧ resA L n s = L) := by
        have e : resE L n s = 11 := by unfold resE; rw [hm]; simp [hf]
        exact ⟨e, by unfold resA; rw [e]; rfl⟩
      clear h hn hm hf
      go_enter Try.func30, Try.ntmps30
      go_wp2_with fail
      go_ret
      exact ⟨by rw [He.out.1]; rfl, by rw [He.out.2]; exact (H.out.alloc _).mono (by omega), (Kept.refl _ _).alloc _⟩
    | false =>
      rw [hf] at hlk
      by_cases hs : s < m.size
      · have He : Hid (resE L n s = 1 ∧ resA L n s = L) := by
          have e : resE L n s = 1 := by unfold resE; rw [hm]; simp [hf, hs]
          exact ⟨e, by unfold resA; rw [e]; rfl⟩
        clear h hn hm hf
        go_enter Try.func30, Try.ntmps30
        go_wp2_with fail
        go_ret
        exact ⟨by rw [He.out.1]; rfl, by rw [He.out.2]; exact (H.out.alloc _).mono (by omega), (Kept.refl _ _).alloc _⟩
      · have Hm := Lib.hid fun w => mayHave_any s w
        by_cases hs2 : 1048576 < s
        · have He : Hid (resE L n s = 1 ∧ resA L n s = L) := by
            have e : resE L n s = 1 := by unfold resE; rw [hm]; simp [hf, hs2]
            exact ⟨e, by unfold resA; rw [e]; rfl⟩
          have hd : decide (1 ≤ s ∧ s ≤ 1048576) = false := decide_eq_false (by omega)
          rw [hd] at Hm
          clear h hn hm hf hd hs2
          go_enter Try.func30, Try.ntmps30
          go_wp2_with (go_at_call 36; refine (Hm.out _).mono ?_; rintro e w2 ⟨rfl, rfl⟩)
          go_ret
          exact ⟨by rw [He.out.1]; rfl, by rw [He.out.2]; exact (H.out.alloc _).mono (by omega), (Kept.refl _ _).alloc _⟩
        · have hsz := (ho.size m (look_mem hm).1).1
          obtain ⟨z, rfl⟩ : ∃ z : Nat, s = (z : Int) := ⟨s.toNat, by omega⟩
          have hd : decide (1 ≤ (z : Int) ∧ (z : Int) ≤ 1048576) = true := decide_eq_true (by omega)
          rw [hd] at Hm
          have He : Hid (resE L n z = 0 ∧ rowG (resA L n z) = updG (rowG L) n (some (rowV (gRes z m) (ups L n : Nat)))) := by
            have e : resE L n z = 0 := by unfold resE; rw [hm]; simp [hf]; omega
            refine ⟨e, ?_⟩
            unfold resA
            rw [if_pos e, Int.toNat_natCast]
            exact rowG_chg (g := gRes z) (fun _ => rfl) (fun _ => rfl) hm
          have Hf := Lib.hid hf
          have Hk : Hid (mb < w.heap.size ∧ tb < w.heap.size) := ⟨h.mc.lt, h.tc.lt⟩
          clear h hn hm hf hd hs2 ho hsz
          go_enter Try.func30, Try.ntmps30
          go_wp2_with (go_at_call 36; refine (Hm.out _).mono ?_; rintro e w2 ⟨rfl, rfl⟩)
          have H1 := Lib.hid (H.out.alloc (.cells #[.int .u64 (m.id : Int), .int .u64 (m.tgt : Int), .int .i64 (m.off : Int), .int .i64 (z : Int), .bool false, .int .i64 (ups L n : Nat)] 75))
          have Hc := Lib.hid (Cells.new w #[.int .u64 (m.id : Int), .int .u64 (m.tgt : Int), .int .i64 (m.off : Int), .int .i64 (z : Int), .bool false, .int .i64 (ups L n : Nat)] 75)
          have Hkp : Hid (Kept (Off tb mb) w (w.alloc (.cells #[.int .u64 (m.id : Int), .int .u64 (m.tgt : Int), .int .i64 (m.off : Int), .int .i64 (z : Int), .bool false, .int .i64 (ups L n : Nat)] 75))) := (Kept.refl _ _).alloc _
          clear hlk c2 H
          trace_state
          generalize w.alloc (.cells #[.int .u64 (m.id : Int), .int .u64 (m.tgt : Int), .int .i64 (m.off : Int), .int .i64 (z : Int), .bool false, .int .i64 (ups L n : Nat)] 75) = w1 at *
          generalize w.heap.size = B at *
          have c2 := H1.out.t2
          have k0 := Hc.out.cell (i := 0) rfl
          have k1 := Hc.out.cell (i := 1) rfl
          have k2 := Hc.out.cell (i := 2) rfl
          have k3 := Hc.out.cell (i := 3) rfl
          have k4 := Hc.out.cell (i := 4) rfl
          have k5 := Hc.out.cell (i := 5) rfl
          refine wp_region_still_tail 6 (by kernel_rfl) (by kernel_rfl) ?_
          simp only [List.take_succ_cons, List.take_zero, List.drop_succ_cons, List.drop_zero]
          repeat still_step
          refine wpStill_nil ?_
          change wpList _ _ _ _ _ w1.drew
          refine mv_store rfl _ _ _ rfl Try.underlying65 H1.out.drew.mc (by omega) Hn.out _ rfl rfl rfl ?_
          intro w2 hm2 ht2
          have H9 := Lib.hid (H1.out.drew.turned hm2 ht2)
          have K9 : Hid (Kept (Off tb mb) w w2) := Hkp.out.drew.grown ht2.grown (fun g e => by cases e; exact fun q => q.2 rfl)
          clear hm2 ht2
          go_wp2_with fail
          go_ret
          refine ⟨by rw [He.out.1]; rfl, ?_, K9.out⟩
          rw [He.out.2]
          have : rowV (gRes z m) (ups L n : Nat) = .agg #[.int .u64 (m.id : Int), .int .u64 (m.tgt : Int), .int .i64 (m.off : Int), .int .i64 (z : Int), .bool false, .int .i64 (ups L n : Nat)] := by unfold rowV gRes; rw [Hf.out]
          rw [this]
          exact H9.out.mono (by omega)
end
end Go.Proofs.Ytejimgjonhaocaa
