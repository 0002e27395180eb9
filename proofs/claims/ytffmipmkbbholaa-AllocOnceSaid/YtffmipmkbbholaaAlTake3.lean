/-
  Take, walked.
-/
import Derived.Test.YtffmipmkbbholaaAlTake2
namespace Go.Proofs.Ytffmipmkbbholaa
open Go.RowKit Go.Maps Go.Shelf Go.Lib Go.Sort

section
set_option maxRecDepth 100000
set_option maxHeartbeats 8000000
variable {w : World} {tb db mb cap D Z : Nat} {g : St}
theorem sortInts_any (blk cap n : Nat) (zs : List Int) (w : World) (hn : n = zs.length) (hH : Holds eI w blk 0 zs.toArray) (hblk : blk < w.heap.size) (hsz : n ≤ 1000) :
    Calls Try.prog 31 #[.slice (some ⟨blk, 0, none⟩) n cap] w fun e w' => e = .returned (.tuple #[]) ∧ ∃ ys : List Int, ys.Perm zs ∧ ys.Pairwise (· ≤ ·) ∧ SW eI w blk 0 ys.toArray w' := by
  subst hn
  refine (Any.slices_Sort_int (ρ := laySortI_ren) laySortI blk 0 cap zs w hH hblk (by omega)).mono ?_
  rintro e w' ⟨he, n, os, hw⟩
  refine ⟨he, zs.mergeSort (fun x y => decide (x ≤ y)), List.mergeSort_perm _ _, ?_, n, os, hw⟩
  have := List.pairwise_mergeSort (le := fun (x y : Int) => decide (x ≤ y)) (fun a b c h1 h2 => by simp at h1 h2 ⊢; omega) (fun a b => by simp; omega) zs
  exact this.imp fun h => by simpa using h
/-- the first n of a held row are held -/
theorem holds_take {w : World} {blk n : Nat} {M : List Int} (h : Holds eI w blk 0 M.toArray) (hn : n ≤ M.length) : Holds eI w blk 0 (M.take n).toArray := by
  intro j hj
  have hj' : j < n ∧ j < M.length := by simp at hj; omega
  have := h j (by simpa using hj'.2)
  have e : (M.take n).toArray[j]! = M.toArray[j]! := by
    rw [getElem!_pos (M.take n).toArray j hj, getElem!_pos M.toArray j (by simpa using hj'.2)]
    simp
  rw [e]
  exact this
theorem natList (l : List Int) (h : ∀ x ∈ l, ∃ d : Nat, x = (d : Int)) : ∃ L : List Nat, l = L.map fun (d : Nat) => (d : Int) := by
  induction l with
  | nil => exact ⟨[], rfl⟩
  | cons x l ih =>
    obtain ⟨d, hd⟩ := h x (by simp)
    obtain ⟨L, hL⟩ := ih (fun y hy => h y (by simp [hy]))
    exact ⟨d :: L, by rw [hd, hL]; rfl⟩
theorem take_call (A : Option Addr) (c m : Nat) (n : Int) (wo : List Int) (hm : m = wo.length) (hl : m ≤ 1099511627776) (hr : RI w w.heap.size A wo) (h : TabAt w tb db mb cap D Z g) :
    Calls Try.prog 10 #[.pointer (some ⟨tb, 0, none⟩), .int .i64 n, .slice A m c] w fun e w' => ∃ v us er g', e = .returned (.tuple #[v, .int .i64 er]) ∧ Took g D Z n wo us er g' ∧ TabAt w' tb db mb cap D Z g' ∧ Kept (fun x => x ≠ db ∧ x ≠ mb) w w' ∧ OwnU w' w.heap.size v us := by
  have Hmay := Lib.hid (may_any n w)
  have Hro := Lib.hid (roomy_any A c m wo hm hl hr h)
  have H0 := Lib.hid h
  clear hr hm hl
  by_cases hn : 1 ≤ n ∧ n ≤ 32
  case neg =>
    rw [decide_eq_false hn] at Hmay
    have HN := Lib.hid hn
    clear hn h Hro
    go_enter Try.func10, Try.ntmps10
    go_wp2_with fail
    refine Hmay.out.mono ?_
    rintro e w1 ⟨rfl, rfl⟩
    go_wp2_with fail
    go_ret2
    exact ⟨_, [], 1, g, rfl, .inl ⟨HN.out, rfl, rfl, rfl⟩, H0.out, Kept.refl _ _, OwnU.nil _ _⟩
  rw [decide_eq_true hn] at Hmay
  have HN := Lib.hid hn
  obtain ⟨nn, rfl⟩ : ∃ k : Nat, n = (k : Int) := ⟨n.toNat, by omega⟩
  have hn1 : 1 ≤ nn ∧ nn ≤ 32 := by omega
  have hn32 : (nn : Int) ≤ 32 := by omega
  clear hn h
  go_enter Try.func10, Try.ntmps10
  go_wp2_with fail
  refine Hmay.out.mono ?_
  rintro e w1 ⟨rfl, rfl⟩
  go_wp2_with fail
  refine Hro.out.mono ?_
  rintro e w2 ⟨v, M, rfl, hR⟩
  have HR := Lib.hid hR
  clear hR Hmay Hro
  have hML : M.length ≤ 32 := by
    have h1 := HR.out.perm.length_eq
    have h2 := roomyL_len g Z wo D
    have h3 := H0.out.d2
    omega
  by_cases hlt : M.length < nn
  · obtain ⟨A2, c2, hv⟩ : ∃ A2 c2, v = .slice A2 M.length c2 := by
      rcases HR.out.row with ⟨rfl, A2, c2, hv⟩ | ⟨gb, cp, hv, _⟩
      · exact ⟨A2, c2, hv⟩
      · exact ⟨_, _, hv⟩
    have hlt' : (M.length : Int) < (nn : Int) := by omega
    have Hfin : Hid (Took g D Z nn wo [] 5 g ∧ TabAt w2 tb db mb cap D Z g ∧ Kept (fun x => x ≠ db ∧ x ≠ mb) w1 w2) :=
      ⟨.inr ⟨HN.out, M, HR.out.perm, HR.out.asc, .inl ⟨hlt', rfl, rfl, rfl⟩⟩, H0.out.below HR.out.bel, (Kept.refl _ _).below HR.out.bel⟩
    subst hv
    generalize M.length = ml at *
    clear HR hlt hML
    go_wp2_with fail
    go_ret2
    exact ⟨_, [], 5, g, rfl, Hfin.out.1, Hfin.out.2.1, Hfin.out.2.2, OwnU.nil _ _⟩
  · obtain ⟨gb, cp, hv, hgb, hcp, hrow⟩ : ∃ gb cap, v = .slice (some ⟨gb, 0, none⟩) M.length cap ∧ w1.heap.size ≤ gb ∧ M.length ≤ cap ∧ Row1 eI w2 gb 0 M.toArray := by
      rcases HR.out.row with ⟨rfl, _⟩ | h
      · exfalso; simp at hlt; omega
      · exact h
    have hge : nn ≤ M.length := by omega
    have Hs := Lib.hid (sortInts_any gb cp nn (M.take nn) w2 (by simp; omega) (holds_take hrow.hH hge) hrow.hblk (by omega))
    have Hrow := Lib.hid (And.intro hrow (And.intro hgb hge))
    subst hv
    have hnlt : ¬ (M.length : Int) < (nn : Int) := by omega
    have hncp : (nn : Int) ≤ (cp : Int) := by omega
    have hncp' : nn ≤ cp := by omega
    have HM := Lib.hid hML
    generalize hml : M.length = ml at *
    have Hml := Lib.hid hml
    clear hml hML hlt hrow hgb hge hcp
    go_wp2_with fail
    refine Hs.out.mono ?_
    rintro e w3 ⟨rfl, ys, hp, hpw, hS⟩
    have hmem : ∀ y ∈ ys, ∃ d : Nat, d < D ∧ y = (d : Int) ∧ 0 < cnt (g d) 0 Z := by
      intro y hy
      have h1 : y ∈ M := List.mem_of_mem_take (hp.mem_iff.1 hy)
      obtain ⟨d, h2, h3, h4, _⟩ := (roomyL_mem g Z wo D y).1 (HR.out.perm.mem_iff.1 h1)
      exact ⟨d, h2, h3, h4⟩
    obtain ⟨L, rfl⟩ := natList ys (fun y hy => by obtain ⟨d, _, h, _⟩ := hmem y hy; exact ⟨d, h⟩)
    have hnd : (L.map fun (d : Nat) => (d : Int)).Nodup := by
      have h1 : (roomyL g Z wo D).Nodup := (roomyL_asc g Z wo D).imp fun h => by omega
      have h2 : M.Nodup := HR.out.perm.nodup_iff.2 h1
      exact hp.nodup_iff.2 (h2.sublist (List.take_sublist _ _))
    have hasc : L.Pairwise (· < ·) := by
      have h1 : (L.map fun (d : Nat) => (d : Int)).Pairwise (fun a b => a < b) := by
        refine (hpw.and hnd).imp ?_
        rintro a b ⟨h1, h2⟩
        omega
      exact (List.pairwise_map.1 h1).imp fun h => by omega
    have hLn : L.length = nn := by
      have := hp.length_eq
      simp at this
      have h2 := Hml.out
      omega
    have HL : Hid (∀ k (hk : k < L.length), L[k] < D ∧ 0 < cnt (g L[k]) 0 Z) := fun k hk => by
      obtain ⟨d, h1, h2, h3⟩ := hmem (L[k] : Nat) (List.mem_map.2 ⟨L[k], List.getElem_mem hk, rfl⟩)
      have : L[k] = d := by omega
      rw [this]; exact ⟨h1, h3⟩
    have Hasc := Lib.hid hasc
    have Hperm := Lib.hid hp
    have hb3 : Below w1.heap.size w1 w3 := HR.out.bel.trans ((SW.kept hS).to_below (fun k hk e => by have := Hrow.out.2.1; omega) HR.out.bel.size)
    have Hcell : Hid (∀ k (hk : k < L.length), w3.cell? ⟨gb, k, none⟩ = some (.int .i64 (L[k] : Nat))) := fun k hk => by
      have hh := (hS.holds Hrow.out.1.hblk (holds_take (n := nn) Hrow.out.1.hH (by have := Hml.out; have := Hrow.out.2.2; omega)) (by have := hp.length_eq; simp at this ⊢; omega)) k (by simpa using hk)
      have e : (L.map fun (d : Nat) => (d : Int)).toArray[k]! = (L[k] : Nat) := by
        rw [getElem!_pos _ _ (by simpa using hk)]
        simp
      rw [e, Nat.zero_add] at hh
      exact hh.1
    have hgb3 : gb < w3.heap.size := hS.lt Hrow.out.1.hblk
    have Hst : Hid (TabAt w3 tb db mb cap D Z (takeAll g Z (L.take 0)) ∧ Kept (fun x => x ≠ db ∧ x ≠ mb ∧ x ≠ gb) w1 w3 ∧ OwnU w3 (w3.heap.size) (.slice none 0 0) (tookU g Z (L.take 0)) ∧ Kept (fun x => x ≠ db ∧ x ≠ mb) w3 w3) :=
      ⟨H0.out.below hb3, (Kept.refl _ _).below hb3, OwnU.nil _ _, Kept.refl _ _⟩
    have Hgb : Hid (gb ≠ db ∧ gb ≠ mb ∧ gb < w3.heap.size ∧ w1.heap.size ≤ gb) := ⟨by have := H0.out.dc.lt; have := Hrow.out.2.1; omega, by have := H0.out.mc.lt; have := Hrow.out.2.1; omega, hgb3, Hrow.out.2.1⟩
    have HLn := Lib.hid hLn
    have Htook : Hid (Took g D Z nn wo (tookU g Z L) 0 (takeAll g Z L)) :=
      .inr ⟨HN.out, M, HR.out.perm, HR.out.asc, .inr ⟨by have := Hml.out; have := Hrow.out.2.2; omega, L, by rw [Int.toNat_natCast]; exact hp, hasc, rfl, rfl, rfl⟩⟩
    have Hb3 := Lib.hid hb3
    clear hp hpw hS hmem hnd hasc hLn hb3 hgb3 HR Hs Hrow
    go_wp2_with fail
    go_loopw [9, 29] (fun sv iv wr => ∃ i : Nat, iv = .int .i64 (i : Int) ∧ i ≤ nn ∧ Hid (TabAt wr tb db mb cap D Z (takeAll g Z (L.take i)) ∧ Kept (fun x => x ≠ db ∧ x ≠ mb ∧ x ≠ gb) w1 wr ∧ OwnU wr w3.heap.size sv (tookU g Z (L.take i)) ∧ Kept (fun x => x ≠ db ∧ x ≠ mb) w3 wr)) (fun _ iv _ => nn - (intOf iv).toNat)
    case atStart => exact ⟨0, rfl, Nat.zero_le _, Hst.out⟩
    case round =>
      clear Hst
      obtain ⟨i, rfl, hi, hS⟩ := hrel
      obtain ⟨v, hv⟩ : ∃ v, v = u9 := ⟨_, rfl⟩
      rw [← hv] at hS ⊢
      clear hv
      by_cases hlt : i < nn
      · have hlt' : (i : Int) < (nn : Int) := by omega
        have hiL : i < L.length := by have := HLn.out; omega
        have c0 : wr.cell? ⟨gb, i, none⟩ = some (.int .i64 (L[i] : Nat)) := (World.cell?_of_block (w := w3) (hS.out.2.2.2.block gb Hgb.out.2.2.1 ⟨Hgb.out.1, Hgb.out.2.1⟩)).trans (Hcell.out i hiL)
        have hd := HL.out i hiL
        have hrow : takeAll g Z (L.take i) L[i] = g L[i] := takeAll_row Z L[i] (L.take i) g (fun hm => by
          obtain ⟨k, hk, e⟩ := List.getElem_of_mem hm
          have hk' : k < i := by simp at hk; omega
          rw [List.getElem_take] at e
          have := List.pairwise_iff_getElem.1 Hasc.out k i (by omega) hiL hk'
          omega)
        have Ht := Lib.hid (take_any L[i] hd.1 (by rw [hrow]; exact hd.2) hS.out.1)
        have Hn : Hid (∀ w4 w5 v5, TabAt w4 tb db mb cap D Z (takeU (takeAll g Z (L.take i)) Z L[i]) → Kept (fun x => x ≠ db ∧ x ≠ mb) wr w4 → OwnU w5 w3.heap.size v5 (tookU g Z (L.take i) ++ [((L[i] : Int), ((low (takeAll g Z (L.take i) L[i]) Z : Nat) : Int))]) → (w4.alloc (.cells #[.int .i64 (L[i] : Nat), .int .i64 (low (takeAll g Z (L.take i) L[i]) Z : Nat)] 24)).grownBy w5 v.ownBlock →
            TabAt w5 tb db mb cap D Z (takeAll g Z (L.take (i + 1))) ∧ Kept (fun x => x ≠ db ∧ x ≠ mb ∧ x ≠ gb) w1 w5 ∧ OwnU w5 w3.heap.size v5 (tookU g Z (L.take (i + 1))) ∧ Kept (fun x => x ≠ db ∧ x ≠ mb) w3 w5) := by
          intro w4 w5 v5 h1 h2 h3 h4
          have e1 : L.take (i + 1) = L.take i ++ [L[i]] := by rw [List.take_add_one, List.getElem?_eq_getElem hiL]; rfl
          have e2 : takeAll g Z (L.take (i + 1)) = takeU (takeAll g Z (L.take i)) Z L[i] := by rw [e1, takeAll_snoc]
          have e3 : tookU g Z (L.take (i + 1)) = tookU g Z (L.take i) ++ [((L[i] : Int), ((low (takeAll g Z (L.take i) L[i]) Z : Nat) : Int))] := by
            rw [e1, hrow]
            unfold tookU
            rw [List.map_append]
            rfl
          have hge : ∀ k, v.ownBlock = some k → w3.heap.size ≤ k := fun k hk => (hS.out.2.2.1.ge k hk).1
          have hw3 : db < w3.heap.size ∧ mb < w3.heap.size ∧ tb < w3.heap.size := by
            have := H0.out.dc.lt
            have := H0.out.mc.lt
            have := H0.out.tc.lt
            have := Hb3.out.size
            omega
          have hb : Below w3.heap.size (w4.alloc (.cells #[.int .i64 (L[i] : Nat), .int .i64 (low (takeAll g Z (L.take i) L[i]) Z : Nat)] 24)) w5 := (Below.refl _ _).grown h4 (by have := hS.out.2.2.2.size; have := h2.size; simp; omega) (fun k hk => hge k hk)
          have k34 : Kept (fun x => x ≠ db ∧ x ≠ mb) w3 (w4.alloc (.cells #[.int .i64 (L[i] : Nat), .int .i64 (low (takeAll g Z (L.take i) L[i]) Z : Nat)] 24)) := (hS.out.2.2.2.trans h2).alloc _
          have k35 : Kept (fun x => x ≠ db ∧ x ≠ mb) w3 w5 := ⟨hb.os.trans k34.os, hb.tape.trans k34.tape, hb.output.trans k34.output, Nat.le_trans k34.size hb.size, fun b hb' q => (hb.block b hb').trans (k34.block b hb' q)⟩
          refine ⟨?_, ?_, by rw [e3]; exact h3, k35⟩
          · rw [e2]
            have ha := h1.alloc (.cells #[.int .i64 (L[i] : Nat), .int .i64 (low (takeAll g Z (L.take i) L[i]) Z : Nat)] 24)
            exact ha.move (hb.block _ hw3.2.2) (hb.block _ hw3.1) (hb.block _ hw3.2.1)
          · have k13 : Kept (fun x => x ≠ db ∧ x ≠ mb ∧ x ≠ gb) w1 w3 := (Kept.refl _ _).below Hb3.out
            exact k13.trans (k35.mono fun b _ q => ⟨q.1, q.2.1⟩)
        have Hsz : Hid ((tookU g Z (L.take i)).length ≤ 32 ∧ w3.heap.size ≤ wr.heap.size ∧ OwnU wr w3.heap.size v (tookU g Z (L.take i)) ∧ (∀ k, v.ownBlock = some k → k ≠ db ∧ k ≠ mb)) := by
          refine ⟨by unfold tookU; simp; omega, hS.out.2.2.2.size, hS.out.2.2.1, fun k hk => ?_⟩
          have h1 := (hS.out.2.2.1.ge k hk).1
          have := H0.out.dc.lt
          have := H0.out.mc.lt
          have := Hb3.out.size
          omega
        generalize L[i] = d at *
        generalize low (takeAll g Z (L.take i) d) Z = lw at *
        clear hS hlt hiL hd hrow
        go_wp2_with fail
        refine Ht.out.mono ?_
        rintro e w4 ⟨rfl, ht4, hk4⟩
        have Ht4 := Lib.hid ht4
        have Hk4 := Lib.hid hk4
        clear ht4 hk4 Ht c0
        unfold uV
        go_wp2_with (at_builtin; go_must (refine app_unit rfl (.tmp 33) (.tmp 37) rfl rfl (OwnU.alloc (Hsz.out.2.2.1.move (fun k hk => Hk4.out.block k (Hsz.out.2.2.1.ge k hk).2 (Hsz.out.2.2.2 k hk))) _) w4.heap.size 1 (d : Int) (lw : Int) rfl ((Cells.new w4 _ _).cell rfl) ((Cells.new w4 _ _).cell rfl) (by have := Hsz.out.1; omega) (by have := Hsz.out.2.1; have := Hk4.out.size; simp; omega) ?_); intro v5 w5 ho5 hg5 _; have H5 := Lib.hid (Hn.out w4 w5 v5 Ht4.out Hk4.out ho5 hg5); clear ho5 hg5 Hn)
        go_roundw
        case rel => exact ⟨i + 1, by go_num, by omega, H5.out⟩
        case measure => simp [intOf]; omega
      · obtain rfl : i = nn := by omega
        have Hfin : Hid (TabAt wr tb db mb cap D Z (takeAll g Z L) ∧ Kept (fun x => x ≠ db ∧ x ≠ mb) w1 wr ∧ OwnU wr w1.heap.size v (tookU g Z L)) := by
          have h := hS.out
          rw [List.take_of_length_le (by have := HLn.out; omega)] at h
          exact ⟨h.1, h.2.1.mono (fun b hb q => ⟨q.1, q.2, by have := Hgb.out.2.2.2; omega⟩), h.2.2.1.wide Hb3.out.size⟩
        clear hS hlt
        go_wp2_with fail
        go_ret2
        exact ⟨_, _, _, _, rfl, Htook.out, Hfin.out.1, Hfin.out.2.1, Hfin.out.2.2⟩
end
end Go.Proofs.Ytffmipmkbbholaa
