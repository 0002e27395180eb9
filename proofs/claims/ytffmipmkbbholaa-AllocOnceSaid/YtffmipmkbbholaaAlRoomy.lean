/-
  roomy: the drives that have a free unit and are not left out, those that have the most ahead.
-/
import Derived.Test.YtffmipmkbbholaaAlCmp
namespace Go.Proofs.Ytffmipmkbbholaa
open Go.RowKit Go.Maps Go.Shelf Go.Lib Go.Sort

/-- those of the first i drives that have a free unit and are not left out -/
def roomyL (g : St) (Z : Nat) (wo : List Int) : Nat → List Int
  | 0 => []
  | i + 1 => if 0 < cnt (g i) 0 Z ∧ (i : Int) ∉ wo then roomyL g Z wo i ++ [(i : Int)] else roomyL g Z wo i
theorem roomyL_mem (g : St) (Z : Nat) (wo : List Int) : ∀ (i : Nat) (x : Int), x ∈ roomyL g Z wo i ↔ ∃ d : Nat, d < i ∧ x = (d : Int) ∧ 0 < cnt (g d) 0 Z ∧ (d : Int) ∉ wo
  | 0, x => by simp [roomyL]
  | i + 1, x => by
    unfold roomyL
    constructor
    · intro h
      by_cases q : 0 < cnt (g i) 0 Z ∧ (i : Int) ∉ wo
      · rw [if_pos q] at h
        rcases List.mem_append.1 h with h | h
        · obtain ⟨d, h1, h2⟩ := (roomyL_mem g Z wo i x).1 h
          exact ⟨d, by omega, h2⟩
        · exact ⟨i, by omega, by simpa using h, q⟩
      · rw [if_neg q] at h
        obtain ⟨d, h1, h2⟩ := (roomyL_mem g Z wo i x).1 h
        exact ⟨d, by omega, h2⟩
    · rintro ⟨d, h1, rfl, h2⟩
      by_cases e : d = i
      · subst e
        rw [if_pos h2]
        simp
      · have := (roomyL_mem g Z wo i d).2 ⟨d, by omega, rfl, h2⟩
        split
        · exact List.mem_append_left _ this
        · exact this
theorem roomyL_asc (g : St) (Z : Nat) (wo : List Int) : ∀ i, (roomyL g Z wo i).Pairwise (· < ·)
  | 0 => by simp [roomyL]
  | i + 1 => by
    unfold roomyL
    split
    · refine List.pairwise_append.2 ⟨roomyL_asc g Z wo i, by simp, fun x hx y hy => ?_⟩
      obtain ⟨d, h1, rfl, _⟩ := (roomyL_mem g Z wo i x).1 hx
      simp at hy
      omega
    · exact roomyL_asc g Z wo i
theorem roomyL_len (g : St) (Z : Nat) (wo : List Int) : ∀ i, (roomyL g Z wo i).length ≤ i
  | 0 => by simp [roomyL]
  | i + 1 => by
    have := roomyL_len g Z wo i
    unfold roomyL
    split
    · simp; omega
    · omega
def intsA (l : List Int) : List Value := l.map (Value.int .i64)
theorem info_int : (Try.prog.info? 3).map (fun i => (i.zero, i.size, i.bytes)) = some (some (.int .i64 0), 1, 8) := by kernel_rfl
structure RoomSt (w wr : World) (tb : Nat) (v : Value) (l : List Int) : Prop where
  own : OwnV wr (w.heap.size + 1) 3 v (intsA l)
  bel : Below w.heap.size w wr
  box : wr.cell? ⟨w.heap.size, 0, none⟩ = some (.pointer (some ⟨tb, 0, none⟩))
theorem RoomSt.put {w wr w' : World} {tb : Nat} {v v' : Value} {l : List Int} {x : Int} (h : RoomSt w wr tb v l) (ho : OwnV w' (w.heap.size + 1) 3 v' (intsA l ++ [.int .i64 x])) (hg : wr.grownBy w' v.ownBlock) : RoomSt w w' tb v' (l ++ [x]) := by
  refine ⟨by unfold intsA; rw [List.map_append]; exact ho, h.bel.grown hg h.bel.size (fun k hk => by have := (h.own.ge k hk).1; omega), ?_⟩
  have hlt : w.heap.size < wr.heap.size := World.block_lt_of_cell? _ _ h.box
  refine (World.cell?_of_block (w := wr) (hg.block w.heap.size hlt (fun e => ?_))).trans h.box
  have := (h.own.ge w.heap.size e.symm).1
  omega
theorem RoomSt.alloc {w wr : World} {tb : Nat} {v : Value} {l : List Int} (h : RoomSt w wr tb v l) (o : Obj) : RoomSt w (wr.alloc o) tb v l :=
  ⟨h.own.alloc o, h.bel.alloc h.bel.size o, (World.cell?_alloc_lt wr _ _ (World.block_lt_of_cell? _ _ h.box)).trans h.box⟩
/-- what roomy answers -/
structure Roomy (w w' : World) (g : St) (D Z : Nat) (wo : List Int) (v : Value) (M : List Int) : Prop where
  perm : M.Perm (roomyL g Z wo D)
  asc : Asc (frF g D Z) M
  bel : Below w.heap.size w w'
  row : (M = [] ∧ ∃ A c, v = .slice A 0 c) ∨ ∃ gb cap, v = .slice (some ⟨gb, 0, none⟩) M.length cap ∧ w.heap.size ≤ gb ∧ M.length ≤ cap ∧ Row1 eI w' gb 0 M.toArray

theorem SW.kept {w0 W : World} {blk off : Nat} {d : Array Int} (h : SW eI w0 blk off d W) : Kept (fun x => x ≠ blk) w0 W := by
  have hle := h.le
  obtain ⟨n, os, rfl⟩ := h
  exact ⟨rfl, rfl, rfl, hle, fun k hk hne => sortWorld_block hk hne⟩
theorem holds_own {w : World} {base : Nat} {v : Value} {l : List Int} (h : OwnV w base 3 v (intsA l)) (h0 : l ≠ []) : ∃ gb cap, v = .slice (some ⟨gb, 0, none⟩) l.length cap ∧ base ≤ gb ∧ l.length ≤ cap ∧ Row1 eI w gb 0 l.toArray := by
  rcases h.form with ⟨_, h2⟩ | ⟨gb, cap, cur, hv, hb, hc, hn, hm, hl, ht⟩
  · exact absurd (by simpa [intsA] using h2) h0
  · have hlen : (intsA l).length = l.length := by simp [intsA]
    refine ⟨gb, cap, by rw [hv, hlen], hb, by omega, eI_one, fun j hj => ?_, hc.lt⟩
    have hj' : j < l.length := by simpa using hj
    refine ⟨hc.cell ?_, hc.frozen _⟩
    rw [Nat.zero_add]
    have e : (List.take (intsA l).length cur)[j]? = some (eI (l[j]'hj')) := by rw [ht]; simp [intsA, hj']
    rw [List.getElem?_take, if_pos (by omega)] at e
    rw [e, getElem!_pos l.toArray j hj]
    simp
section
set_option maxRecDepth 100000
set_option maxHeartbeats 4000000
variable {w : World} {tb db mb cap D Z : Nat} {g : St}
theorem roomy_any (A : Option Addr) (c n : Nat) (wo : List Int) (hn : n = wo.length) (hl : n ≤ 1099511627776) (hr : RI w w.heap.size A wo) (h : TabAt w tb db mb cap D Z g) :
    Calls Try.prog 30 #[.pointer (some ⟨tb, 0, none⟩), .slice A n c] w fun e w' => ∃ v M, e = .returned v ∧ Roomy w w' g D Z wo v M := by
  have H0 := Lib.hid h
  have t1 : ∀ o, (w.alloc o).cell? ⟨tb, 1, none⟩ = some (.slice (some ⟨db, 0, none⟩) D cap) := fun o => (h.alloc o).t1
  have Hfr : Hid (∀ wr i, Below w.heap.size w wr → i < D → Calls Try.prog 22 #[.pointer (some ⟨tb, 0, none⟩), .int .i64 (i : Int)] wr fun e w' => e = .returned (.int .i64 (cnt (g i) 0 Z : Nat)) ∧ w' = wr) := by
    intro wr i hb hi
    have := freeOn_any (i : Int) (h.below hb)
    rw [freeOn_nat g hi] at this
    exact this
  have Hct : Hid (∀ wr x, Below w.heap.size w wr → Calls Try.prog 46 #[.slice A n c, .int .i64 x] wr fun e w' => e = .returned (.bool (decide (x ∈ wo))) ∧ w' = wr) :=
    fun wr x hb => contains_int A c n wo x hn hl ((hr.below hb).move (fun _ _ => rfl) hb.size)
  have hD2 : (D : Int) ≤ 32 := by have := h.d2; omega
  have Hst : Hid (RoomSt w (w.alloc (.cells #[.pointer (some ⟨tb, 0, none⟩)] 27)) tb (.slice none 0 0) (roomyL g Z wo 0)) :=
    ⟨OwnV.nil _ _ _, (Below.refl _ _).alloc (Nat.le_refl _) _, cell_new _ _ _⟩
  clear h hr hn hl
  go_enter Try.func30, Try.ntmps30
  go_wp2_with fail
  go_loopw [5, 12] (fun sv iv wr => ∃ (i : Nat), iv = .int .i64 (i : Int) ∧ i ≤ D ∧ Hid (RoomSt w wr tb sv (roomyL g Z wo i))) (fun _ iv _ => D - (intOf iv).toNat)
  case atStart => exact ⟨0, rfl, Nat.zero_le _, Hst.out⟩
  case round =>
    clear t1 Hst
    obtain ⟨i, rfl, hi, hS⟩ := hrel
    obtain ⟨v, hv⟩ : ∃ v, v = u5 := ⟨_, rfl⟩
    rw [← hv] at hS ⊢
    clear hv
    have bx := hS.out.box
    by_cases hlt : i < D
    · have hlt' : (i : Int) < (D : Int) := by omega
      have Hf := Lib.hid (Hfr.out wr i hS.out.bel hlt)
      have Hc := Lib.hid (Hct.out wr (i : Int) hS.out.bel)
      have Hlen : Hid ((intsA (roomyL g Z wo i)).length ≤ 32) := by
        have := roomyL_len g Z wo i
        show _ ≤ _
        simp [intsA]; omega
      by_cases hf : 0 < cnt (g i) 0 Z
      · have hf' : (0 : Int) < ((cnt (g i) 0 Z : Nat) : Int) := by omega
        by_cases hm : (i : Int) ∈ wo
        · rw [decide_eq_true hm] at Hc
          have Hn : Hid (RoomSt w wr tb v (roomyL g Z wo (i + 1))) := by
            show RoomSt w wr tb v (if _ then _ else _)
            rw [if_neg (fun q => q.2 hm)]
            exact hS.out
          generalize cnt (g i) 0 Z = N at *
          clear hS hm hf hlt
          go_wp2_with fail
          refine Hf.out.mono ?_
          rintro e w1 ⟨rfl, rfl⟩
          go_wp2_with fail
          refine Hc.out.mono ?_
          rintro e w1 ⟨rfl, rfl⟩
          clear Hf Hc
          go_wp2_with fail
          go_roundw
          case rel => exact ⟨i + 1, by go_num, by omega, Hn.out⟩
          case measure => simp [intOf]; omega
        · rw [decide_eq_false hm] at Hc
          have Hn : Hid (∀ w' v', OwnV w' (w.heap.size + 1) 3 v' (intsA (roomyL g Z wo i) ++ [.int .i64 (i : Int)]) → (wr.alloc (.cells #[.int .i64 (i : Int)] 3)).grownBy w' v.ownBlock → RoomSt w w' tb v' (roomyL g Z wo (i + 1))) := by
            intro w' v' ho hg
            show RoomSt w w' tb v' (if _ then _ else _)
            rw [if_pos ⟨hf, hm⟩]
            exact (hS.out.alloc _).put ho hg
          generalize cnt (g i) 0 Z = N at *
          have HS := Lib.hid hS.out
          clear hS hm hf hlt
          go_wp2_with fail
          refine Hf.out.mono ?_
          rintro e w1 ⟨rfl, rfl⟩
          go_wp2_with fail
          refine Hc.out.mono ?_
          rintro e w1 ⟨rfl, rfl⟩
          clear Hf Hc
          go_wp2_with (at_builtin; go_must (refine app_one rfl (.tmp 25) (.tmp 27) 34 3 rfl Try.underlying34 _ 8 info_int rfl (w.heap.size + 1) _ _ rfl (OwnV.alloc HS.out.own _) ⟨w1.heap.size, 0, none⟩ 1 (.int .i64 (i : Int)) rfl (cell_new _ _ _) rfl (by have := Hlen.out; omega) (by have := Hlen.out; omega) (by have := HS.out.bel.size; have := World.block_lt_of_cell? _ _ HS.out.box; simp; omega) ?_); intro v9 W9 hown9 hg9 hn9; have Hn2 := Lib.hid (Hn.out W9 v9 hown9 hg9); clear hown9 hg9 hn9 HS Hn)
          go_roundw
          case rel => exact ⟨i + 1, by go_num, by omega, Hn2.out⟩
          case measure => simp [intOf]; omega
      · have hf' : ¬ (0 : Int) < ((cnt (g i) 0 Z : Nat) : Int) := by omega
        have Hn : Hid (RoomSt w wr tb v (roomyL g Z wo (i + 1))) := by
          show RoomSt w wr tb v (if _ then _ else _)
          rw [if_neg (fun q => hf q.1)]
          exact hS.out
        generalize cnt (g i) 0 Z = N at *
        clear hS hf hlt Hc
        go_wp2_with fail
        refine Hf.out.mono ?_
        rintro e w1 ⟨rfl, rfl⟩
        clear Hf
        go_wp2_with fail
        go_roundw
        case rel => exact ⟨i + 1, by go_num, by omega, Hn.out⟩
        case measure => simp [intOf]; omega
    · obtain rfl : i = D := by omega
      have HS := Lib.hid hS.out
      by_cases h0 : roomyL g Z wo i = []
      · have hv : v = .slice none 0 0 ∨ ∃ gb cap', v = .slice (some ⟨gb, 0, none⟩) 0 cap' := by
          have := hS.out.own
          rw [h0] at this
          rcases this.form with ⟨hv, _⟩ | ⟨gb, cap', cur, hv, hb, hc, hn', hm, hl', ht⟩
          · exact .inl hv
          · exact .inr ⟨gb, cap', hv⟩
        obtain ⟨A', c', hv2⟩ : ∃ A' c', v = .slice A' 0 c' := by
          rcases hv with rfl | ⟨gb, cap', rfl⟩
          · exact ⟨_, _, rfl⟩
          · exact ⟨_, _, rfl⟩
        have Hr : Hid (Roomy w wr g i Z wo v []) := ⟨by rw [h0], List.Pairwise.nil, HS.out.bel, .inl ⟨rfl, A', c', hv2⟩⟩
        have Hsn := Lib.hid (sortStable_none wr A' c' (.func (.func 48) #[] #[.pointer (some ⟨w.heap.size, 0, none⟩)]))
        subst hv2
        clear hS hv h0 hlt Hfr Hct
        go_wp2_with fail
        refine Hsn.out.mono ?_
        rintro e w1 ⟨rfl, rfl⟩
        go_wp2_with fail
        go_ret
        exact ⟨_, [], rfl, Hr.out⟩
      · obtain ⟨gb, cp, rfl, hgb, hcp, hrow⟩ := holds_own hS.out.own h0
        have hne : ∀ k, k < w.heap.size + 1 → k ≠ gb := fun k hk e => by omega
        have ht := H0.out.below hS.out.bel
        have hcmp := roomyCmp_lays w.heap.size gb 0 (roomyL g Z wo i).toArray.size ht hS.out.box (hne _ (by have := H0.out.tc.lt; omega)) (hne _ (by have := H0.out.dc.lt; omega)) (hne _ (by have := H0.out.mc.lt; omega)) (hne _ (by omega))
        have Hsn := Lib.hid (sortStable_any wr gb 0 cp (roomyL g Z wo i).length 48 #[.pointer (some ⟨w.heap.size, 0, none⟩)] (roomyL g Z wo i) hrow rfl (by have := roomyL_len g Z wo i; omega) (fun args w => rfl) hcmp (roomyL_asc g Z wo i))
        have Hfin : Hid (∀ w1 M, M.Perm (roomyL g Z wo i) → Asc (frF g i Z) M → SW eI wr gb 0 M.toArray w1 → Roomy w w1 g i Z wo (.slice (some ⟨gb, 0, none⟩) (roomyL g Z wo i).length cp) M) := by
          intro w1 M hM hA hW
          have hlen := hM.length_eq
          have hb : Below w.heap.size w w1 := hS.out.bel.trans ((SW.kept hW).to_below (fun k hk e => by omega) hS.out.bel.size)
          refine ⟨hM, hA, hb, .inr ⟨gb, cp, by rw [hlen], by omega, by omega, eI_one, hW.holds hrow.hblk hrow.hH (by simp [hlen]), hW.lt hrow.hblk⟩⟩
        generalize (roomyL g Z wo i).length = N at *
        clear hS hne ht hcmp hrow hgb hcp h0 hlt Hfr Hct
        go_wp2_with fail
        refine Hsn.out.mono ?_
        rintro e w1 ⟨rfl, M, h1, h2, h3⟩
        have Hr := Lib.hid (Hfin.out w1 M h1 h2 h3)
        clear h1 h2 h3 Hsn Hfin
        go_wp2_with fail
        go_ret
        exact ⟨_, M, rfl, Hr.out⟩
end
end Go.Proofs.Ytffmipmkbbholaa
