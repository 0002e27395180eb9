/-
  cmp.Compare, slices.Index and Contains of ints; the drives' order (roomy's closure).
-/
import Derived.Test.YtajpnjapfiffmaaKAlStable
import Derived.Test.YtajpnjapfiffmaaAlNew
namespace Go.Proofs.Ytajpnjapfiffmaa
open Go.RowKit Go.Maps Go.Shelf Go.Lib Go.Sort

section
set_option maxRecDepth 100000
set_option maxHeartbeats 4000000
variable {w : World} {tb db mb cap D Z : Nat} {g : St}
theorem isNaN_any (a : Int) (w : World) : Calls Try.prog 59 #[.int .i64 a] w fun e w' => e = .returned (.bool false) ∧ w' = w := by
  go_enter Try.func59, Try.ntmps59
  go_wp2_with fail
  go_ret
  exact ⟨by simp, rfl⟩
theorem compare_any (a b : Int) (w : World) : Calls Try.prog 49 #[.int .i64 a, .int .i64 b] w fun e w' => e = .returned (.int .i64 (cmpI a b)) ∧ w' = w := by
  have Hn := Lib.hid fun a => isNaN_any a w
  rcases Int.lt_trichotomy a b with h | h | h
  · rw [show cmpI a b = -1 from if_pos h]
    go_enter Try.func49, Try.ntmps49
    go_wp2_with fail
    refine (Hn.out _).mono ?_
    rintro e w1 ⟨rfl, rfl⟩
    go_wp2_with fail
    refine (Hn.out _).mono ?_
    rintro e w1 ⟨rfl, rfl⟩
    go_wp2_with fail
    go_ret
    exact ⟨rfl, rfl⟩
  · subst h
    rw [show cmpI a a = 0 from by unfold cmpI; rw [if_neg (by omega), if_neg (by omega)]]
    go_enter Try.func49, Try.ntmps49
    go_wp2_with fail
    refine (Hn.out _).mono ?_
    rintro e w1 ⟨rfl, rfl⟩
    go_wp2_with fail
    refine (Hn.out _).mono ?_
    rintro e w1 ⟨rfl, rfl⟩
    go_wp2_with fail
    go_ret
    exact ⟨rfl, rfl⟩
  · have h' : ¬ a < b := by omega
    rw [show cmpI a b = 1 from by unfold cmpI; rw [if_neg (by omega), if_pos h]]
    go_enter Try.func49, Try.ntmps49
    go_wp2_with fail
    refine (Hn.out _).mono ?_
    rintro e w1 ⟨rfl, rfl⟩
    go_wp2_with fail
    refine (Hn.out _).mono ?_
    rintro e w1 ⟨rfl, rfl⟩
    go_wp2_with fail
    go_ret
    exact ⟨rfl, rfl⟩
theorem RI.flatAt {A : Option Addr} {B : Nat} {l : List Int} (h : RI w B A l) {k : Nat} (hk : k < l.length) : ∃ b o, A = some ⟨b, o, none⟩ ∧ b < B ∧ w.cell? ⟨b, o + k, none⟩ = some (.int .i64 (l[k])) := by
  obtain ⟨b, o, rfl, hb⟩ := h.flat (by omega)
  exact ⟨b, o, rfl, hb, h.at_ hk⟩
theorem index_int (A : Option Addr) (c n : Nat) (us : List Int) (x : Int) (hn : n = us.length) (hl : n ≤ 1099511627776) (hr : RI w w.heap.size A us) :
    Calls Try.prog 57 #[.slice A n c, .int .i64 x] w fun e w' => (∃ i : Int, e = .returned (.int .i64 i) ∧ (0 ≤ i ↔ x ∈ us)) ∧ w' = w := by
  have Hr := Lib.hid hr
  have Hn := Lib.hid hn
  have hl' : (n : Int) ≤ 1099511627776 := by omega
  clear hr hn
  go_enter Try.func57, Try.ntmps57
  go_wp2_with fail
  go_loopw [8] (fun iv wr => wr = w ∧ ∃ i : Nat, iv = .int .i64 (i : Int) ∧ i ≤ n ∧ Hid (x ∉ us.take i)) (fun iv _ => n - (intOf iv).toNat)
  case atStart => exact ⟨rfl, 0, rfl, Nat.zero_le _, (show x ∉ us.take 0 from by simp)⟩
  case round =>
    obtain ⟨rfl, i, rfl, hi, hno⟩ := hrel
    by_cases hlt : i < n
    · have hiu : i < us.length := by rw [← Hn.out]; exact hlt
      obtain ⟨b, o, rfl, hb, c0⟩ := Hr.out.flatAt hiu
      have hlt' : (i : Int) < (n : Int) := by omega
      have Hyes : Hid (x = us[i] → x ∈ us) := fun e => e ▸ List.getElem_mem _
      have Hnot : Hid (¬ x = us[i] → x ∉ us.take (i + 1)) := fun e => by
        rw [List.take_add_one, List.getElem?_eq_getElem hiu]
        simp only [Option.toList_some, List.mem_append, List.mem_singleton, not_or]
        exact ⟨hno.out, e⟩
      generalize us[i] = y at *
      clear hno hb hiu hlt
      by_cases hxy : x = y
      · have Hy := Lib.hid (Hyes.out hxy)
        clear Hyes Hnot
        go_wp2_with fail
        go_ret
        exact ⟨⟨i, rfl, ⟨fun _ => Hy.out, fun _ => by omega⟩⟩, rfl⟩
      · have Hn2 := Lib.hid (Hnot.out hxy)
        clear Hyes Hnot
        go_wp2_with fail
        go_roundw
        case rel => exact ⟨by trivial, i + 1, by go_num, by omega, Hn2.out⟩
        case measure => simp [intOf]; omega
    · obtain rfl : i = n := by omega
      have Hno : Hid (x ∉ us) := by
        have := hno.out
        rw [Hn.out, List.take_of_length_le (Nat.le_refl _)] at this
        exact this
      clear hno hlt
      go_wp2_with fail
      go_ret
      exact ⟨⟨-1, rfl, ⟨fun h => by omega, fun h => absurd h Hno.out⟩⟩, rfl⟩
theorem contains_int (A : Option Addr) (c n : Nat) (us : List Int) (x : Int) (hn : n = us.length) (hl : n ≤ 1099511627776) (hr : RI w w.heap.size A us) :
    Calls Try.prog 46 #[.slice A n c, .int .i64 x] w fun e w' => e = .returned (.bool (decide (x ∈ us))) ∧ w' = w := by
  have Hi := Lib.hid (index_int A c n us x hn hl hr)
  clear hr hn hl
  go_enter Try.func46, Try.ntmps46
  go_wp2_with fail
  refine Hi.out.mono ?_
  rintro e w1 ⟨⟨i, rfl, hiff⟩, rfl⟩
  have Hiff := Lib.hid hiff
  clear hiff Hi
  go_wp2_with fail
  go_ret
  refine ⟨?_, rfl⟩
  by_cases q : 0 ≤ i
  · rw [decide_eq_true (Hiff.out.1 q)]; simp [q]
  · rw [decide_eq_false (fun h => q (Hiff.out.2 h))]; simp [q]

/-- how many a drive has -/
def frF (g : St) (D Z : Nat) : Int → Nat := fun x => freeOn g D Z x
theorem roomyCmp_any (bx : Nat) (x y : Int) (h : TabAt w tb db mb cap D Z g) (hb : w.cell? ⟨bx, 0, none⟩ = some (.pointer (some ⟨tb, 0, none⟩))) :
    Calls Try.prog 48 #[.int .i64 x, .int .i64 y, .pointer (some ⟨bx, 0, none⟩)] w fun e w' => e = .returned (.int .i64 (cfF (frF g D Z) x y)) ∧ ∃ q, w' = w.drewN q := by
  have Hf := Lib.hid fun q z => freeOn_any z (h.drewN q)
  have Hc := Lib.hid fun (a b : Int) w => compare_any a b w
  rw [show cfF (frF g D Z) x y = cmpI (freeOn g D Z y : Nat) (freeOn g D Z x : Nat) from rfl]
  clear h
  go_enter Try.func48, Try.ntmps48
  go_wp2_with fail
  go_quiet (first | (go_at_call 22; exact Calls.quiet_of_same (Hf.out _ _)) | (go_at_call 49; exact Calls.quiet_of_same (Hc.out _ _ _)))
  go_wp2_with fail
  go_ret
  exact ⟨rfl, _, rfl⟩
theorem sortWorld_block {blk off m k : Nat} {dk : Array Int} {os : Array Obj} (hk : k < w.heap.size) (hne : k ≠ blk) : (sortWorld eI w blk off m dk os).heap[k]? = w.heap[k]? := by
  unfold sortWorld putRow mapBlock grow Sort.ahead
  simp only []
  rw [Array.getElem?_append_left (by simpa using hk), Array.getElem?_modify]
  rw [if_neg (fun e => hne e.symm)]
theorem roomyCmp_lays (bx blk off size : Nat) (h : TabAt w tb db mb cap D Z g) (hb : w.cell? ⟨bx, 0, none⟩ = some (.pointer (some ⟨tb, 0, none⟩))) (h1 : tb ≠ blk) (h2 : db ≠ blk) (h3 : mb ≠ blk) (h4 : bx ≠ blk) :
    CmpLays1 Try.prog 48 #[.pointer (some ⟨bx, 0, none⟩)] eI (cfF (frF g D Z)) blk off size w := by
  intro m os dk hs x y
  have ht := h.move (w' := sortWorld eI w blk off m dk os) (sortWorld_block h.tc.lt h1) (sortWorld_block h.dc.lt h2) (sortWorld_block h.mc.lt h3)
  have hbl : bx < w.heap.size := World.block_lt_of_cell? _ _ hb
  have hb' : (sortWorld eI w blk off m dk os).cell? ⟨bx, 0, none⟩ = some (.pointer (some ⟨tb, 0, none⟩)) := (World.cell?_of_block (w := w) (sortWorld_block hbl h4)).trans hb
  refine (roomyCmp_any bx x y ht hb').mono ?_
  rintro e w' ⟨he, q, hq⟩
  exact ⟨he, q, #[], by rw [hq, grow_empty]⟩
end
end Go.Proofs.Ytajpnjapfiffmaa

/-
  roomy: the drives that have a free unit and are not left out, those that have the most ahead.
-/
namespace Go.Proofs.Ytajpnjapfiffmaa
open Go.RowKit Go.Maps Go.Shelf Go.Lib Go.Sort

/-- those of the first i drives that have a free unit and are not left out -/
def roomyL (g : St) (Z : Nat) (wo : List Int) : Nat → List Int
  | 0 => []
  | i + 1 => if 0 < cnt (g i) 0 Z ∧ (i : Int) ∉ wo then roomyL g Z wo i ++ [(i : Int)] else roomyL g Z wo i
theorem roomyL_mem (g : St) (Z : Nat) (wo : List Int) : ∀ (i : Nat) (x : Int), x ∈ roomyL g Z wo i ↔ ∃ d : Nat, d < i ∧ x = (d : Int) ∧ 0 < cnt (g d) 0 Z ∧ (d : Int) ∉ wo
  | 0, x => by simp [roomyL]
  | i + 1, x => by
    unfold roomyL
    constructor
    · intro h
      by_cases q : 0 < cnt (g i) 0 Z ∧ (i : Int) ∉ wo
      · rw [if_pos q] at h
        rcases List.mem_append.1 h with h | h
        · obtain ⟨d, h1, h2⟩ := (roomyL_mem g Z wo i x).1 h
          exact ⟨d, by omega, h2⟩
        · exact ⟨i, by omega, by simpa using h, q⟩
      · rw [if_neg q] at h
        obtain ⟨d, h1, h2⟩ := (roomyL_mem g Z wo i x).1 h
        exact ⟨d, by omega, h2⟩
    · rintro ⟨d, h1, rfl, h2⟩
      by_cases e : d = i
      · subst e
        rw [if_pos h2]
        simp
      · have := (roomyL_mem g Z wo i d).2 ⟨d, by omega, rfl, h2⟩
        split
        · exact List.mem_append_left _ this
        · exact this
theorem roomyL_asc (g : St) (Z : Nat) (wo : List Int) : ∀ i, (roomyL g Z wo i).Pairwise (· < ·)
  | 0 => by simp [roomyL]
  | i + 1 => by
    unfold roomyL
    split
    · refine List.pairwise_append.2 ⟨roomyL_asc g Z wo i, by simp, fun x hx y hy => ?_⟩
      obtain ⟨d, h1, rfl, _⟩ := (roomyL_mem g Z wo i x).1 hx
      simp at hy
      omega
    · exact roomyL_asc g Z wo i
theorem roomyL_len (g : St) (Z : Nat) (wo : List Int) : ∀ i, (roomyL g Z wo i).length ≤ i
  | 0 => by simp [roomyL]
  | i + 1 => by
    have := roomyL_len g Z wo i
    unfold roomyL
    split
    · simp; omega
    · omega
def intsA (l : List Int) : List Value := l.map (Value.int .i64)
theorem info_int : (Try.prog.info? 3).map (fun i => (i.zero, i.size, i.bytes)) = some (some (.int .i64 0), 1, 8) := by kernel_rfl
structure RoomSt (w wr : World) (tb : Nat) (v : Value) (l : List Int) : Prop where
  own : OwnV wr (w.heap.size + 1) 3 v (intsA l)
  bel : Below w.heap.size w wr
  box : wr.cell? ⟨w.heap.size, 0, none⟩ = some (.pointer (some ⟨tb, 0, none⟩))
theorem RoomSt.put {w wr w' : World} {tb : Nat} {v v' : Value} {l : List Int} {x : Int} (h : RoomSt w wr tb v l) (ho : OwnV w' (w.heap.size + 1) 3 v' (intsA l ++ [.int .i64 x])) (hg : wr.grownBy w' v.ownBlock) : RoomSt w w' tb v' (l ++ [x]) := by
  refine ⟨by unfold intsA; rw [List.map_append]; exact ho, h.bel.grown hg h.bel.size (fun k hk => by have := (h.own.ge k hk).1; omega), ?_⟩
  have hlt : w.heap.size < wr.heap.size := World.block_lt_of_cell? _ _ h.box
  refine (World.cell?_of_block (w := wr) (hg.block w.heap.size hlt (fun e => ?_))).trans h.box
  have := (h.own.ge w.heap.size e.symm).1
  omega
theorem RoomSt.alloc {w wr : World} {tb : Nat} {v : Value} {l : List Int} (h : RoomSt w wr tb v l) (o : Obj) : RoomSt w (wr.alloc o) tb v l :=
  ⟨h.own.alloc o, h.bel.alloc h.bel.size o, (World.cell?_alloc_lt wr _ _ (World.block_lt_of_cell? _ _ h.box)).trans h.box⟩
/-- what roomy answers -/
structure Roomy (w w' : World) (g : St) (D Z : Nat) (wo : List Int) (v : Value) (M : List Int) : Prop where
  perm : M.Perm (roomyL g Z wo D)
  asc : Asc (frF g D Z) M
  bel : Below w.heap.size w w'
  row : (M = [] ∧ ∃ A c, v = .slice A 0 c) ∨ ∃ gb cap, v = .slice (some ⟨gb, 0, none⟩) M.length cap ∧ w.heap.size ≤ gb ∧ M.length ≤ cap ∧ Row1 eI w' gb 0 M.toArray

theorem SW.kept {w0 W : World} {blk off : Nat} {d : Array Int} (h : SW eI w0 blk off d W) : Kept (fun x => x ≠ blk) w0 W := by
  have hle := h.le
  obtain ⟨n, os, rfl⟩ := h
  exact ⟨rfl, rfl, rfl, hle, fun k hk hne => sortWorld_block hk hne⟩
theorem holds_own {w : World} {base : Nat} {v : Value} {l : List Int} (h : OwnV w base 3 v (intsA l)) (h0 : l ≠ []) : ∃ gb cap, v = .slice (some ⟨gb, 0, none⟩) l.length cap ∧ base ≤ gb ∧ l.length ≤ cap ∧ Row1 eI w gb 0 l.toArray := by
  rcases h.form with ⟨_, h2⟩ | ⟨gb, cap, cur, hv, hb, hc, hn, hm, hl, ht⟩
  · exact absurd (by simpa [intsA] using h2) h0
  · have hlen : (intsA l).length = l.length := by simp [intsA]
    refine ⟨gb, cap, by rw [hv, hlen], hb, by omega, eI_one, fun j hj => ?_, hc.lt⟩
    have hj' : j < l.length := by simpa using hj
    refine ⟨hc.cell ?_, hc.frozen _⟩
    rw [Nat.zero_add]
    have e : (List.take (intsA l).length cur)[j]? = some (eI (l[j]'hj')) := by rw [ht]; simp [intsA, hj']
    rw [List.getElem?_take, if_pos (by omega)] at e
    rw [e, getElem!_pos l.toArray j hj]
    simp
section
set_option maxRecDepth 100000
set_option maxHeartbeats 4000000
variable {w : World} {tb db mb cap D Z : Nat} {g : St}
theorem roomy_any (A : Option Addr) (c n : Nat) (wo : List Int) (hn : n = wo.length) (hl : n ≤ 1099511627776) (hr : RI w w.heap.size A wo) (h : TabAt w tb db mb cap D Z g) :
    Calls Try.prog 30 #[.pointer (some ⟨tb, 0, none⟩), .slice A n c] w fun e w' => ∃ v M, e = .returned v ∧ Roomy w w' g D Z wo v M := by
  have H0 := Lib.hid h
  have t1 : ∀ o, (w.alloc o).cell? ⟨tb, 1, none⟩ = some (.slice (some ⟨db, 0, none⟩) D cap) := fun o => (h.alloc o).t1
  have Hfr : Hid (∀ wr i, Below w.heap.size w wr → i < D → Calls Try.prog 22 #[.pointer (some ⟨tb, 0, none⟩), .int .i64 (i : Int)] wr fun e w' => e = .returned (.int .i64 (cnt (g i) 0 Z : Nat)) ∧ w' = wr) := by
    intro wr i hb hi
    have := freeOn_any (i : Int) (h.below hb)
    rw [freeOn_nat g hi] at this
    exact this
  have Hct : Hid (∀ wr x, Below w.heap.size w wr → Calls Try.prog 46 #[.slice A n c, .int .i64 x] wr fun e w' => e = .returned (.bool (decide (x ∈ wo))) ∧ w' = wr) :=
    fun wr x hb => contains_int A c n wo x hn hl ((hr.below hb).move (fun _ _ => rfl) hb.size)
  have hD2 : (D : Int) ≤ 32 := by have := h.d2; omega
  have Hst : Hid (RoomSt w (w.alloc (.cells #[.pointer (some ⟨tb, 0, none⟩)] 27)) tb (.slice none 0 0) (roomyL g Z wo 0)) :=
    ⟨OwnV.nil _ _ _, (Below.refl _ _).alloc (Nat.le_refl _) _, cell_new _ _ _⟩
  clear h hr hn hl
  go_enter Try.func30, Try.ntmps30
  go_wp2_with fail
  go_loopw [5, 12] (fun sv iv wr => ∃ (i : Nat), iv = .int .i64 (i : Int) ∧ i ≤ D ∧ Hid (RoomSt w wr tb sv (roomyL g Z wo i))) (fun _ iv _ => D - (intOf iv).toNat)
  case atStart => exact ⟨0, rfl, Nat.zero_le _, Hst.out⟩
  case round =>
    clear t1 Hst
    obtain ⟨i, rfl, hi, hS⟩ := hrel
    obtain ⟨v, hv⟩ : ∃ v, v = u5 := ⟨_, rfl⟩
    rw [← hv] at hS ⊢
    clear hv
    have bx := hS.out.box
    by_cases hlt : i < D
    · have hlt' : (i : Int) < (D : Int) := by omega
      have Hf := Lib.hid (Hfr.out wr i hS.out.bel hlt)
      have Hc := Lib.hid (Hct.out wr (i : Int) hS.out.bel)
      have Hlen : Hid ((intsA (roomyL g Z wo i)).length ≤ 32) := by
        have := roomyL_len g Z wo i
        show _ ≤ _
        simp [intsA]; omega
      by_cases hf : 0 < cnt (g i) 0 Z
      · have hf' : (0 : Int) < ((cnt (g i) 0 Z : Nat) : Int) := by omega
        by_cases hm : (i : Int) ∈ wo
        · rw [decide_eq_true hm] at Hc
          have Hn : Hid (RoomSt w wr tb v (roomyL g Z wo (i + 1))) := by
            show RoomSt w wr tb v (if _ then _ else _)
            rw [if_neg (fun q => q.2 hm)]
            exact hS.out
          generalize cnt (g i) 0 Z = N at *
          clear hS hm hf hlt
          go_wp2_with fail
          refine Hf.out.mono ?_
          rintro e w1 ⟨rfl, rfl⟩
          go_wp2_with fail
          refine Hc.out.mono ?_
          rintro e w1 ⟨rfl, rfl⟩
          clear Hf Hc
          go_wp2_with fail
          go_roundw
          case rel => exact ⟨i + 1, by go_num, by omega, Hn.out⟩
          case measure => simp [intOf]; omega
        · rw [decide_eq_false hm] at Hc
          have Hn : Hid (∀ w' v', OwnV w' (w.heap.size + 1) 3 v' (intsA (roomyL g Z wo i) ++ [.int .i64 (i : Int)]) → (wr.alloc (.cells #[.int .i64 (i : Int)] 3)).grownBy w' v.ownBlock → RoomSt w w' tb v' (roomyL g Z wo (i + 1))) := by
            intro w' v' ho hg
            show RoomSt w w' tb v' (if _ then _ else _)
            rw [if_pos ⟨hf, hm⟩]
            exact (hS.out.alloc _).put ho hg
          generalize cnt (g i) 0 Z = N at *
          have HS := Lib.hid hS.out
          clear hS hm hf hlt
          go_wp2_with fail
          refine Hf.out.mono ?_
          rintro e w1 ⟨rfl, rfl⟩
          go_wp2_with fail
          refine Hc.out.mono ?_
          rintro e w1 ⟨rfl, rfl⟩
          clear Hf Hc
          go_wp2_with (at_builtin; go_must (refine app_one rfl (.tmp 25) (.tmp 27) 34 3 rfl Try.underlying34 _ 8 info_int rfl (w.heap.size + 1) _ _ rfl (OwnV.alloc HS.out.own _) ⟨w1.heap.size, 0, none⟩ 1 (.int .i64 (i : Int)) rfl (cell_new _ _ _) rfl (by have := Hlen.out; omega) (by have := Hlen.out; omega) (by have := HS.out.bel.size; have := World.block_lt_of_cell? _ _ HS.out.box; simp; omega) ?_); intro v9 W9 hown9 hg9 hn9; have Hn2 := Lib.hid (Hn.out W9 v9 hown9 hg9); clear hown9 hg9 hn9 HS Hn)
          go_roundw
          case rel => exact ⟨i + 1, by go_num, by omega, Hn2.out⟩
          case measure => simp [intOf]; omega
      · have hf' : ¬ (0 : Int) < ((cnt (g i) 0 Z : Nat) : Int) := by omega
        have Hn : Hid (RoomSt w wr tb v (roomyL g Z wo (i + 1))) := by
          show RoomSt w wr tb v (if _ then _ else _)
          rw [if_neg (fun q => hf q.1)]
          exact hS.out
        generalize cnt (g i) 0 Z = N at *
        clear hS hf hlt Hc
        go_wp2_with fail
        refine Hf.out.mono ?_
        rintro e w1 ⟨rfl, rfl⟩
        clear Hf
        go_wp2_with fail
        go_roundw
        case rel => exact ⟨i + 1, by go_num, by omega, Hn.out⟩
        case measure => simp [intOf]; omega
    · obtain rfl : i = D := by omega
      have HS := Lib.hid hS.out
      by_cases h0 : roomyL g Z wo i = []
      · have hv : v = .slice none 0 0 ∨ ∃ gb cap', v = .slice (some ⟨gb, 0, none⟩) 0 cap' := by
          have := hS.out.own
          rw [h0] at this
          rcases this.form with ⟨hv, _⟩ | ⟨gb, cap', cur, hv, hb, hc, hn', hm, hl', ht⟩
          · exact .inl hv
          · exact .inr ⟨gb, cap', hv⟩
        obtain ⟨A', c', hv2⟩ : ∃ A' c', v = .slice A' 0 c' := by
          rcases hv with rfl | ⟨gb, cap', rfl⟩
          · exact ⟨_, _, rfl⟩
          · exact ⟨_, _, rfl⟩
        have Hr : Hid (Roomy w wr g i Z wo v []) := ⟨by rw [h0], List.Pairwise.nil, HS.out.bel, .inl ⟨rfl, A', c', hv2⟩⟩
        have Hsn := Lib.hid (sortStable_none wr A' c' (.func (.func 48) #[] #[.pointer (some ⟨w.heap.size, 0, none⟩)]))
        subst hv2
        clear hS hv h0 hlt Hfr Hct
        go_wp2_with fail
        refine Hsn.out.mono ?_
        rintro e w1 ⟨rfl, rfl⟩
        go_wp2_with fail
        go_ret
        exact ⟨_, [], rfl, Hr.out⟩
      · obtain ⟨gb, cp, rfl, hgb, hcp, hrow⟩ := holds_own hS.out.own h0
        have hne : ∀ k, k < w.heap.size + 1 → k ≠ gb := fun k hk e => by omega
        have ht := H0.out.below hS.out.bel
        have hcmp := roomyCmp_lays w.heap.size gb 0 (roomyL g Z wo i).toArray.size ht hS.out.box (hne _ (by have := H0.out.tc.lt; omega)) (hne _ (by have := H0.out.dc.lt; omega)) (hne _ (by have := H0.out.mc.lt; omega)) (hne _ (by omega))
        have Hsn := Lib.hid (sortStable_any wr gb 0 cp (roomyL g Z wo i).length 48 #[.pointer (some ⟨w.heap.size, 0, none⟩)] (roomyL g Z wo i) hrow rfl (by have := roomyL_len g Z wo i; omega) (fun args w => rfl) hcmp (roomyL_asc g Z wo i))
        have Hfin : Hid (∀ w1 M, M.Perm (roomyL g Z wo i) → Asc (frF g i Z) M → SW eI wr gb 0 M.toArray w1 → Roomy w w1 g i Z wo (.slice (some ⟨gb, 0, none⟩) (roomyL g Z wo i).length cp) M) := by
          intro w1 M hM hA hW
          have hlen := hM.length_eq
          have hb : Below w.heap.size w w1 := hS.out.bel.trans ((SW.kept hW).to_below (fun k hk e => by omega) hS.out.bel.size)
          refine ⟨hM, hA, hb, .inr ⟨gb, cp, by rw [hlen], by omega, by omega, eI_one, hW.holds hrow.hblk hrow.hH (by simp [hlen]), hW.lt hrow.hblk⟩⟩
        generalize (roomyL g Z wo i).length = N at *
        clear hS hne ht hcmp hrow hgb hcp h0 hlt Hfr Hct
        go_wp2_with fail
        refine Hsn.out.mono ?_
        rintro e w1 ⟨rfl, M, h1, h2, h3⟩
        have Hr := Lib.hid (Hfin.out w1 M h1 h2 h3)
        clear h1 h2 h3 Hsn Hfin
        go_wp2_with fail
        go_ret
        exact ⟨_, M, rfl, Hr.out⟩
end
end Go.Proofs.Ytajpnjapfiffmaa

/-
  Take.
-/
namespace Go.Proofs.Ytajpnjapfiffmaa
open Go.RowKit Go.Maps Go.Shelf Go.Lib Go.Sort

def cellsU (us : List (Int × Int)) : List Value := us.flatMap fun u => [.int .i64 u.1, .int .i64 u.2]
theorem cellsU_snoc (us : List (Int × Int)) (u : Int × Int) : cellsU (us ++ [u]) = cellsU us ++ [.int .i64 u.1, .int .i64 u.2] := by simp [cellsU]
theorem cellsU_length (us : List (Int × Int)) : (cellsU us).length = us.length * 2 := by
  induction us with
  | nil => rfl
  | cons u us ih => rw [show cellsU (u :: us) = [.int .i64 u.1, .int .i64 u.2] ++ cellsU us from rfl, List.length_append, ih]; simp; omega
theorem cellsU_get (us : List (Int × Int)) : ∀ (k : Nat) (u : Int × Int), us[k]? = some u → (cellsU us)[k * 2]? = some (.int .i64 u.1) ∧ (cellsU us)[k * 2 + 1]? = some (.int .i64 u.2) := by
  induction us with
  | nil => intro k u h; simp at h
  | cons v us ih =>
    intro k u h
    rw [show cellsU (v :: us) = .int .i64 v.1 :: .int .i64 v.2 :: cellsU us from rfl]
    cases k with
    | zero => simp at h; subst h; exact ⟨rfl, rfl⟩
    | succ k =>
      have := ih k u (by simpa using h)
      rw [show (k + 1) * 2 = k * 2 + 1 + 1 by omega]
      exact this
/-- THE CALL OWNS v, a slice of units, which holds us -/
def OwnU (w : World) (base : Nat) (v : Value) (us : List (Int × Int)) : Prop := w.ownsRow base 24 2 v us.length (cellsU us)
theorem info_unit : (Try.prog.info? 24).map (fun i => (i.zero, i.size, i.bytes)) = some (some (.agg #[.int .i64 0, .int .i64 0]), 2, 16) := by kernel_rfl
section
variable {w w' : World} {base : Nat} {v : Value} {us : List (Int × Int)}
theorem OwnU.nil (w : World) (base : Nat) : OwnU w base (.slice none 0 0) [] := World.ownsRow_nil w base _ _
theorem OwnU.alloc (h : OwnU w base v us) (o : Obj) : OwnU (w.alloc o) base v us := World.ownsRow.alloc h o
theorem OwnU.drewN (h : OwnU w base v us) (n : Nat) : OwnU (w.drewN n) base v us := h
theorem OwnU.ge (h : OwnU w base v us) : ∀ k, v.ownBlock = some k → base ≤ k ∧ k < w.heap.size := fun k hk => World.ownsRow.lt h k hk
theorem OwnU.move (h : OwnU w base v us) (hk : ∀ g, v.ownBlock = some g → w'.heap[g]? = w.heap[g]?) : OwnU w' base v us := by
  refine ⟨h.1, ?_⟩
  rcases h.2 with h | ⟨g, cap, cur, hv, hg, hh, r⟩
  · exact .inl h
  · exact .inr ⟨g, cap, cur, hv, hg, (hk g (by rw [hv]; rfl)).trans hh, r⟩
theorem OwnU.wide {B : Nat} (h : OwnU w base v us) (hb : B ≤ base) : OwnU w B v us := by
  refine ⟨h.1, ?_⟩
  rcases h.2 with h | ⟨g, cap, cur, hv, hg, r⟩
  · exact .inl h
  · exact .inr ⟨g, cap, cur, hv, Nat.le_trans hb hg, r⟩
/-- what an owned slice of units is -/
theorem OwnU.rd (h : OwnU w base v us) : ∃ A c, v = .slice A us.length c ∧ us.length ≤ c ∧ RU w w.heap.size A us ∧ ∀ b o, A = some ⟨b, o, none⟩ → base ≤ b := by
  rcases h.2 with ⟨rfl, h0⟩ | ⟨g, cap, cur, rfl, hb, hg, hn, hm, hs, ht⟩
  · have : us = [] := List.eq_nil_of_length_eq_zero h0
    subst this
    exact ⟨none, 0, rfl, Nat.le_refl _, fun k u hu => by simp at hu, fun b o e => by cases e⟩
  · refine ⟨_, cap, rfl, hn, fun k u hu => ⟨g, 0, rfl, (Array.getElem?_eq_some_iff.1 hg).1, ?_, ?_⟩, fun b o e => by cases e; exact hb⟩
    · have := World.ownsRow.cells (e := 24) (size := 2) h rfl (k * 2) _ (cellsU_get us k u hu).1
      rw [add_flat] at this
      exact this
    · have := World.ownsRow.cells (e := 24) (size := 2) h rfl (k * 2 + 1) _ (cellsU_get us k u hu).2
      rw [add_flat] at this
      exact this
theorem app_unit_run {w : World} (ty : TypeId) (hown : OwnU w base v us) (g c : Nat) (x y : Int) (h0 : w.cell? ⟨g, 0, none⟩ = some (.int .i64 x)) (h1 : w.cell? ⟨g, 1, none⟩ = some (.int .i64 y)) (hlen : us.length + 1 ≤ 1000000) (hbase : base ≤ w.heap.size) :
    ∃ v' w', (Builtin.append_ #[35, 35] ty #[v, .slice (some ⟨g, 0, none⟩) 1 c]).run Try.prog w = .ok v' w' ∧ OwnU w' base v' (us ++ [(x, y)]) ∧ w.grownBy w' v.ownBlock ∧ (v'.ownBlock = v.ownBlock ∨ v'.ownBlock = some w.heap.size) := by
  obtain ⟨i0, hi0, hz0, hz1, hz2⟩ := info_parts info_unit
  obtain ⟨v', w', hrun, r2, r3, _, r5⟩ := run_append_own_at (P := Try.prog) w base 35 ty 24 i0 _ 2 16 Try.underlying35 hi0 hz0 hz1 hz2 rfl (by omega) v us.length (cellsU us) hown ⟨g, 0, none⟩ 1 c [.int .i64 x, .int .i64 y]
    (by simp) (fun j u hj => by
      rw [add_flat, Nat.zero_add]
      match j with
      | 0 => simp at hj; subst hj; exact h0
      | 1 => simp at hj; subst hj; exact h1
      | j + 2 => simp at hj) (by intro u hu; simp at hu; rcases hu with rfl | rfl <;> rfl) (by simp only [maxLen]; omega) (by omega) hbase
  exact ⟨v', w', hrun, by show World.ownsRow _ _ _ _ _ _ _; rw [cellsU_snoc, List.length_append]; exact r2, r3, r5⟩
/-- append(units, u) at an operation of a walk -/
theorem app_unit {w : World} {ops : Array Oper} {rest : List Oper} {o : Oper} {a : Act} {Q : Exit → Act → World → Prop} (hgd : o.guard = none) (s x : Operand)
    (ho : o.op = .call { callee := .builtin .append, args := #[s, x], argTypes := #[35, 35] })
    (hs : a.eval s = v) (hown : OwnU w base v us) (g c : Nat) (p q : Int) (hx : a.eval x = .slice (some ⟨g, 0, none⟩) 1 c) (h0 : w.cell? ⟨g, 0, none⟩ = some (.int .i64 p)) (h1 : w.cell? ⟨g, 1, none⟩ = some (.int .i64 q)) (hlen : us.length + 1 ≤ 1000000) (hbase : base ≤ w.heap.size)
    (h : ∀ v' w', OwnU w' base v' (us ++ [(p, q)]) → w.grownBy w' v.ownBlock → (v'.ownBlock = v.ownBlock ∨ v'.ownBlock = some w.heap.size) → wpList Try.prog ops Q rest (a.put o.dst v') w') :
    wpList Try.prog ops Q (o :: rest) a w := by
  refine wpList_plain hgd fun K hK => ?_
  obtain ⟨v', w', hrun, h2, h3, h5⟩ := app_unit_run o.type hown g c p q h0 h1 hlen hbase
  unfold Oper.wp execOp
  simp only [ho, resolve, invoke, builtin, Sem.run_bind, Sem.run_pure, Result.andThen_ok, List.map_toArray, List.map_cons, List.map_nil, hs, hx]
  rw [show (Builtin.append_ #[35, 35] o.type #[v, .slice (some ⟨g, 0, none⟩) 1 c]).run Try.prog w = .ok v' w' from hrun]
  exact hK _ _ (h v' w' h2 h3 h5)
end

/-- the lowest free units of several drives are taken -/
def takeAll (g : St) (Z : Nat) : List Nat → St
  | [] => g
  | d :: L => takeAll (takeU g Z d) Z L
theorem takeAll_snoc (Z d : Nat) : ∀ (L : List Nat) (g : St), takeAll g Z (L ++ [d]) = takeU (takeAll g Z L) Z d
  | [], _ => rfl
  | _ :: L, g => takeAll_snoc Z d L _
theorem takeAll_row (Z d : Nat) : ∀ (L : List Nat) (g : St), d ∉ L → takeAll g Z L d = g d
  | [], _, _ => rfl
  | e :: L, g, h => by
    have h' : d ≠ e ∧ d ∉ L := by simpa using h
    show takeAll (takeU g Z e) Z L d = g d
    rw [takeAll_row Z d L _ h'.2]
    exact upd_row g 1 h'.1
/-- the units that are taken -/
def tookU (g : St) (Z : Nat) (L : List Nat) : List (Int × Int) := L.map fun (d : Nat) => ((d : Int), ((low (g d) Z : Nat) : Int))
/-- WHAT Take DOES -/
def Took (g : St) (D Z : Nat) (n : Int) (wo : List Int) (us : List (Int × Int)) (e : Int) (g' : St) : Prop :=
  (¬ (1 ≤ n ∧ n ≤ 32) ∧ us = [] ∧ e = 1 ∧ g' = g) ∨
  ((1 ≤ n ∧ n ≤ 32) ∧ ∃ M, M.Perm (roomyL g Z wo D) ∧ Asc (frF g D Z) M ∧
    (((M.length : Int) < n ∧ us = [] ∧ e = 5 ∧ g' = g) ∨
     (n ≤ (M.length : Int) ∧ ∃ L : List Nat, (L.map fun (d : Nat) => (d : Int)).Perm (M.take n.toNat) ∧ L.Pairwise (· < ·) ∧ us = tookU g Z L ∧ e = 0 ∧ g' = takeAll g Z L)))
end Go.Proofs.Ytajpnjapfiffmaa

/-
  Take, walked.
-/
namespace Go.Proofs.Ytajpnjapfiffmaa
open Go.RowKit Go.Maps Go.Shelf Go.Lib Go.Sort

section
set_option maxRecDepth 100000
set_option maxHeartbeats 8000000
variable {w : World} {tb db mb cap D Z : Nat} {g : St}
theorem sortInts_any (blk cap n : Nat) (zs : List Int) (w : World) (hn : n = zs.length) (hH : Holds eI w blk 0 zs.toArray) (hblk : blk < w.heap.size) (hsz : n ≤ 1000) :
    Calls Try.prog 31 #[.slice (some ⟨blk, 0, none⟩) n cap] w fun e w' => e = .returned (.tuple #[]) ∧ ∃ ys : List Int, ys.Perm zs ∧ ys.Pairwise (· ≤ ·) ∧ SW eI w blk 0 ys.toArray w' := by
  subst hn
  refine (Any.slices_Sort_int (ρ := laySortI_ren) laySortI blk 0 cap zs w hH hblk (by omega)).mono ?_
  rintro e w' ⟨he, n, os, hw⟩
  refine ⟨he, zs.mergeSort (fun x y => decide (x ≤ y)), List.mergeSort_perm _ _, ?_, n, os, hw⟩
  have := List.pairwise_mergeSort (le := fun (x y : Int) => decide (x ≤ y)) (fun a b c h1 h2 => by simp at h1 h2 ⊢; omega) (fun a b => by simp; omega) zs
  exact this.imp fun h => by simpa using h
/-- the first n of a held row are held -/
theorem holds_take {w : World} {blk n : Nat} {M : List Int} (h : Holds eI w blk 0 M.toArray) (hn : n ≤ M.length) : Holds eI w blk 0 (M.take n).toArray := by
  intro j hj
  have hj' : j < n ∧ j < M.length := by simp at hj; omega
  have := h j (by simpa using hj'.2)
  have e : (M.take n).toArray[j]! = M.toArray[j]! := by
    rw [getElem!_pos (M.take n).toArray j hj, getElem!_pos M.toArray j (by simpa using hj'.2)]
    simp
  rw [e]
  exact this
theorem natList (l : List Int) (h : ∀ x ∈ l, ∃ d : Nat, x = (d : Int)) : ∃ L : List Nat, l = L.map fun (d : Nat) => (d : Int) := by
  induction l with
  | nil => exact ⟨[], rfl⟩
  | cons x l ih =>
    obtain ⟨d, hd⟩ := h x (by simp)
    obtain ⟨L, hL⟩ := ih (fun y hy => h y (by simp [hy]))
    exact ⟨d :: L, by rw [hd, hL]; rfl⟩
theorem take_call (A : Option Addr) (c m : Nat) (n : Int) (wo : List Int) (hm : m = wo.length) (hl : m ≤ 1099511627776) (hr : RI w w.heap.size A wo) (h : TabAt w tb db mb cap D Z g) :
    Calls Try.prog 10 #[.pointer (some ⟨tb, 0, none⟩), .int .i64 n, .slice A m c] w fun e w' => ∃ v us er g', e = .returned (.tuple #[v, .int .i64 er]) ∧ Took g D Z n wo us er g' ∧ TabAt w' tb db mb cap D Z g' ∧ Kept (fun x => x ≠ db ∧ x ≠ mb) w w' ∧ OwnU w' w.heap.size v us := by
  have Hmay := Lib.hid (may_any n w)
  have Hro := Lib.hid (roomy_any A c m wo hm hl hr h)
  have H0 := Lib.hid h
  clear hr hm hl
  by_cases hn : 1 ≤ n ∧ n ≤ 32
  case neg =>
    rw [decide_eq_false hn] at Hmay
    have HN := Lib.hid hn
    clear hn h Hro
    go_enter Try.func10, Try.ntmps10
    go_wp2_with fail
    refine Hmay.out.mono ?_
    rintro e w1 ⟨rfl, rfl⟩
    go_wp2_with fail
    go_ret2
    exact ⟨_, [], 1, g, rfl, .inl ⟨HN.out, rfl, rfl, rfl⟩, H0.out, Kept.refl _ _, OwnU.nil _ _⟩
  rw [decide_eq_true hn] at Hmay
  have HN := Lib.hid hn
  obtain ⟨nn, rfl⟩ : ∃ k : Nat, n = (k : Int) := ⟨n.toNat, by omega⟩
  have hn1 : 1 ≤ nn ∧ nn ≤ 32 := by omega
  have hn32 : (nn : Int) ≤ 32 := by omega
  clear hn h
  go_enter Try.func10, Try.ntmps10
  go_wp2_with fail
  refine Hmay.out.mono ?_
  rintro e w1 ⟨rfl, rfl⟩
  go_wp2_with fail
  refine Hro.out.mono ?_
  rintro e w2 ⟨v, M, rfl, hR⟩
  have HR := Lib.hid hR
  clear hR Hmay Hro
  have hML : M.length ≤ 32 := by
    have h1 := HR.out.perm.length_eq
    have h2 := roomyL_len g Z wo D
    have h3 := H0.out.d2
    omega
  by_cases hlt : M.length < nn
  · obtain ⟨A2, c2, hv⟩ : ∃ A2 c2, v = .slice A2 M.length c2 := by
      rcases HR.out.row with ⟨rfl, A2, c2, hv⟩ | ⟨gb, cp, hv, _⟩
      · exact ⟨A2, c2, hv⟩
      · exact ⟨_, _, hv⟩
    have hlt' : (M.length : Int) < (nn : Int) := by omega
    have Hfin : Hid (Took g D Z nn wo [] 5 g ∧ TabAt w2 tb db mb cap D Z g ∧ Kept (fun x => x ≠ db ∧ x ≠ mb) w1 w2) :=
      ⟨.inr ⟨HN.out, M, HR.out.perm, HR.out.asc, .inl ⟨hlt', rfl, rfl, rfl⟩⟩, H0.out.below HR.out.bel, (Kept.refl _ _).below HR.out.bel⟩
    subst hv
    generalize M.length = ml at *
    clear HR hlt hML
    go_wp2_with fail
    go_ret2
    exact ⟨_, [], 5, g, rfl, Hfin.out.1, Hfin.out.2.1, Hfin.out.2.2, OwnU.nil _ _⟩
  · obtain ⟨gb, cp, hv, hgb, hcp, hrow⟩ : ∃ gb cap, v = .slice (some ⟨gb, 0, none⟩) M.length cap ∧ w1.heap.size ≤ gb ∧ M.length ≤ cap ∧ Row1 eI w2 gb 0 M.toArray := by
      rcases HR.out.row with ⟨rfl, _⟩ | h
      · exfalso; simp at hlt; omega
      · exact h
    have hge : nn ≤ M.length := by omega
    have Hs := Lib.hid (sortInts_any gb cp nn (M.take nn) w2 (by simp; omega) (holds_take hrow.hH hge) hrow.hblk (by omega))
    have Hrow := Lib.hid (And.intro hrow (And.intro hgb hge))
    subst hv
    have hnlt : ¬ (M.length : Int) < (nn : Int) := by omega
    have hncp : (nn : Int) ≤ (cp : Int) := by omega
    have hncp' : nn ≤ cp := by omega
    have HM := Lib.hid hML
    generalize hml : M.length = ml at *
    have Hml := Lib.hid hml
    clear hml hML hlt hrow hgb hge hcp
    go_wp2_with fail
    refine Hs.out.mono ?_
    rintro e w3 ⟨rfl, ys, hp, hpw, hS⟩
    have hmem : ∀ y ∈ ys, ∃ d : Nat, d < D ∧ y = (d : Int) ∧ 0 < cnt (g d) 0 Z := by
      intro y hy
      have h1 : y ∈ M := List.mem_of_mem_take (hp.mem_iff.1 hy)
      obtain ⟨d, h2, h3, h4, _⟩ := (roomyL_mem g Z wo D y).1 (HR.out.perm.mem_iff.1 h1)
      exact ⟨d, h2, h3, h4⟩
    obtain ⟨L, rfl⟩ := natList ys (fun y hy => by obtain ⟨d, _, h, _⟩ := hmem y hy; exact ⟨d, h⟩)
    have hnd : (L.map fun (d : Nat) => (d : Int)).Nodup := by
      have h1 : (roomyL g Z wo D).Nodup := (roomyL_asc g Z wo D).imp fun h => by omega
      have h2 : M.Nodup := HR.out.perm.nodup_iff.2 h1
      exact hp.nodup_iff.2 (h2.sublist (List.take_sublist _ _))
    have hasc : L.Pairwise (· < ·) := by
      have h1 : (L.map fun (d : Nat) => (d : Int)).Pairwise (fun a b => a < b) := by
        refine (hpw.and hnd).imp ?_
        rintro a b ⟨h1, h2⟩
        omega
      exact (List.pairwise_map.1 h1).imp fun h => by omega
    have hLn : L.length = nn := by
      have := hp.length_eq
      simp at this
      have h2 := Hml.out
      omega
    have HL : Hid (∀ k (hk : k < L.length), L[k] < D ∧ 0 < cnt (g L[k]) 0 Z) := fun k hk => by
      obtain ⟨d, h1, h2, h3⟩ := hmem (L[k] : Nat) (List.mem_map.2 ⟨L[k], List.getElem_mem hk, rfl⟩)
      have : L[k] = d := by omega
      rw [this]; exact ⟨h1, h3⟩
    have Hasc := Lib.hid hasc
    have Hperm := Lib.hid hp
    have hb3 : Below w1.heap.size w1 w3 := HR.out.bel.trans ((SW.kept hS).to_below (fun k hk e => by have := Hrow.out.2.1; omega) HR.out.bel.size)
    have Hcell : Hid (∀ k (hk : k < L.length), w3.cell? ⟨gb, k, none⟩ = some (.int .i64 (L[k] : Nat))) := fun k hk => by
      have hh := (hS.holds Hrow.out.1.hblk (holds_take (n := nn) Hrow.out.1.hH (by have := Hml.out; have := Hrow.out.2.2; omega)) (by have := hp.length_eq; simp at this ⊢; omega)) k (by simpa using hk)
      have e : (L.map fun (d : Nat) => (d : Int)).toArray[k]! = (L[k] : Nat) := by
        rw [getElem!_pos _ _ (by simpa using hk)]
        simp
      rw [e, Nat.zero_add] at hh
      exact hh.1
    have hgb3 : gb < w3.heap.size := hS.lt Hrow.out.1.hblk
    have Hst : Hid (TabAt w3 tb db mb cap D Z (takeAll g Z (L.take 0)) ∧ Kept (fun x => x ≠ db ∧ x ≠ mb ∧ x ≠ gb) w1 w3 ∧ OwnU w3 (w3.heap.size) (.slice none 0 0) (tookU g Z (L.take 0)) ∧ Kept (fun x => x ≠ db ∧ x ≠ mb) w3 w3) :=
      ⟨H0.out.below hb3, (Kept.refl _ _).below hb3, OwnU.nil _ _, Kept.refl _ _⟩
    have Hgb : Hid (gb ≠ db ∧ gb ≠ mb ∧ gb < w3.heap.size ∧ w1.heap.size ≤ gb) := ⟨by have := H0.out.dc.lt; have := Hrow.out.2.1; omega, by have := H0.out.mc.lt; have := Hrow.out.2.1; omega, hgb3, Hrow.out.2.1⟩
    have HLn := Lib.hid hLn
    have Htook : Hid (Took g D Z nn wo (tookU g Z L) 0 (takeAll g Z L)) :=
      .inr ⟨HN.out, M, HR.out.perm, HR.out.asc, .inr ⟨by have := Hml.out; have := Hrow.out.2.2; omega, L, by rw [Int.toNat_natCast]; exact hp, hasc, rfl, rfl, rfl⟩⟩
    have Hb3 := Lib.hid hb3
    clear hp hpw hS hmem hnd hasc hLn hb3 hgb3 HR Hs Hrow
    go_wp2_with fail
    go_loopw [9, 29] (fun sv iv wr => ∃ i : Nat, iv = .int .i64 (i : Int) ∧ i ≤ nn ∧ Hid (TabAt wr tb db mb cap D Z (takeAll g Z (L.take i)) ∧ Kept (fun x => x ≠ db ∧ x ≠ mb ∧ x ≠ gb) w1 wr ∧ OwnU wr w3.heap.size sv (tookU g Z (L.take i)) ∧ Kept (fun x => x ≠ db ∧ x ≠ mb) w3 wr)) (fun _ iv _ => nn - (intOf iv).toNat)
    case atStart => exact ⟨0, rfl, Nat.zero_le _, Hst.out⟩
    case round =>
      clear Hst
      obtain ⟨i, rfl, hi, hS⟩ := hrel
      obtain ⟨v, hv⟩ : ∃ v, v = u9 := ⟨_, rfl⟩
      rw [← hv] at hS ⊢
      clear hv
      by_cases hlt : i < nn
      · have hlt' : (i : Int) < (nn : Int) := by omega
        have hiL : i < L.length := by have := HLn.out; omega
        have c0 : wr.cell? ⟨gb, i, none⟩ = some (.int .i64 (L[i] : Nat)) := (World.cell?_of_block (w := w3) (hS.out.2.2.2.block gb Hgb.out.2.2.1 ⟨Hgb.out.1, Hgb.out.2.1⟩)).trans (Hcell.out i hiL)
        have hd := HL.out i hiL
        have hrow : takeAll g Z (L.take i) L[i] = g L[i] := takeAll_row Z L[i] (L.take i) g (fun hm => by
          obtain ⟨k, hk, e⟩ := List.getElem_of_mem hm
          have hk' : k < i := by simp at hk; omega
          rw [List.getElem_take] at e
          have := List.pairwise_iff_getElem.1 Hasc.out k i (by omega) hiL hk'
          omega)
        have Ht := Lib.hid (take_any L[i] hd.1 (by rw [hrow]; exact hd.2) hS.out.1)
        have Hn : Hid (∀ w4 w5 v5, TabAt w4 tb db mb cap D Z (takeU (takeAll g Z (L.take i)) Z L[i]) → Kept (fun x => x ≠ db ∧ x ≠ mb) wr w4 → OwnU w5 w3.heap.size v5 (tookU g Z (L.take i) ++ [((L[i] : Int), ((low (takeAll g Z (L.take i) L[i]) Z : Nat) : Int))]) → (w4.alloc (.cells #[.int .i64 (L[i] : Nat), .int .i64 (low (takeAll g Z (L.take i) L[i]) Z : Nat)] 24)).grownBy w5 v.ownBlock →
            TabAt w5 tb db mb cap D Z (takeAll g Z (L.take (i + 1))) ∧ Kept (fun x => x ≠ db ∧ x ≠ mb ∧ x ≠ gb) w1 w5 ∧ OwnU w5 w3.heap.size v5 (tookU g Z (L.take (i + 1))) ∧ Kept (fun x => x ≠ db ∧ x ≠ mb) w3 w5) := by
          intro w4 w5 v5 h1 h2 h3 h4
          have e1 : L.take (i + 1) = L.take i ++ [L[i]] := by rw [List.take_add_one, List.getElem?_eq_getElem hiL]; rfl
          have e2 : takeAll g Z (L.take (i + 1)) = takeU (takeAll g Z (L.take i)) Z L[i] := by rw [e1, takeAll_snoc]
          have e3 : tookU g Z (L.take (i + 1)) = tookU g Z (L.take i) ++ [((L[i] : Int), ((low (takeAll g Z (L.take i) L[i]) Z : Nat) : Int))] := by
            rw [e1, hrow]
            unfold tookU
            rw [List.map_append]
            rfl
          have hge : ∀ k, v.ownBlock = some k → w3.heap.size ≤ k := fun k hk => (hS.out.2.2.1.ge k hk).1
          have hw3 : db < w3.heap.size ∧ mb < w3.heap.size ∧ tb < w3.heap.size := by
            have := H0.out.dc.lt
            have := H0.out.mc.lt
            have := H0.out.tc.lt
            have := Hb3.out.size
            omega
          have hb : Below w3.heap.size (w4.alloc (.cells #[.int .i64 (L[i] : Nat), .int .i64 (low (takeAll g Z (L.take i) L[i]) Z : Nat)] 24)) w5 := (Below.refl _ _).grown h4 (by have := hS.out.2.2.2.size; have := h2.size; simp; omega) (fun k hk => hge k hk)
          have k34 : Kept (fun x => x ≠ db ∧ x ≠ mb) w3 (w4.alloc (.cells #[.int .i64 (L[i] : Nat), .int .i64 (low (takeAll g Z (L.take i) L[i]) Z : Nat)] 24)) := (hS.out.2.2.2.trans h2).alloc _
          have k35 : Kept (fun x => x ≠ db ∧ x ≠ mb) w3 w5 := ⟨hb.os.trans k34.os, hb.tape.trans k34.tape, hb.output.trans k34.output, Nat.le_trans k34.size hb.size, fun b hb' q => (hb.block b hb').trans (k34.block b hb' q)⟩
          refine ⟨?_, ?_, by rw [e3]; exact h3, k35⟩
          · rw [e2]
            have ha := h1.alloc (.cells #[.int .i64 (L[i] : Nat), .int .i64 (low (takeAll g Z (L.take i) L[i]) Z : Nat)] 24)
            exact ha.move (hb.block _ hw3.2.2) (hb.block _ hw3.1) (hb.block _ hw3.2.1)
          · have k13 : Kept (fun x => x ≠ db ∧ x ≠ mb ∧ x ≠ gb) w1 w3 := (Kept.refl _ _).below Hb3.out
            exact k13.trans (k35.mono fun b _ q => ⟨q.1, q.2.1⟩)
        have Hsz : Hid ((tookU g Z (L.take i)).length ≤ 32 ∧ w3.heap.size ≤ wr.heap.size ∧ OwnU wr w3.heap.size v (tookU g Z (L.take i)) ∧ (∀ k, v.ownBlock = some k → k ≠ db ∧ k ≠ mb)) := by
          refine ⟨by unfold tookU; simp; omega, hS.out.2.2.2.size, hS.out.2.2.1, fun k hk => ?_⟩
          have h1 := (hS.out.2.2.1.ge k hk).1
          have := H0.out.dc.lt
          have := H0.out.mc.lt
          have := Hb3.out.size
          omega
        generalize L[i] = d at *
        generalize low (takeAll g Z (L.take i) d) Z = lw at *
        clear hS hlt hiL hd hrow
        go_wp2_with fail
        refine Ht.out.mono ?_
        rintro e w4 ⟨rfl, ht4, hk4⟩
        have Ht4 := Lib.hid ht4
        have Hk4 := Lib.hid hk4
        clear ht4 hk4 Ht c0
        unfold uV
        go_wp2_with (at_builtin; go_must (refine app_unit rfl (.tmp 33) (.tmp 37) rfl rfl (OwnU.alloc (Hsz.out.2.2.1.move (fun k hk => Hk4.out.block k (Hsz.out.2.2.1.ge k hk).2 (Hsz.out.2.2.2 k hk))) _) w4.heap.size 1 (d : Int) (lw : Int) rfl ((Cells.new w4 _ _).cell rfl) ((Cells.new w4 _ _).cell rfl) (by have := Hsz.out.1; omega) (by have := Hsz.out.2.1; have := Hk4.out.size; simp; omega) ?_); intro v5 w5 ho5 hg5 _; have H5 := Lib.hid (Hn.out w4 w5 v5 Ht4.out Hk4.out ho5 hg5); clear ho5 hg5 Hn)
        go_roundw
        case rel => exact ⟨i + 1, by go_num, by omega, H5.out⟩
        case measure => simp [intOf]; omega
      · obtain rfl : i = nn := by omega
        have Hfin : Hid (TabAt wr tb db mb cap D Z (takeAll g Z L) ∧ Kept (fun x => x ≠ db ∧ x ≠ mb) w1 wr ∧ OwnU wr w1.heap.size v (tookU g Z L)) := by
          have h := hS.out
          rw [List.take_of_length_le (by have := HLn.out; omega)] at h
          exact ⟨h.1, h.2.1.mono (fun b hb q => ⟨q.1, q.2, by have := Hgb.out.2.2.2; omega⟩), h.2.2.1.wide Hb3.out.size⟩
        clear hS hlt
        go_wp2_with fail
        go_ret2
        exact ⟨_, _, _, _, rfl, Htook.out, Hfin.out.1, Hfin.out.2.1, Hfin.out.2.2⟩
end
end Go.Proofs.Ytajpnjapfiffmaa

/-
  Sets.
-/
namespace Go.Proofs.Ytajpnjapfiffmaa
open Go.RowKit Go.Maps Go.Shelf Go.Lib Go.Sort

/-- of each drive at most k -/
def minSum (g : St) (Z D k : Nat) : Nat := sumN (fun d => min (cnt (g d) 0 Z) k) D
theorem minSum_le (g : St) (Z D k : Nat) : minSum g Z D k ≤ D * Z := by
  rw [← sumN_const Z D]
  exact sumN_le D fun d _ => Nat.le_trans (Nat.min_le_left _ _) (cnt_le _ _ _)
theorem minSum_step (g : St) (Z D k : Nat) : minSum g Z D (k + 1) * k ≤ minSum g Z D k * (k + 1) := by
  unfold minSum
  rw [Nat.mul_comm _ k, Nat.mul_comm _ (k + 1), ← sumN_mul, ← sumN_mul]
  refine sumN_le D fun d _ => ?_
  rcases Nat.le_total (cnt (g d) 0 Z) k with h | h
  · rw [Nat.min_eq_left (by omega), Nat.min_eq_left h]
    exact Nat.mul_le_mul_right _ (by omega)
  · rw [Nat.min_eq_right h, Nat.mul_comm (k + 1) k]
    exact Nat.mul_le_mul_left _ (Nat.min_le_right _ _)
/-- can so many sets and one more not be taken? -/
def noMore (g : St) (Z D n i : Nat) : Bool := decide (minSum g Z D (i + 1) < n * (i + 1))
theorem noMore_step {g : St} {Z D n i : Nat} (h : noMore g Z D n i = true) : noMore g Z D n (i + 1) = true := by
  have h1 := of_decide_eq_true h
  refine decide_eq_true ?_
  have h2 := minSum_step g Z D (i + 1)
  have h3 : minSum g Z D (i + 1) * (i + 1 + 1) < n * (i + 1) * (i + 1 + 1) := Nat.mul_lt_mul_of_pos_right h1 (by omega)
  have h4 : minSum g Z D (i + 1 + 1) * (i + 1) < (n * (i + 1 + 1)) * (i + 1) := by
    have e : n * (i + 1) * (i + 1 + 1) = (n * (i + 1 + 1)) * (i + 1) := by rw [Nat.mul_assoc, Nat.mul_comm (i + 1), ← Nat.mul_assoc]
    omega
  exact Nat.lt_of_mul_lt_mul_right h4
theorem noMore_mono {g : St} {Z D n a : Nat} (h : noMore g Z D n a = true) : ∀ k, noMore g Z D n (a + k) = true
  | 0 => h
  | k + 1 => noMore_step (noMore_mono h k)
/-- how many sets -/
def setsN (g : St) (D Z n : Nat) : Nat := (List.range (sumN (fun d => cnt (g d) 0 Z) D / n)).countP fun i => !noMore g Z D n i
def setsV (g : St) (D Z : Nat) (x : Int) : Nat := if 1 ≤ x ∧ x ≤ 32 then setsN g D Z x.toNat else 0
section
set_option maxRecDepth 100000
set_option maxHeartbeats 8000000
variable {w : World} {tb db mb cap D Z : Nat} {g : St}
theorem setsCl_any (bt bn n i : Nat) (hn : n ≤ 32) (hi : i ≤ 1000000) (h : TabAt w tb db mb cap D Z g) (k0 : w.cell? ⟨bt, 0, none⟩ = some (.pointer (some ⟨tb, 0, none⟩))) (k1 : w.cell? ⟨bn, 0, none⟩ = some (.int .i64 (n : Int))) :
    Calls Try.prog 45 #[.int .i64 (i : Int), .pointer (some ⟨bt, 0, none⟩), .pointer (some ⟨bn, 0, none⟩)] w fun e w' => e = .returned (.bool (noMore g Z D n i)) ∧ w' = w := by
  have t1 := h.t1
  have Hf : Hid (∀ d, d < D → Calls Try.prog 22 #[.pointer (some ⟨tb, 0, none⟩), .int .i64 (d : Int)] w fun e w' => e = .returned (.int .i64 (cnt (g d) 0 Z : Nat)) ∧ w' = w) := fun d hd => by
    have := freeOn_any (d : Int) h
    rw [freeOn_nat g hd] at this
    exact this
  have hD : (D : Int) ≤ 32 := by have := h.d2; omega
  have hi' : (i : Int) ≤ 1000000 := by omega
  have hn' : (n : Int) ≤ 32 := by omega
  have HDZ : Hid (D ≤ 32 ∧ Z ≤ 4096) := ⟨h.d2, h.z2⟩
  obtain ⟨i1, hi1⟩ : ∃ i1, i1 = i + 1 := ⟨_, rfl⟩
  have e1 : (i : Int) + 1 = (i1 : Int) := by omega
  have hmul : (n : Int) * (i1 : Int) = ((n * i1 : Nat) : Int) := by simp
  have hml2 : ((n * i1 : Nat) : Int) ≤ 64000000 := by
    have : n * i1 ≤ 32 * 1000001 := Nat.mul_le_mul hn (by omega)
    omega
  have hi1' : (i1 : Int) ≤ 1000001 := by omega
  have Hend : Hid (decide (minSum g Z D i1 < n * i1) = noMore g Z D n i) := by rw [hi1]; rfl
  clear h hi1 hn hi hi'
  go_enter Try.func45, Try.ntmps45
  go_wp2_with fail
  go_loopw [5, 14] (fun sv iv wr => wr = w ∧ ∃ (d s : Nat), sv = .int .i64 (s : Int) ∧ iv = .int .i64 (d : Int) ∧ d ≤ D ∧ Hid (s = minSum g Z d i1)) (fun _ iv _ => D - (intOf iv).toNat)
  case atStart => exact ⟨by trivial, 0, 0, rfl, rfl, Nat.zero_le _, rfl⟩
  case round =>
    obtain ⟨rfl, d, s, rfl, rfl, hd, hs⟩ := hrel
    by_cases hlt : d < D
    · have Hf2 := Lib.hid (Hf.out d hlt)
      have hlt' : (d : Int) < (D : Int) := by omega
      have hs2 : (s : Int) ≤ 131072 := by
        have h1 := minSum_le g Z d i1
        have h2 : d * Z ≤ 32 * 4096 := Nat.mul_le_mul (by have := HDZ.out; omega) HDZ.out.2
        rw [hs.out]; omega
      have Hn : Hid (s + min (cnt (g d) 0 Z) i1 = minSum g Z (d + 1) i1) := by show _ = _; rw [hs.out]; rfl
      have hc : ((cnt (g d) 0 Z : Nat) : Int) ≤ 4096 := by have := cnt_le (g d) 0 Z; have := HDZ.out.2; omega
      generalize cnt (g d) 0 Z = f at *
      by_cases hfi : i1 < f
      · have hfi' : (i1 : Int) < (f : Int) := by omega
        have Hn2 : Hid (s + i1 = minSum g Z (d + 1) i1) := by have := Hn.out; rw [Nat.min_eq_right (by omega)] at this; exact this
        clear hs hlt hfi Hn
        go_wp2_with fail
        refine Hf2.out.mono ?_
        rintro e w1 ⟨rfl, rfl⟩
        clear Hf2
        go_wp2_with fail
        go_roundw
        case rel => exact ⟨by trivial, d + 1, s + i1, by go_num, by go_num, by omega, Hn2.out⟩
        case measure => simp [intOf]; omega
      · have hfi' : ¬ (i1 : Int) < (f : Int) := by omega
        have Hn2 : Hid (s + f = minSum g Z (d + 1) i1) := by have := Hn.out; rw [Nat.min_eq_left (by omega)] at this; exact this
        clear hs hlt hfi Hn
        go_wp2_with fail
        refine Hf2.out.mono ?_
        rintro e w1 ⟨rfl, rfl⟩
        clear Hf2
        go_wp2_with fail
        go_roundw
        case rel => exact ⟨by trivial, d + 1, s + f, by go_num, by go_num, by omega, Hn2.out⟩
        case measure => simp [intOf]; omega
    · obtain rfl : d = D := by omega
      have Hs := hs
      have Hb : Hid (s < n * i1 ↔ (s : Int) < ((n * i1 : Nat) : Int)) := (show _ ↔ _ from by omega)
      clear hs hlt
      generalize n * i1 = nm at *
      go_wp2_with fail
      go_ret
      refine ⟨?_, by trivial⟩
      rw [← Hend.out, ← Hs.out]
      by_cases q : s < nm
      · rw [decide_eq_true q]; rfl
      · rw [decide_eq_false q]; rfl
theorem sets_any (x : Int) (h : TabAt w tb db mb cap D Z g) :
    Calls Try.prog 26 #[.pointer (some ⟨tb, 0, none⟩), .int .i64 x] w fun e w' => e = .returned (.int .i64 (setsV g D Z x : Nat)) ∧ Below w.heap.size w w' := by
  have Hmay := Lib.hid (may_any x)
  obtain ⟨W, hW⟩ : ∃ W, W = (w.alloc (.cells #[.pointer (some ⟨tb, 0, none⟩)] 27)).alloc (.cells #[.int .i64 x] 3) := ⟨_, rfl⟩
  have e1 : (w.alloc (.cells #[.pointer (some ⟨tb, 0, none⟩)] 27)).heap.size = w.heap.size + 1 := by simp
  have hb : Below w.heap.size w W := by rw [hW]; exact ((Below.refl _ w).alloc (Nat.le_refl _) _).alloc (by rw [e1]; omega) _
  have k0 : W.cell? ⟨w.heap.size, 0, none⟩ = some (.pointer (some ⟨tb, 0, none⟩)) := by rw [hW]; exact ((Cells.new w _ _).alloc _).cell rfl
  have k1 : W.cell? ⟨w.heap.size + 1, 0, none⟩ = some (.int .i64 x) := by rw [hW, ← e1]; exact (Cells.new _ _ _).cell rfl
  have hWs : W.heap.size = w.heap.size + 2 := by rw [hW]; simp
  have H0 := Lib.hid h
  have Hb := Lib.hid hb
  by_cases hx : 1 ≤ x ∧ x ≤ 32
  · have hm := fun w => Hmay.out w
    rw [decide_eq_true hx] at hm
    have Hm := Lib.hid hm
    obtain ⟨n, rfl⟩ : ∃ n : Nat, x = (n : Int) := ⟨x.toNat, by omega⟩
    have hn32 : n ≤ 32 := by omega
    rw [show setsV g D Z n = setsN g D Z n from by unfold setsV; rw [if_pos hx]; simp]
    have hcw := h.below hb
    obtain ⟨T, hT⟩ : ∃ T, T = sumN (fun d => cnt (g d) 0 Z) D := ⟨_, rfl⟩
    have Hc : Hid (∀ w1, Below W.heap.size W w1 → Calls Try.prog 20 #[.pointer (some ⟨tb, 0, none⟩), .int .i64 0] w1 fun e w' => e = .returned (.int .i64 (T : Int)) ∧ Below W.heap.size W w') := by
      intro w1 hb1
      have := count_any (0 : Int) (hcw.below hb1)
      rw [show countOf g D Z 0 = T from by rw [hT]; exact countOf_nat g D Z 0 (by omega)] at this
      exact this.mono fun e w' ⟨he, hb'⟩ => ⟨he, hb1.trans (hb'.mono hb1.size)⟩
    have hT2 : T ≤ 131072 := by
      have h1 := sum_le g Z 0 D
      have h2 : D * Z ≤ 32 * 4096 := Nat.mul_le_mul h.d2 h.z2
      omega
    have hdiv : T / n ≤ 131072 := Nat.le_trans (Nat.div_le_self _ _) hT2
    have Hs : Hid (∀ w1, Below W.heap.size W w1 → Calls Try.prog 44 #[.int .i64 ((T / n : Nat) : Int), .func (.func 45) #[] #[.pointer (some ⟨w.heap.size, 0, none⟩), .pointer (some ⟨w.heap.size + 1, 0, none⟩)]] w1 fun e w' => e = .returned (.int .i64 (setsN g D Z n : Nat)) ∧ Below W.heap.size W w') := by
      intro w1 hb1
      refine (Any.sort_Search (ρ := laySearch_ren) laySearch 45 #[.pointer (some ⟨w.heap.size, 0, none⟩), .pointer (some ⟨w.heap.size + 1, 0, none⟩)] (T / n) (noMore g Z D n) w1 (fun args w => rfl) (by omega) (fun m os i hi => ?_) (fun a b hab hbn ha => by
        obtain ⟨k, rfl⟩ : ∃ k, b = a + k := ⟨b - a, by omega⟩
        exact noMore_mono ha k)).mono ?_
      · have hb2 : Below W.heap.size W (grow (w1.drewN m) os) := hb1.trans (below_grown_sl W.heap.size w1 m os hb1.size)
        refine (setsCl_any w.heap.size (w.heap.size + 1) n i hn32 (by omega) (hcw.below hb2) ((hb2.cell (p := ⟨w.heap.size, 0, none⟩) (by show w.heap.size < _; omega)).trans k0) ((hb2.cell (p := ⟨w.heap.size + 1, 0, none⟩) (by show w.heap.size + 1 < _; omega)).trans k1)).mono ?_
        rintro e w' ⟨he, rfl⟩
        exact ⟨he, 0, #[], by rw [grow_empty]; rfl⟩
      · rintro e w' ⟨he, q, os, rfl⟩
        refine ⟨by rw [he, hT]; rfl, hb1.trans (below_grown_sl W.heap.size w1 q os hb1.size)⟩
    have hn0 : ¬ n = 0 := by omega
    have hq : (T : Int) / (n : Int) = ((T / n : Nat) : Int) := by simp
    have hqw : IntKind.i64.wrap ((T / n : Nat) : Int) = ((T / n : Nat) : Int) := (show ∀ k : Nat, k ≤ 131072 → IntKind.i64.wrap (k : Int) = (k : Int) from fun k hk => by rw [IntKind.wrap_i64]; omega) _ hdiv
    have Hk : Hid (∀ w1, Below W.heap.size W w1 → w1.cell? ⟨w.heap.size, 0, none⟩ = some (.pointer (some ⟨tb, 0, none⟩)) ∧ w1.cell? ⟨w.heap.size + 1, 0, none⟩ = some (.int .i64 (n : Int))) := fun w1 hb1 => ⟨(hb1.cell (p := ⟨w.heap.size, 0, none⟩) (by show w.heap.size < _; omega)).trans k0, (hb1.cell (p := ⟨w.heap.size + 1, 0, none⟩) (by show w.heap.size + 1 < _; omega)).trans k1⟩
    have HWr := Lib.hid (Below.refl W.heap.size W)
    have hTz : (T : Int) ≤ 131072 := by omega
    generalize T / n = q at *
    have Hb' : Hid (∀ w1, Below W.heap.size W w1 → Below w.heap.size w w1) := fun w1 hb1 => hb.trans (hb1.mono (by omega))
    clear h hx hm hcw hT hT2 hdiv Hmay hn32 hb hWs e1 H0 Hb
    go_enter Try.func26, Try.ntmps26
    go_wp2_with fail
    rw [← hW]
    clear hW
    refine (Hm.out _).mono ?_
    rintro e w1 ⟨rfl, rfl⟩
    go_wp2_with fail
    go_region_held3 (fun X => X.cell? ⟨w.heap.size, 0, none⟩ = some (.pointer (some ⟨tb, 0, none⟩)) ∧ X.cell? ⟨w.heap.size + 1, 0, none⟩ = some (.int .i64 (n : Int))) (first | exact ⟨k0, k1⟩ | exact j01 | exact j02) (first
      | (go_at_call 20; refine (Hc.out _ (by exact HWr.out.drew)).mono ?_; rintro e w3 ⟨rfl, hb3⟩; have j01 := Hk.out w3 hb3; have Hb3 := Lib.hid hb3; clear hb3)
      | (go_at_call 44; refine (Hs.out _ Hb3.out).mono ?_; rintro e w4 ⟨rfl, hb4⟩; have j02 := Hk.out w4 hb4; have Hb4 := Lib.hid hb4; clear hb4))
    all_goals
      go_wp2_with fail
      go_ret
      exact ⟨rfl, Hb'.out _ Hb4.out⟩
  · have hm := fun w => Hmay.out w
    rw [decide_eq_false hx] at hm
    have Hm := Lib.hid hm
    rw [show setsV g D Z x = 0 from if_neg hx]
    clear h hx hm Hmay hb hWs e1
    go_enter Try.func26, Try.ntmps26
    go_wp2_with fail
    rw [← hW]
    clear hW
    refine (Hm.out _).mono ?_
    rintro e w1 ⟨rfl, rfl⟩
    go_wp2_with fail
    go_ret
    exact ⟨rfl, Hb.out⟩
end
end Go.Proofs.Ytajpnjapfiffmaa
