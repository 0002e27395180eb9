/-
  Heads: the second saying's, its good answer.
-/
import Derived.Test.YtlficcdbnmheeaaDoorKSg21
import Derived.Test.YtlficcdbnmheeaaDoorKRs8
import Derived.Test.YtlficcdbnmheeaaDoorKKnown
import Derived.Test.YtlficcdbnmheeaaDoorKRs25
import Derived.Test.YtlficcdbnmheeaaDoorKSg5
namespace Go.Proofs.YtlficcdbnmheeaaDoor
open Go.RowKit Go.Sort Go.Lib

theorem headM_get {k p g i : Nat} (hi : i < k + 2) : (headM k p g).getD i [] = headL k p g := by
  rw [headM, List.getD, List.getElem?_replicate, if_pos hi]; rfl
theorem headM_len (k p g : Nat) : (headM k p g).length = k + 2 := by simp [headM]
theorem pageM_snoc {G row : Int} {id : Nat} {M : Mtx} {i : Nat} (h : i < M.length) : (pageM G row id M).take (i + 1) = (pageM G row id M).take i ++ [pageOf G row i id (M.getD i [])] := by
  rw [List.take_add_one, pageM_get h]; rfl
section
set_option maxRecDepth 20000
set_option maxHeartbeats 4000000
theorem rheads_ok (k p g : Nat) (id : Nat) (hok : okS k p g = true) (w : World) (hid : id < two64) :
    Calls Tryd.prog 19 #[shV k p g, .int .u64 (id : Int)] w fun e w' => ∃ A c, e = .returned (.tuple #[.slice A (k + 2) c, .int .i64 0]) ∧ RM w' w'.heap.size A (pageM g 0 id (headM k p g)) ∧ Below w.heap.size w w' := by
  obtain ⟨h1, h2, h3, h4, h5, h6, h7, h8⟩ := okS_facts hok
  have hk : k ≤ 32 := by omega
  have hp : p ≤ 4096 := by omega
  have hg : g ≤ 65536 := by omega
  obtain ⟨W, hW⟩ : ∃ W, W = w.alloc (.cells #[.int .i64 (k : Int), .int .i64 (p : Int), .int .i64 (g : Int)] 28) := ⟨_, rfl⟩
  have hC : Cells W w.heap.size 28 [.int .i64 (k : Int), .int .i64 (p : Int), .int .i64 (g : Int)] := by rw [hW]; exact Cells.new w _ _
  have hB : Below w.heap.size w W := by rw [hW]; exact (Below.refl _ _).alloc (Nat.le_refl _) _
  have HF : Hid (∀ W2, Below W.heap.size W W2 → Below w.heap.size w W2 ∧ W2.cell? ⟨w.heap.size, 0, none⟩ = some (.int .i64 (k : Int)) ∧ W2.cell? ⟨w.heap.size, 1, none⟩ = some (.int .i64 (p : Int)) ∧ W2.cell? ⟨w.heap.size, 2, none⟩ = some (.int .i64 (g : Int))) := fun W2 hb => by
    have hc := hC.move (hb.block _ hC.lt)
    exact ⟨hB.trans (hb.mono hB.size), hc.cell rfl, hc.cell rfl, hc.cell rfl⟩
  have Hck := Lib.hid (rcheck_any (k : Int) (p : Int) (g : Int) W)
  rw [chkS_ok hok] at Hck
  have Hpe : Hid (∀ i : Nat, i < k + 2 → pageErr (g : Int) 0 (i : Int) (headL k p g).length = 0) := fun i hi => by
    have := headL_len (k := k) (p := p) (g := g) (by omega) hp hg
    unfold pageErr
    rw [if_neg (by omega), if_neg (by omega)]
  have Hho := Lib.hid fun W2 => headof_any k p g (by omega) hp hg W2
  have Hpg : Hid (∀ (W2 : World) (i : Nat) (A : Option Addr) (c : Nat), i < k + 2 → Below W.heap.size W W2 → RB W2 W2.heap.size A (headL k p g) → Calls Tryd.prog 47 #[.int .i64 (g : Int), .agg #[.int .u64 (id : Int), .int .i64 0, .int .i64 (i : Int), .int .i64 0], .slice A (headL k p g).length c] W2
      fun e w' => ∃ v, e = .returned (.tuple #[v, .int .i64 0]) ∧ Own w' W.heap.size v (pageOf g 0 i id (headL k p g)) ∧ Below W2.heap.size W2 w') := fun W2 i A c hi hb hr => by
    refine (refPage_any (g : Int) 0 (i : Int) id 0 A c (headL k p g) W2 _ hr (Nat.le_refl _) hid).mono ?_
    rw [Hpe.out i hi]
    rintro e w' ⟨v, he, q1, q2⟩
    exact ⟨v, he, q1.wide hb.size, q2⟩
  have Hsn : Hid (∀ i : Nat, i < k + 2 → (pageM g 0 id (headM k p g)).take (i + 1) = (pageM g 0 id (headM k p g)).take i ++ [pageOf g 0 i id (headL k p g)] ∧ ((pageM g 0 id (headM k p g)).take i).length = i) := fun i hi => by
    rw [pageM_snoc (by rw [headM_len]; exact hi), headM_get hi]
    exact ⟨rfl, by rw [List.length_take, pageM_len, headM_len]; omega⟩
  have Hend : Hid ((pageM g 0 id (headM k p g)).take (k + 2) = pageM g 0 id (headM k p g) ∧ (pageM g 0 id (headM k p g)).length = k + 2) := ⟨List.take_of_length_le (by rw [pageM_len, headM_len]; exact Nat.le_refl _), by rw [pageM_len, headM_len]⟩
  have k0 : (0 : Int) ≤ (k : Int) ∧ (k : Int) ≤ 32 := by omega
  obtain ⟨k1, k2⟩ := k0
  have hwk : IntKind.i64.wrap ((k : Int) + 2) = (k : Int) + 2 := by rw [IntKind.wrap_i64]; omega
  unfold shV at *
  generalize pageM (g : Int) 0 id (headM k p g) = PM at *
  clear hok h1 h2 h3 h4 h5 h6 h7 h8 hk hp hg hC hB hid
  go_enter Tryd.func19, Tryd.ntmps19
  go_wp2_with fail
  rw [← hW]
  clear hW
  have c0 := (HF.out W (Below.refl _ _)).2.1
  have c1 := (HF.out W (Below.refl _ _)).2.2.1
  have c2 := (HF.out W (Below.refl _ _)).2.2.2
  go_wp2_with fail
  refine Hck.out.mono ?_
  rintro e w1 ⟨rfl, hw1⟩
  have H1 : Hid (Below W.heap.size W w1) := by show Below _ _ _; rw [hw1]; exact (Below.refl _ _).alloc (Nat.le_refl _) _
  clear hw1 Hck c0 c1 c2
  go_wp2_with fail
  have h0 : Hid (ListO W (.slice none 0 0) [] (PM.take 0) w1) := by
    rw [List.take_zero]
    exact ListO.nil W w1 H1.out
  go_loopw [7, 6] (fun iv v wr => ∃ i : Nat, iv = .int .i64 (i : Int) ∧ i ≤ k + 2 ∧ ∃ A n c rows, v = .slice A n c ∧ Hid (ListO W v rows (PM.take i) wr)) (fun iv _ _ => (k + 2) - (intOf iv).toNat)
  case atStart => exact ⟨0, rfl, by omega, none, 0, 0, [], rfl, h0⟩
  case round =>
    clear h0
    obtain ⟨i, rfl, hi, A, n, c, rows, rfl, hst⟩ := hrel
    obtain ⟨_, e0, e1, e2⟩ := HF.out wr hst.out.bel
    by_cases hlt : i < k + 2
    · have hlt' : (i : Int) < (k : Int) + 2 := by omega
      have k9 : wr.drew.cell? ⟨w.heap.size, 0, none⟩ = some (.int .i64 (k : Int)) ∧ wr.drew.cell? ⟨w.heap.size, 1, none⟩ = some (.int .i64 (p : Int)) ∧ wr.drew.cell? ⟨w.heap.size, 2, none⟩ = some (.int .i64 (g : Int)) := ⟨e0, e1, e2⟩
      have Hcl : Hid (∀ w2, Below wr.heap.size wr w2 → (w2.cell? ⟨w.heap.size, 0, none⟩ = some (.int .i64 (k : Int)) ∧ w2.cell? ⟨w.heap.size, 1, none⟩ = some (.int .i64 (p : Int)) ∧ w2.cell? ⟨w.heap.size, 2, none⟩ = some (.int .i64 (g : Int)))) := fun w2 hb => (HF.out w2 (hst.out.bel.trans (hb.mono hst.out.bel.size))).2
      have HP : Hid (∀ w2 v, Own w2 wr.drew.heap.size v (headL k p g) → Below wr.drew.heap.size wr.drew w2 → ∃ A2 c2, v = .slice A2 (headL k p g).length c2 ∧ Hid (Below wr.heap.size wr w2) ∧ Hid (Calls Tryd.prog 47 #[.int .i64 (g : Int), .agg #[.int .u64 (id : Int), .int .i64 0, .int .i64 (i : Int), .int .i64 0], .slice A2 (headL k p g).length c2] w2
          fun e w' => ∃ v, e = .returned (.tuple #[v, .int .i64 0]) ∧ Own w' W.heap.size v (pageOf g 0 i id (headL k p g)) ∧ Below wr.heap.size wr w')) := fun w2 v ho hb => by
        have hb' : Below wr.heap.size wr w2 := Below.trans (Below.refl _ _).drew hb
        obtain ⟨A2, c2, rfl, _, hr, _⟩ := ho.rb
        refine ⟨A2, c2, rfl, hb', ?_⟩
        refine (Hpg.out w2 i A2 c2 hlt (hst.out.bel.trans (hb'.mono hst.out.bel.size)) hr).mono ?_
        rintro e w' ⟨v, he, q1, q2⟩
        exact ⟨v, he, q1, hb'.trans (q2.mono hb'.size)⟩
      have HX : Hid (∀ w3 v, Own w3 W.heap.size v (pageOf g 0 i id (headL k p g)) → Below wr.heap.size wr w3 → (∃ A3 n3 c3, v = .slice A3 n3 c3) ∧ Hid (ListO W (.slice A n c) rows (PM.take i) w3 ∧ Own w3 W.heap.size v (pageOf g 0 i id (headL k p g)) ∧ rows.length ≤ 64)) := fun w3 v ho hb => by
        obtain ⟨A3, c3, e, _⟩ := ho.rb
        refine ⟨⟨_, _, _, e⟩, hst.out.below hb, ho, ?_⟩
        have := hst.out.len
        rw [(Hsn.out i hlt).2] at this
        omega
      have HY := Lib.hid (Hsn.out i hlt).1
      generalize (headL k p g).length = hl at *
      generalize pageOf g 0 i id (headL k p g) = pg at *
      clear hst hlt Hsn Hend Hpg
      go_wp2_with fail
      go_upto_region 7 with fail
      go_region_held3 (fun X => X.cell? ⟨w.heap.size, 0, none⟩ = some (.int .i64 (k : Int)) ∧ X.cell? ⟨w.heap.size, 1, none⟩ = some (.int .i64 (p : Int)) ∧ X.cell? ⟨w.heap.size, 2, none⟩ = some (.int .i64 (g : Int))) (first | exact k9 | exact j1 | exact j2) (first
        | (go_at_call 48; refine (Hho.out _).mono ?_; rintro e w2 ⟨v2, rfl, q1, q2⟩; obtain ⟨A2, c2, rfl, q3, Hp⟩ := HP.out w2 v2 q1 q2; have j1 := Hcl.out w2 q3.out; clear q1 q2 q3)
        | (go_at_call 47; refine Hp.out.mono ?_; rintro e w3 ⟨v3, rfl, q1, q2⟩; have j2 := Hcl.out w3 q2; obtain ⟨⟨A3, n3, c3, rfl⟩, H3⟩ := HX.out w3 v3 q1 q2; clear q1 q2))
      all_goals
        clear HX HP Hcl
        go_wp2_with (at_builtin; go_must (refine app_one rfl (.tmp 31) (.tmp 33) 34 25 rfl Tryd.underlying34 (.slice none 0 0) 24 info_row rfl W.heap.size _ _ rfl (OwnV.alloc H3.out.1.head _) ⟨w3.heap.size, 0, none⟩ 1 (.slice A3 n3 c3) rfl (cell_new _ _ _) rfl (by have := H3.out.2.2; omega) (by have := H3.out.2.2; omega) (by have := H3.out.1.bel.size; simp; omega) ?_); intro v9 W9 hown9 hg9 _; have Hn9 : Hid (∃ A n c, v9 = .slice A n c ∧ ListO W v9 (rows ++ [.slice A3 n3 c3]) (PM.take (i + 1)) W9) := by {rw [HY.out]; have hz := (H3.out.1.alloc _).push (H3.out.2.1.alloc _) hown9 hg9; obtain ⟨A9, c9, e9, _⟩ := hz.rm; exact ⟨_, _, _, e9, hz⟩}; clear hown9 hg9)
        obtain ⟨A9, n9, c9, rfl, hz9⟩ := Hn9.out
        have Hz9 := Lib.hid hz9
        clear hz9 Hn9
        go_wp2_with fail
        go_roundw
        case rel => exact ⟨i + 1, by go_num, by omega, A9, n9, c9, _, rfl, Hz9⟩
        case measure => simp [intOf]; omega
    · obtain rfl : i = k + 2 := by omega
      have Hf : Hid (∃ A' c', (.slice A n c : Value) = .slice A' (k + 2) c' ∧ RM wr wr.heap.size A' PM ∧ Below w.heap.size w wr) := by
        obtain ⟨A', c', q1, _, q2⟩ := hst.out.rm
        rw [Hend.out.1] at q1 q2
        rw [Hend.out.2] at q1
        exact ⟨A', c', q1, q2, (HF.out wr hst.out.bel).1⟩
      obtain ⟨A', c', q, hf⟩ := Hf.out
      cases q
      have Hff := Lib.hid hf
      have hlt' : ¬ ((k : Int) + 2 < (k : Int) + 2) := by omega
      clear hst hlt hf Hf
      go_wp2_with fail
      go_ret2
      exact ⟨_, ⟨_, rfl⟩, Hff.out⟩
end
end Go.Proofs.YtlficcdbnmheeaaDoor

/-
  Pages: the second saying's, its good answer.
-/
namespace Go.Proofs.YtlficcdbnmheeaaDoor
open Go.RowKit Go.Sort Go.Lib

def lenW9 : Value → Nat
  | .slice _ n _ => n
  | _ => 0
theorem slice_two (A : Addr) (L c a s : Nat) (has : a < s) (hsc : s ≤ c) (W : World) :
    (Instr.slice 25 (.slice (some A) L c) (some (.int .i64 (a : Int))) (some (.int .i64 (s : Int))) none).run Tryd.prog W = .ok (.slice (some (A.add a)) (s - a) (c - a)) W := by
  have he : Tryd.prog.elem 25 = 5 := by simp [Program.elem, Tryd.underlying25]
  have hz : ∀ w, (Go.sizeOf 5).run Tryd.prog w = .ok 1 w := fun w => by kernel_rfl
  rw [run_slice_lh W 25 _ _ _ (by rw [he]; exact Tryd.underlying25) .i64 .i64 _ _ (by omega) (by omega) (by omega), he, hz]
  have e : ¬ c = a := by omega
  simp [Result.andThen, sliced, e]
theorem padN_succ {j : Nat} {d : List UInt8} (h : d.length ≤ j) : padN j d ++ [0] = padN (j + 1) d := by
  rw [padN, padN, show j + 1 - d.length = (j - d.length) + 1 by omega, List.replicate_succ', List.append_assoc]
theorem padN_self (d : List UInt8) : padN d.length d = d := by simp [padN]
theorem cutN_snoc {b : List UInt8} {c n i : Nat} (h : i < n) : (cutN b c n).take (i + 1) = (cutN b c n).take i ++ [(b.drop (i * c)).take c] := by
  rw [List.take_add_one, cutN_get h]; rfl
/-- rows that lie lower, and two more of the program's making, behind one another -/
theorem join_rows {wb wr w7 w8 : World} {v v8 : Value} {rows rows7 : List Value} {M M7 : Mtx} {g7 : Nat} (h : ListR wb v rows M wr) (hM : 1 ≤ M.length) (hb : Below wr.heap.size wr w7)
    (_h7 : RowsV w7 rows7 M7) (hk : ∀ (w' : World) (x : Nat), w7.grownBy w' (some x) → (x = g7 ∨ x < wr.heap.size) → RowsV w' rows7 M7) (ho : OwnV w8 wb.heap.size 25 v8 (rows ++ rows7)) (hg : w7.grownBy w8 v.ownBlock) :
    ∃ A c, v8 = .slice A (M.length + M7.length) c ∧ RM w8 w8.heap.size A (M ++ M7) ∧ Below wb.heap.size wb w8 := by
  have L7 := h.below hb
  have r1 : RowsV w8 rows M := ⟨L7.len, fun i r l hr hl => by
    obtain ⟨A, c, e, q1, q2⟩ := L7.rows i r l hr hl
    have hsz := hg.size
    have := L7.bel.size
    exact ⟨A, c, e, (q1.grown hg L7.bel.size fun g hg2 => (L7.head.ge g hg2).1).wide (by omega), q2⟩⟩
  have r2 : RowsV w8 rows7 M7 := by
    rcases h.head.form with ⟨_, e⟩ | ⟨g, cap, cur, e, _⟩
    · have := h.len
      rw [e] at this
      simp at this
      omega
    · have hx : v.ownBlock = some g := by rw [e]; rfl
      rw [hx] at hg
      exact hk w8 g hg (.inr (h.head.ge g hx).2)
  obtain ⟨A, c, e, hrm⟩ := rm_of ho (r1.append r2)
  exact ⟨A, c, by rw [e, List.length_append], hrm, L7.bel.grown hg L7.bel.size fun g hg2 => (L7.head.ge g hg2).1⟩
theorem ListO.rml {w wr : World} {v : Value} {rows : List Value} {M : Mtx} (h : ListO w v rows M wr) : ∃ A c, v = .slice A M.length c ∧ RML wr w.heap.size wr.heap.size A M := by
  obtain ⟨A, c, e, _, _, hrd⟩ := h.head.rd
  rw [h.len] at e
  refine ⟨A, c, e, fun i l hl => ?_⟩
  obtain ⟨r, hr⟩ : ∃ r, rows[i]? = some r := ⟨_, List.getElem?_eq_getElem (by rw [h.len]; exact (List.getElem?_eq_some_iff.1 hl).1)⟩
  obtain ⟨b, eA, hb, hcell⟩ := hrd i r hr
  have ho := h.rows i r l hr hl
  obtain ⟨A', c', e', h1, h2, _⟩ := ho.rb
  subst e'
  have hge := (h.head.ge b (by rw [e, eA]; rfl)).1
  exact ⟨b, 0, A', c', eA, hge, hb, by rw [Nat.zero_add]; exact hcell, h2, h1, own_lo ho⟩
section
set_option maxRecDepth 20000
set_option maxHeartbeats 4000000
theorem rpages_okL (k c cp : Nat) (P G row : Int) (id : Nat) (A : Option Addr) (d : List UInt8) (w : World) (hok : okS k P G = true) (hcG : roomOf G = (c : Int)) (hrow : 1 ≤ row ∧ row < P) (hr : RB w w.heap.size A d) (hd : d.length ≤ k * c) (hid : id < two64) :
    Calls Tryd.prog 22 #[shV k P G, .int .u64 (id : Int), .int .i64 row, .slice A d.length cp] w fun e w' => ∃ A' c', e = .returned (.tuple #[.slice A' (k + 2) c', .int .i64 0]) ∧ RML w' w.heap.size w'.heap.size A' (pageM G row id (rowM k c d)) ∧ Below w.heap.size w w' := by
  obtain ⟨h1, h2, h3, h4, h5, h6, h7, h8⟩ := okS_facts hok
  have hk1 : 1 ≤ k := by omega
  have hk2 : k ≤ 32 := by omega
  have hc1 : 13 ≤ c := by omega
  have hc2 : c ≤ 65535 := by omega
  have hrv : rowS k P G = ((k * c : Nat) : Int) := by rw [rowS_ok hok, hcG]; simp
  have hR2 : k * c ≤ 32 * 65535 := Nat.mul_le_mul hk2 hc2
  have hR1 : 1 * 13 ≤ k * c := Nat.mul_le_mul hk1 hc1
  obtain ⟨W, hW⟩ : ∃ W, W = w.alloc (.cells #[.int .i64 (k : Int), .int .i64 P, .int .i64 G] 28) := ⟨_, rfl⟩
  have hC : Cells W w.heap.size 28 [.int .i64 (k : Int), .int .i64 P, .int .i64 G] := by rw [hW]; exact Cells.new w _ _
  have hB : Below w.heap.size w W := by rw [hW]; exact (Below.refl _ _).alloc (Nat.le_refl _) _
  have HF : Hid (∀ W2, Below W.heap.size W W2 → Below w.heap.size w W2 ∧ W2.cell? ⟨w.heap.size, 0, none⟩ = some (.int .i64 (k : Int)) ∧ W2.cell? ⟨w.heap.size, 1, none⟩ = some (.int .i64 P) ∧ W2.cell? ⟨w.heap.size, 2, none⟩ = some (.int .i64 G)) := fun W2 hb => by
    have hc := hC.move (hb.block _ hC.lt)
    exact ⟨hB.trans (hb.mono hB.size), hc.cell rfl, hc.cell rfl, hc.cell rfl⟩
  have HG : Hid (∀ W2 W3, Below W.heap.size W W2 → Gr W2 W3 → Below W.heap.size W W3) := fun W2 W3 hb hg => hb.trans (hg.below.mono hb.size)
  have Hck := Lib.hid (rcheck_any (k : Int) P G W)
  rw [chkS_ok hok] at Hck
  obtain ⟨R, hR⟩ : ∃ R, R = k * c := ⟨_, rfl⟩
  rw [← hR] at hrv hR2 hR1 hd
  have Hrow := Lib.hid fun W2 => rrow_any (k : Int) P G W2
  rw [hrv] at Hrow
  have Hroom := Lib.hid fun W2 => refRoom_any G W2
  rw [hcG] at Hroom
  have hplen : (padN (k * c) d).length = k * c := padN_len (by rw [← hR]; exact hd)
  have Hpl := Lib.hid (rowM_par hk1 (by omega : 1 ≤ c) (by rw [← hR]; exact hd))
  have hrowlen := rowM_len hk1 (by omega : 1 ≤ c) (by rw [← hR]; exact hd : d.length ≤ k * c)
  have Hpg : Hid (∀ (W2 : World) (i : Nat) (A : Option Addr) (cc : Nat) (l : List UInt8), (rowM k c d)[i]? = some l → RB W2 W2.heap.size A l → Calls Tryd.prog 47 #[.int .i64 G, .agg #[.int .u64 (id : Int), .int .i64 row, .int .i64 (i : Int), .int .i64 0], .slice A c cc] W2
      fun e w' => ∃ v, e = .returned (.tuple #[v, .int .i64 0]) ∧ Own w' W2.heap.size v (pageOf G row i id l) ∧ Below W2.heap.size W2 w') := fun W2 i A cc l hl hr => by
    have hi : i < k + 2 := by have := (List.getElem?_eq_some_iff.1 hl).1; rwa [hrowlen] at this
    have hlc : l.length = c := rowM_row hk1 (by omega) (by rw [← hR]; exact hd) hl
    have := refPage_any G row (i : Int) id 0 A cc l W2 _ hr (Nat.le_refl _) hid
    rw [hlc, pageErr_zero hcG (by omega) (by omega) (by omega) (by omega)] at this
    exact this
  have Hsn : Hid (∀ (i : Nat) (l : List UInt8), (rowM k c d)[i]? = some l → (pageM G row id (rowM k c d)).take (i + 1) = (pageM G row id (rowM k c d)).take i ++ [pageOf G row i id l] ∧ ((pageM G row id (rowM k c d)).take i).length = i) := fun i l hl => by
    have hi := (List.getElem?_eq_some_iff.1 hl).1
    rw [pageM_snoc hi, List.getD, hl]
    exact ⟨rfl, by rw [List.length_take, pageM_len]; omega⟩
  have Hend : Hid ((pageM G row id (rowM k c d)).take (k + 2) = pageM G row id (rowM k c d) ∧ (pageM G row id (rowM k c d)).length = k + 2 ∧ (rowM k c d).length = k + 2) := ⟨List.take_of_length_le (by rw [pageM_len, hrowlen]; exact Nat.le_refl _), by rw [pageM_len, hrowlen], hrowlen⟩
  have Hpar : Hid (∀ (W2 : World) (A : Option Addr) (cc : Nat), RM W2 W2.heap.size A (cutN (padN (k * c) d) c k) → Calls Tryd.prog 52 #[.int .i64 (k : Int), .slice A k cc] W2 fun e w' => ∃ g, e = .returned (.tuple #[.slice (some ⟨g, 0, none⟩) 2 2, .int .i64 0]) ∧ MatO w' W2.heap.size w'.heap.size (.slice (some ⟨g, 0, none⟩) 2 2) (parL k (cutN (padN (k * c) d) c k)) ∧ Below W2.heap.size W2 w') := fun W2 A cc hr =>
    rpar_ok k cc c A _ W2 hr (cutN_len _ _ _).symm hk1 (by omega) (by omega) (by omega) fun t l hl => cutN_row (by rw [hplen]; exact Nat.le_refl _) hl
  have Hrl : Hid (∀ (i : Nat) (l : List UInt8), (rowM k c d)[i]? = some l → l.length = c) := fun i l hl => rowM_row hk1 (by omega) (by rw [← hR]; exact hd) hl
  have hrl1 : ¬ row < 1 := by omega
  have hrl2 : ¬ P ≤ row := by omega
  obtain ⟨dl, hdl⟩ : ∃ dl, dl = d.length := ⟨_, rfl⟩
  have Hdl := Lib.hid hdl
  have HN : Hid (R = k * c ∧ 1 ≤ k ∧ k ≤ 32 ∧ 13 ≤ c ∧ c ≤ 65535 ∧ R ≤ 2097120 ∧ 13 ≤ R ∧ dl ≤ R ∧ (padN (k * c) d).length = k * c) := ⟨hR, hk1, hk2, hc1, hc2, by omega, by omega, by omega, hplen⟩
  rw [← hdl] at hd ⊢
  have Hr := Lib.hid hr
  have hRb : (R : Int) ≤ 2097120 := by omega
  have hdR : ¬ (R : Int) < (dl : Int) := by omega
  have hcb : (13 : Int) ≤ (c : Int) ∧ (c : Int) ≤ 65535 := by omega
  obtain ⟨hcb1, hcb2⟩ := hcb
  have hkb : (1 : Int) ≤ (k : Int) ∧ (k : Int) ≤ 32 := by omega
  obtain ⟨hkb1, hkb2⟩ := hkb
  obtain ⟨_, c0, c1, c2⟩ := HF.out W (Below.refl _ _)
  have HWr : Hid (RB W w.heap.size A d) := hr.below hB
  have HWs : Hid (w.heap.size < W.heap.size) := hC.lt
  unfold shV at *
  generalize pageM G row id (rowM k c d) = PM at *
  clear hok h1 h2 h3 h4 h5 h6 h7 h8 hk1 hk2 hc1 hc2 hrv hR2 hR1 hR hd hr hdl hcG hrow hid hplen hrowlen hC hB
  go_enter Tryd.func22, Tryd.ntmps22
  go_wp2_with fail
  rw [← hW]
  clear hW
  refine Hck.out.mono ?_
  rintro e w1 ⟨rfl, hw1⟩
  have H1 : Hid (Below W.heap.size W w1) := by show Below _ _ _; rw [hw1]; exact (Below.refl _ _).alloc (Nat.le_refl _) _
  clear hw1 Hck c0 c1 c2
  obtain ⟨_, c0, c1, c2⟩ := HF.out w1 H1.out
  go_wp2_with fail
  refine (Hrow.out w1).mono ?_
  rintro e w2 ⟨rfl, hg2⟩
  have H2 := Lib.hid (HG.out w1 w2 H1.out hg2)
  clear hg2 c0 c1 c2
  obtain ⟨_, c0, c1, c2⟩ := HF.out w2 H2.out
  go_wp2_with fail
  refine (Hroom.out w2).mono ?_
  rintro e w2' ⟨rfl, rfl⟩
  have Hrb2 : Hid (RB (w2.alloc (.cells #[] 5)) w.heap.size A d) := HWr.out.below ((H2.out.alloc H2.out.size _).mono (Nat.le_of_lt HWs.out))
  go_wp2_with (at_builtin; refine app_bytes rfl (.tmp 41) (.tmp 42) rfl W.heap.size _ [] rfl (Own.made w2 _ H2.out.size) _ A dl cp d rfl Hdl.out Hrb2.out (by have := HN.out; have := Hdl.out; simp; omega) (by have := H2.out.size; simp; omega) ?_; intro v4 w4 hown4 hbel4 _)
  obtain ⟨A4, c4, hv4, _⟩ := hown4.rb
  have hv4' : v4 = .slice A4 dl c4 := by rw [hv4]; show Value.slice A4 d.length c4 = _; rw [Hdl.out]
  subst hv4'
  have h0 : Hid (Own w4 W.heap.size (.slice A4 dl c4) (padN dl d) ∧ Below W.heap.size W w4) := by
    refine ⟨?_, (H2.out.alloc H2.out.size _).trans hbel4⟩
    rw [Hdl.out, padN_self]
    rw [Hdl.out] at hown4
    exact hown4
  clear hown4 hbel4 Hrb2 hv4 c0 c1 c2 H2 H1 Hroom
  go_wp2_with fail
  go_loopw [11] (fun v wr => ∃ j A c, v = .slice A j c ∧ dl ≤ j ∧ j ≤ R ∧ Hid (Own wr W.heap.size v (padN j d) ∧ Below W.heap.size W wr)) (fun v _ => R - lenW9 v)
  case atStart => exact ⟨dl, A4, c4, rfl, Nat.le_refl _, by have := HN.out; omega, h0⟩
  case round =>
    clear h0
    obtain ⟨j, A5, c5, rfl, hj1, hj2, hst⟩ := hrel
    obtain ⟨_, c0, c1, c2⟩ := HF.out wr hst.out.2
    go_wp2_with fail
    refine (Hrow.out wr).mono ?_
    rintro e w5 ⟨rfl, hg5⟩
    have H5 : Hid (Own w5 W.heap.size (.slice A5 j c5) (padN j d) ∧ Below W.heap.size W w5 ∧ (padN j d).length = j) := ⟨hst.out.1.below hg5.below, HG.out wr w5 hst.out.2 hg5, padN_len (by rw [← Hdl.out]; exact hj1)⟩
    clear hg5 hst c0 c1 c2
    by_cases hlt : j < R
    · have hlt' : (j : Int) < (R : Int) := by omega
      go_wp2_with (at_builtin; refine app_bytes rfl (.tmp 49) (.tmp 50) rfl W.heap.size _ (padN j d) rfl (H5.out.1.alloc _) (w5.heap.size + 1) (some ⟨w5.heap.size, 0, none⟩) 1 1 [0] rfl rfl (RB.new w5 _ _ [0] rfl) (by have := HN.out; rw [H5.out.2.2]; simp; omega) (by have := H5.out.2.1.size; simp; omega) ?_; intro v6 w6 hown6 hbel6 _; have Hn6 : Hid (∃ A c, v6 = .slice A (j + 1) c ∧ Own w6 W.heap.size v6 (padN (j + 1) d) ∧ Below W.heap.size W w6) := by {rw [padN_succ (by rw [← Hdl.out]; exact hj1)] at hown6; obtain ⟨A6, c6, e6, _⟩ := hown6.rb; rw [padN_len (by rw [← Hdl.out]; omega)] at e6; exact ⟨A6, c6, e6, hown6, (H5.out.2.1.alloc H5.out.2.1.size _).trans hbel6⟩}; clear hown6 hbel6)
      obtain ⟨A6, c6, rfl, h6⟩ := Hn6.out
      have H6 := Lib.hid h6
      clear h6 Hn6
      go_wp2_with fail
      go_roundw
      case rel => exact ⟨j + 1, A6, c6, rfl, by omega, by omega, H6⟩
      case measure => simp [lenW9]; omega
    · obtain rfl : R = j := by omega
      obtain ⟨g, cap, eg, hg1, hg2, hg3, _⟩ := H5.out.1.form (by rw [H5.out.2.2]; have := HN.out; omega)
      rw [H5.out.2.2] at eg hg3
      cases eg
      have Hpad : Hid (RB w5 w5.heap.size (some ⟨g, 0, none⟩) (padN (k * c) d) ∧ Below W.heap.size W w5) := by
        obtain ⟨A', c', e', _, hrb, _⟩ := H5.out.1.rb
        have e2 := (Value.slice.inj e').1
        rw [← e2] at hrb
        have := HN.out.1
        rw [this] at hrb
        exact ⟨hrb, H5.out.2.1⟩
      have hRc : (R : Int) ≤ (c5 : Int) := by omega
      clear H5 hlt hg1 hg2
      go_wp2_with fail
      have h0 : Hid (ListR w5 (.slice none 0 0) [] ((cutN (padN (k * c) d) c k).take 0) w5) := by
        rw [List.take_zero]
        exact ListR.nil w5 w5 (Below.refl _ _)
      go_loopw [13, 12] (fun iv v wr => ∃ i : Nat, iv = .int .i64 (i : Int) ∧ i ≤ k ∧ ∃ A n c1 rows, v = .slice A n c1 ∧ Hid (ListR w5 v rows ((cutN (padN (k * c) d) c k).take i) wr)) (fun iv _ _ => k - (intOf iv).toNat)
      case atStart => exact ⟨0, rfl, by omega, none, 0, 0, [], rfl, h0⟩
      case round =>
        clear h0
        obtain ⟨i, rfl, hi, A7, n7, c7, rows, rfl, hst⟩ := hrel
        obtain ⟨_, e0, e1, e2⟩ := HF.out wr (Hpad.out.2.trans (hst.out.bel.mono Hpad.out.2.size))
        by_cases hlt : i < k
        · have hlt' : (i : Int) < (k : Int) := by omega
          obtain ⟨a, ha⟩ : ∃ a, a = i * c := ⟨_, rfl⟩
          have hm1 : (i : Int) * (c : Int) = (a : Int) := by rw [ha]; simp
          obtain ⟨n1, n2, n3, n4, n5, n6, n7', n8, n9⟩ := HN.out
          have hac : a + c ≤ R := by
            have : (i + 1) * c ≤ k * c := Nat.mul_le_mul_right c hlt
            rw [Nat.succ_mul, ← ha, ← n1] at this
            exact this
          have hab : (a : Int) ≤ 2097120 := by omega
          have hsl : ∀ W2, (Instr.slice 25 (.slice (some ⟨g, 0, none⟩) R c5) (some (.int .i64 (a : Int))) (some (.int .i64 ((a : Int) + (c : Int)))) none).run Tryd.prog W2 = .ok (.slice (some ⟨g, a, none⟩) c (c5 - a)) W2 := fun W2 => by
            have := slice_two ⟨g, 0, none⟩ R c5 a (a + c) (by omega) (by omega) W2
            rw [add_flat, Nat.zero_add, show a + c - a = c by omega, show ((a + c : Nat) : Int) = (a : Int) + (c : Int) by omega] at this
            exact this
          have HX : Hid (OwnV wr w5.heap.size 25 (.slice A7 n7 c7) rows ∧ rows.length ≤ 64 ∧ w5.heap.size ≤ wr.heap.size ∧ ∀ o v' w', OwnV w' w5.heap.size 25 v' (rows ++ [.slice (some ⟨g, a, none⟩) c (c5 - a)]) → (wr.alloc o).grownBy w' (Value.slice A7 n7 c7).ownBlock → ∃ A n c1 rows, v' = .slice A n c1 ∧ Hid (ListR w5 v' rows ((cutN (padN (k * c) d) c k).take (i + 1)) w')) := by
            refine ⟨hst.out.head, ?_, hst.out.bel.size, fun o v' w' q1 q2 => ?_⟩
            · have := hst.out.len
              rw [List.length_take] at this
              omega
            · have hll : ((padN (k * c) d).drop (i * c) |>.take c).length = c := by rw [List.length_take, List.length_drop, n9, ← n1, ← ha]; omega
              have hrb : RB (wr.alloc o) w5.heap.size (some ⟨g, a, none⟩) ((padN (k * c) d).drop (i * c) |>.take c) := by
                have h9 := ((Hpad.out.1.cutFlat (i * c)).take c).below (hst.out.bel.alloc hst.out.bel.size o)
                rw [Nat.zero_add, ← ha] at h9
                rw [← ha]
                exact h9
              have hz := (hst.out.alloc o).push (A := some ⟨g, a, none⟩) (c := c5 - a) (l := (padN (k * c) d).drop (i * c) |>.take c) hrb (by rw [hll]; omega) (by rw [hll]; exact q1) q2
              rw [← cutN_snoc hlt] at hz
              obtain ⟨A9, c9, e9, _⟩ := hz.rm
              exact ⟨_, _, _, _, e9, hz⟩
          have hcp : (a : Int) + (c : Int) ≤ (c5 : Int) := by omega
          clear hst ha n1 n2 n3 n4 n5 n6 n7' n8 n9 hac hlt
          go_wp2_with (at_builtin; go_must (refine app_one rfl (.tmp 58) (.tmp 69) 34 25 rfl Tryd.underlying34 (.slice none 0 0) 24 info_row rfl w5.heap.size _ rows rfl (OwnV.alloc HX.out.1 _) ⟨wr.heap.size, 0, none⟩ 1 (.slice (some ⟨g, a, none⟩) c (c5 - a)) rfl (cell_new _ _ _) rfl (by have := HX.out.2.1; omega) (by have := HX.out.2.1; omega) (by have := HX.out.2.2.1; simp; omega) ?_); intro v9 W9 hown9 hg9 _; have Hn9 := Lib.hid (HX.out.2.2.2 _ v9 W9 hown9 hg9); clear hown9 hg9)
          obtain ⟨A9, n9, c9, rows9, rfl, Hz9⟩ := Hn9.out
          clear Hn9 HX hsl
          go_wp2_with fail
          go_roundw
          case rel => exact ⟨i + 1, by go_num, by omega, A9, n9, c9, rows9, rfl, Hz9⟩
          case measure => simp [intOf]; omega
        · obtain rfl : k = i := by omega
          have hL := hst.out
          rw [List.take_of_length_le (by rw [cutN_len]; exact Nat.le_refl _)] at hL
          obtain ⟨A8, c8, e8, _, hrm⟩ := hL.rm
          rw [cutN_len] at e8
          cases e8
          have HL := Lib.hid hL
          have Hc := Lib.hid (Hpar.out wr A7 c7 hrm)
          clear hst hL hrm hlt Hpar
          go_wp2_with fail
          refine Hc.out.mono ?_
          rintro e w7 ⟨g7, rfl, hm7, hb7⟩
          obtain ⟨rows7, _, hv7, hcell7, hk7⟩ := mat_both hm7
          have H7 : Hid (OwnV w7 w5.heap.size 25 (.slice A7 k c7) rows ∧ rows7.length = 2 ∧ rows.length ≤ 64 ∧ w5.heap.size ≤ w7.heap.size ∧ (∀ (j : Nat) (r : Value), rows7[j]? = some r → w7.cell? ⟨g7, j, none⟩ = some r) ∧ (∀ u ∈ rows7, u.oneCell' = true) ∧ ∀ v' w', OwnV w' w5.heap.size 25 v' (rows ++ rows7) → w7.grownBy w' (Value.slice A7 k c7).ownBlock → ∃ A c1, v' = .slice A (k + 2) c1 ∧ Hid (RM w' w'.heap.size A (rowM k c d) ∧ Below W.heap.size W w')) := by
            have L7 := HL.out.below hb7
            refine ⟨L7.head, by rw [hv7.1, Hpl.out.1], ?_, L7.bel.size, hcell7, hv7.one, fun v' w' q1 q2 => ?_⟩
            · have := HL.out.len
              rw [cutN_len] at this
              omega
            · obtain ⟨A9, c9, e9, r9, b9⟩ := join_rows HL.out (by rw [cutN_len]; exact HN.out.2.1) hb7 hv7 hk7 q1 q2
              rw [cutN_len, Hpl.out.1] at e9
              exact ⟨A9, c9, e9, r9, Hpad.out.2.trans (b9.mono Hpad.out.2.size)⟩
          clear hm7 hb7 hv7 hcell7 hk7 Hc HL e0 e1 e2
          go_wp2_with (at_builtin; go_must (refine app_many rfl (.tmp 78) (.tmp 79) 34 25 rfl Tryd.underlying34 (.slice none 0 0) 24 info_row rfl w5.heap.size _ rows rfl H7.out.1 ⟨g7, 0, none⟩ 2 2 rows7 rfl H7.out.2.1.symm (fun j u hj => by rw [add_flat, Nat.zero_add]; exact H7.out.2.2.2.2.1 j u hj) H7.out.2.2.2.2.2.1 (by have := H7.out.2.1; have := H7.out.2.2.1; omega) (by have := H7.out.2.1; have := H7.out.2.2.1; omega) H7.out.2.2.2.1 ?_); intro v8 w8 hown8 hg8 _; have H8 := Lib.hid (H7.out.2.2.2.2.2.2 v8 w8 hown8 hg8); clear hown8 hg8)
          obtain ⟨A9, c9, rfl, h9⟩ := H8.out
          clear H8 H7 Hpad
          have h0 : Hid (ListO w8 (.slice none 0 0) [] (PM.take 0) w8) := by
            rw [List.take_zero]
            exact ListO.nil w8 w8 (Below.refl _ _)
          go_wp2_with fail
          go_loopw [17, 16] (fun iv v wr => ∃ i : Nat, iv = .int .i64 (i : Int) ∧ i ≤ k + 2 ∧ ∃ A n c1 rows, v = .slice A n c1 ∧ Hid (ListO w8 v rows (PM.take i) wr)) (fun iv _ _ => (k + 2) - (intOf iv).toNat)
          case atStart => exact ⟨0, rfl, by omega, none, 0, 0, [], rfl, h0⟩
          case round =>
            clear h0
            obtain ⟨i, rfl, hi, A3, n3, c3, rows3, rfl, hst⟩ := hrel
            obtain ⟨_, e0, e1, e2⟩ := HF.out wr (h9.out.2.trans (hst.out.bel.mono h9.out.2.size))
            by_cases hlt : i < k + 2
            · have hlt' : (i : Int) < (k : Int) + 2 := by omega
              obtain ⟨l, hl⟩ : ∃ l, (rowM k c d)[i]? = some l := ⟨_, List.getElem?_eq_getElem (by rw [Hend.out.2.2]; exact hlt)⟩
              obtain ⟨b9, o9, A', c', rfl, hb9, hcell9, hrb9, _⟩ := (h9.out.1.below hst.out.bel) i l hl
              rw [Hrl.out i l hl] at hcell9
              have k9 : wr.drew.cell? ⟨w.heap.size, 2, none⟩ = some (.int .i64 G) ∧ wr.drew.cell? ⟨b9, o9 + i, none⟩ = some (.slice A' c c') := ⟨e2, hcell9⟩
              have Hp : Hid (Calls Tryd.prog 47 #[.int .i64 G, .agg #[.int .u64 (id : Int), .int .i64 row, .int .i64 (i : Int), .int .i64 0], .slice A' c c'] wr.drew
                  fun e w' => ∃ A5 n5 c5, e = .returned (.tuple #[.slice A5 n5 c5, .int .i64 0]) ∧ (w'.cell? ⟨w.heap.size, 2, none⟩ = some (.int .i64 G) ∧ w'.cell? ⟨b9, o9 + i, none⟩ = some (.slice A' c c')) ∧ Hid (ListO w8 (.slice A3 n3 c3) rows3 (PM.take i) w' ∧ Own w' w8.heap.size (.slice A5 n5 c5) (pageOf G row i id l) ∧ rows3.length ≤ 64)) := by
                refine (Hpg.out wr.drew i A' c' l hl (hrb9.drew.wide hst.out.bel.size)).mono ?_
                rintro e w' ⟨v, rfl, q1, q2⟩
                have hb : Below wr.heap.size wr w' := Below.trans (Below.refl _ _).drew q2
                obtain ⟨A5, c5, rfl, _⟩ := q1.rb
                refine ⟨_, _, _, rfl, ⟨(hb.cell (p := ⟨w.heap.size, 2, none⟩) (World.block_lt_of_cell? _ _ e2)).trans e2, (hb.cell (p := ⟨b9, o9 + i, none⟩) (World.block_lt_of_cell? _ _ hcell9)).trans hcell9⟩, hst.out.below hb, q1.wide hst.out.bel.size, ?_⟩
                have := hst.out.len
                rw [(Hsn.out i l hl).2] at this
                have := HN.out
                omega
              have HY := Lib.hid (Hsn.out i l hl).1
              generalize pageOf G row i id l = pg at *
              clear hst hlt Hsn Hend Hpg hl hrb9 hcell9 hb9 e0 e1 e2 h9
              go_wp2_with fail
              go_upto_region 20 with fail
              go_region_held3 (fun X => X.cell? ⟨w.heap.size, 2, none⟩ = some (.int .i64 G) ∧ X.cell? ⟨b9, o9 + i, none⟩ = some (.slice A' c c')) (first | exact k9 | exact j2) (first
                | (go_at_call 47; refine Hp.out.mono ?_; rintro e w9 ⟨A5, n5, c5, rfl, j2, H9⟩)
                | fail)
              all_goals
                clear Hp
                go_wp2_with (at_builtin; go_must (refine app_one rfl (.tmp 101) (.tmp 103) 34 25 rfl Tryd.underlying34 (.slice none 0 0) 24 info_row rfl w8.heap.size _ rows3 rfl (OwnV.alloc H9.out.1.head _) ⟨w9.heap.size, 0, none⟩ 1 (.slice A5 n5 c5) rfl (cell_new _ _ _) rfl (by have := H9.out.2.2; omega) (by have := H9.out.2.2; omega) (by have := H9.out.1.bel.size; simp; omega) ?_); intro v10 W10 hown10 hg10 _; have Hn10 : Hid (∃ A n c, v10 = .slice A n c ∧ ListO w8 v10 (rows3 ++ [.slice A5 n5 c5]) (PM.take (i + 1)) W10) := by {rw [HY.out]; have hz := (H9.out.1.alloc _).push (H9.out.2.1.alloc _) hown10 hg10; obtain ⟨A9, c9, e9, _⟩ := hz.rm; exact ⟨_, _, _, e9, hz⟩}; clear hown10 hg10)
                obtain ⟨A10, n10, c10, rfl, hz10⟩ := Hn10.out
                have Hz10 := Lib.hid hz10
                clear hz10 Hn10
                go_wp2_with fail
                go_roundw
                case rel => exact ⟨i + 1, by go_num, by omega, A10, n10, c10, _, rfl, Hz10⟩
                case measure => simp [intOf]; omega
            · obtain rfl : i = k + 2 := by omega
              have Hf : Hid (∃ A' c', (.slice A3 n3 c3 : Value) = .slice A' (k + 2) c' ∧ RML wr w.heap.size wr.heap.size A' PM ∧ Below w.heap.size w wr) := by
                obtain ⟨A', c', q1, q2⟩ := hst.out.rml
                rw [Hend.out.1] at q1 q2
                rw [Hend.out.2.1] at q1
                exact ⟨A', c', q1, q2.low (Nat.le_trans (Nat.le_of_lt HWs.out) h9.out.2.size), (HF.out wr (h9.out.2.trans (hst.out.bel.mono h9.out.2.size))).1⟩
              obtain ⟨A', c', q, hf⟩ := Hf.out
              cases q
              have Hff := Lib.hid hf
              have hlt' : ¬ ((k : Int) + 2 < (k : Int) + 2) := by omega
              clear hst hlt hf Hf
              go_wp2_with fail
              go_ret2
              exact ⟨_, ⟨_, rfl⟩, Hff.out⟩
theorem rpages_ok (k c cp : Nat) (P G row : Int) (id : Nat) (A : Option Addr) (d : List UInt8) (w : World) (hok : okS k P G = true) (hcG : roomOf G = (c : Int)) (hrow : 1 ≤ row ∧ row < P) (hr : RB w w.heap.size A d) (hd : d.length ≤ k * c) (hid : id < two64) :
    Calls Tryd.prog 22 #[shV k P G, .int .u64 (id : Int), .int .i64 row, .slice A d.length cp] w fun e w' => ∃ A' c', e = .returned (.tuple #[.slice A' (k + 2) c', .int .i64 0]) ∧ RM w' w'.heap.size A' (pageM G row id (rowM k c d)) ∧ Below w.heap.size w w' :=
  (rpages_okL k c cp P G row id A d w hok hcG hrow hr hd hid).mono fun e w' ⟨A', c', h1, h2, h3⟩ => ⟨A', c', h1, h2.rm, h3⟩
end
end Go.Proofs.YtlficcdbnmheeaaDoor
