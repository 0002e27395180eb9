/-
  The law's known example.
-/
import Derived.Test.YtejimgjonhaocaaMe10
namespace Go.Proofs.Ytejimgjonhaocaa
open Go.RowKit Go.Maps Go.Lib Go.Sort

def exL1 : List Md := mkL [] 1 0 0 10
def exL2 : List Md := fixL exL1 1
def exL3 : List Md := mkL exL2 2 1 4 5
def exL4 : List Md := mkL exL3 3 1 4 9
theorem ex_ok : Ok 4 2 exL1 ∧ Ok 4 2 exL2 ∧ Ok 4 3 exL3 ∧ Ok 4 4 exL4 := by
  have h0 : Ok 4 1 [] := ok_new (by omega) (by omega)
  have h1 : Ok 4 2 exL1 := h0.mk' (.inl rfl) (by decide) (by omega) (by omega) (by omega)
  have h2 : Ok 4 2 exL2 := h1.fix 1
  have h3 : Ok 4 3 exL3 := h2.mk' (.inr ⟨⟨1, 0, 0, 10, true⟩, rfl, rfl⟩) (by decide) (by omega) (by omega) (by omega)
  have h4 : Ok 4 4 exL4 := h3.mk' (.inr ⟨⟨1, 0, 0, 10, true⟩, rfl, rfl⟩) (by decide) (by omega) (by omega) (by omega)
  exact ⟨h1, h2, h3, h4⟩
theorem TabG.kept {w w' : World} {tb mb dep nxt N : Nat} {g : Gm} {K : Nat → Prop} (h : TabG w tb mb dep nxt g N) (hk : Kept K w w') (h1 : K tb) (h2 : K mb) : TabG w' tb mb dep nxt g N := h.move (hk.block _ h.tc.lt h1) (hk.block _ h.mc.lt h2)
section
set_option maxRecDepth 20000
set_option maxHeartbeats 1600000
theorem known_any (w : World) : Calls Try.prog 7 #[] w fun e w' => e = .returned (.bool true) ∧ Below w.heap.size w w' := by
  obtain ⟨o1, o2, o3, o4⟩ := ex_ok
  have Hnew := Lib.hid (new_any 4 (by omega) (by omega) w)
  have Hm1 := Lib.hid fun W tb mb (h : TabG W tb mb 4 1 (rowG []) 0) => make_ok (sz := 10) (a := 0) (t := 0) h (ok_new (by omega) (by omega)) (by omega) (by omega) (by omega) (by omega) (by unfold T64; omega) (fun _ => rfl) (fun q => absurd rfl q) (by decide)
  have Hf := Lib.hid fun W tb mb (h : TabG W tb mb 4 2 (rowG exL1) 2) => fix_any h (by omega) (n := 1) (by unfold T64; omega)
  have Hm2 := Lib.hid fun W tb mb (h : TabG W tb mb 4 2 (rowG exL2) 4) => make_ok (sz := 5) (a := 4) (t := 1) h o2 (by omega) (by omega) (by omega) (by omega) (by unfold T64; omega) (fun q => by cases q) (fun _ => ⟨⟨1, 0, 0, 10, true⟩, rfl, rfl⟩) (by decide)
  have Hm3 := Lib.hid fun W tb mb (h : TabG W tb mb 4 3 (rowG exL3) 6) => make_ok (sz := 9) (a := 4) (t := 1) h o3 (by omega) (by omega) (by omega) (by omega) (by unfold T64; omega) (fun q => by cases q) (fun _ => ⟨⟨1, 0, 0, 10, true⟩, rfl, rfl⟩) (by decide)
  have Hx := Lib.hid fun W tb mb (h : TabG W tb mb 4 4 (rowG exL4) 8) => chain_any h o4 (by omega) (n := 2) (by unfold T64; omega) 3
  have Hy := Lib.hid fun W tb mb (h : TabG W tb mb 4 4 (rowG exL4) 8) => chain_any h o4 (by omega) (n := 3) (by unfold T64; omega) 6
  have Hd := Lib.hid fun W tb mb (h : TabG W tb mb 4 4 (rowG exL4) 8) => deep_any h o4 (by omega) (n := 2) (by unfold T64; omega)
  have eg := Try.eqGuardType60
  clear o1 o2 o3 o4
  go_enter Try.func7, Try.ntmps7
  go_wp2_with fail
  refine Hnew.out.mono ?_
  rintro e w1 ⟨tb, mb, rfl, h1, hb1, hn1, hn2⟩
  have H1 := Lib.hid h1
  have Hn : Hid (w.heap.size ≤ tb ∧ w.heap.size ≤ mb) := ⟨hn1, hn2⟩
  have B1 := Lib.hid hb1
  clear h1 hb1 hn1 hn2 Hnew
  go_wp2_with fail
  refine (Hm1.out _ _ _ H1.out).mono ?_
  rintro e w2 ⟨rfl, h2, k2⟩
  have H2 : Hid (TabG w2 tb mb 4 2 (rowG exL1) 2) := h2
  have B2 : Hid (Below w.heap.size w w2) := B1.out.trans (k2.to_below (fun b hb => ⟨by have := Hn.out.1; omega, by have := Hn.out.2; omega⟩) B1.out.size)
  clear h2 k2 H1 B1 Hm1
  go_wp2_with fail
  refine (Hf.out _ _ _ H2.out).mono ?_
  rintro e w3 ⟨rfl, h3, k3⟩
  have H3 : Hid (TabG w3 tb mb 4 2 (rowG exL2) 4) := h3
  have B3 : Hid (Below w.heap.size w w3) := B2.out.trans (k3.to_below (fun b hb => ⟨by have := Hn.out.1; omega, by have := Hn.out.2; omega⟩) B2.out.size)
  clear h3 k3 H2 B2 Hf
  go_wp2_with fail
  refine (Hm2.out _ _ _ H3.out).mono ?_
  rintro e w4 ⟨rfl, h4, k4⟩
  have H4 : Hid (TabG w4 tb mb 4 3 (rowG exL3) 6) := h4
  have B4 : Hid (Below w.heap.size w w4) := B3.out.trans (k4.to_below (fun b hb => ⟨by have := Hn.out.1; omega, by have := Hn.out.2; omega⟩) B3.out.size)
  clear h4 k4 H3 B3 Hm2
  go_wp2_with fail
  refine (Hm3.out _ _ _ H4.out).mono ?_
  rintro e w5 ⟨rfl, h5, k5⟩
  have H5 : Hid (TabG w5 tb mb 4 4 (rowG exL4) 8) := h5
  have B5 : Hid (Below w.heap.size w w5) := B4.out.trans (k5.to_below (fun b hb => ⟨by have := Hn.out.1; omega, by have := Hn.out.2; omega⟩) B4.out.size)
  clear h5 k5 H4 B4 Hm3
  go_wp2_with fail
  refine (Hx.out _ _ _ H5.out).mono ?_
  rintro e w6 ⟨v, rfl, ov, b6⟩
  have ov : OwnP w6 w5.heap.size v [(2, 3), (1, 7)] := ov
  have H6 := Lib.hid (H5.out.below b6)
  have B6 : Hid (Below w.heap.size w w6) := B5.out.trans (b6.mono B5.out.size)
  have Ov := Lib.hid ov
  obtain ⟨A, cv, rfl, -, -, hrd⟩ := ov.rd
  obtain ⟨bv, rfl, -, hlt, -, -⟩ := hrd 1 (1, 7) rfl
  clear b6 H5 B5 Hx ov hrd
  go_wp2_with fail
  refine (Hy.out _ _ _ H6.out).mono ?_
  rintro e w7 ⟨v2, rfl, ov2, b7⟩
  have ov2 : OwnP w7 w6.heap.size v2 [(3, 6)] := ov2
  have H7 := Lib.hid (H6.out.below b7)
  have B7 : Hid (Below w.heap.size w w7) := B6.out.trans (b7.mono B6.out.size)
  obtain ⟨A2, cv2, rfl, -, -, -⟩ := ov2.rd
  have ov1 := Ov.out.below b7
  obtain ⟨A3, cv3, e3, -, -, hrd⟩ := ov1.rd
  injection e3 with e3 _ e4
  subst e3 e4
  obtain ⟨b3, e5, -, -, c2, c3⟩ := hrd 1 (1, 7) rfl
  injection e5 with e5
  injection e5 with e5
  subst e5
  have c2 : w7.cell? ⟨bv, 2, none⟩ = some (.int .u64 1) := c2
  have c3 : w7.cell? ⟨bv, 3, none⟩ = some (.int .i64 7) := c3
  clear b7 H6 B6 Hy ov2 hrd Ov ov1 hlt
  simp only [List.length_cons, List.length_nil, Nat.reduceAdd]
  go_wp2_with (go_at_call 14; refine (Hd.out _ _ _ H7.out).mono ?_; rintro e w8 ⟨rfl, q, os, rfl⟩)
  go_ret
  exact ⟨by rfl, B7.out.trans ((below_grow w7 q os).mono B7.out.size)⟩
end
end Go.Proofs.Ytejimgjonhaocaa
