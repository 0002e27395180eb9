/-
  The chapter's example (the laws' known).
-/
import Derived.Test.YtffmipmkbbholaaAlGreedy
namespace Go.Proofs.Ytffmipmkbbholaa
open Go.RowKit Go.Maps Go.Shelf Go.Lib Go.Sort

section
variable {F : Int → Nat}
theorem asc_unique {M C : List Int} (hp : M.Perm C) (h1 : Asc F M) (h2 : Asc F C) : M = C :=
  hp.eq_of_pairwise (fun a b _ _ h h' => absurd (h.trans h') (fun q => q.irr)) h1 h2
theorem lt_unique {M C : List Nat} (hp : M.Perm C) (h1 : M.Pairwise (· < ·)) (h2 : C.Pairwise (· < ·)) : M = C :=
  hp.eq_of_pairwise (fun a b _ _ h h' => by omega) h1 h2
end
theorem map_perm {M C : List Nat} (h : (M.map fun (d : Nat) => (d : Int)).Perm (C.map fun (d : Nat) => (d : Int))) : M.Perm C := by
  have h1 := h.map Int.toNat
  rw [List.map_map, List.map_map] at h1
  have e : (Int.toNat ∘ fun (d : Nat) => (d : Int)) = id := by funext d; simp
  rw [e] at h1
  simpa using h1
/-- Take's answer, where the order of the drives is known -/
theorem took_is {g g' : St} {D Z n : Nat} {wo : List Int} {us : List (Int × Int)} {e : Int} (h : Took g D Z n wo us e g') (hn : 1 ≤ n ∧ n ≤ 32) (C : List Int) (hC : C.Perm (roomyL g Z wo D)) (hA : Asc (frF g D Z) C) (hl : n ≤ C.length) (L : List Nat) (hL : (L.map fun (d : Nat) => (d : Int)).Perm (C.take n)) (hLs : L.Pairwise (· < ·)) :
    us = tookU g Z L ∧ e = 0 ∧ g' = takeAll g Z L := by
  rcases h with ⟨h, _⟩ | ⟨_, M, hp, ha, ⟨hlt, _⟩ | ⟨_, L', hL', hasc, hus, he, hg'⟩⟩
  · omega
  · have := hp.length_eq; have := hC.length_eq; omega
  · rw [Int.toNat_natCast, asc_unique (hp.trans hC.symm) ha hA] at hL'
    rw [lt_unique (map_perm (hL'.trans hL.symm)) hasc hLs] at hus hg'
    exact ⟨hus, he, hg'⟩
def g0 : St := fun _ _ => 0
def g1 : St := takeAll g0 2 [0, 1]
def g2 : St := takeAll g1 2 [0, 2]
theorem known1 {us : List (Int × Int)} {e : Int} {g' : St} (h : Took g0 3 2 (2 : Nat) [] us e g') : us = [(0, 0), (1, 0)] ∧ e = 0 ∧ g' = g1 :=
  took_is h (by omega) [0, 1, 2] (by decide) (by decide) (by decide) [0, 1] (by decide) (by decide)
theorem known2 {us : List (Int × Int)} {e : Int} {g' : St} (h : Took g1 3 2 (2 : Nat) [] us e g') : us = [(0, 1), (2, 0)] ∧ e = 0 ∧ g' = g2 :=
  took_is h (by omega) [2, 0, 1] (by decide) (by decide) (by decide) [0, 2] (by decide) (by decide)
theorem known3 : setsN g2 3 2 2 = 1 := by decide
/-- an owned slice of units that holds some -/
theorem OwnU.flat {w : World} {base : Nat} {v : Value} {us : List (Int × Int)} (h : OwnU w base v us) (h0 : us ≠ []) : ∃ gb c, v = .slice (some ⟨gb, 0, none⟩) us.length c ∧ us.length ≤ c ∧ base ≤ gb ∧ gb < w.heap.size ∧ ∀ k u, us[k]? = some u → w.cell? ⟨gb, k * 2, none⟩ = some (.int .i64 u.1) ∧ w.cell? ⟨gb, k * 2 + 1, none⟩ = some (.int .i64 u.2) := by
  rcases h.2 with ⟨rfl, h1⟩ | ⟨g, cap, cur, rfl, hb, hg, hn, hm, hs, ht⟩
  · exact absurd (List.eq_nil_of_length_eq_zero h1) h0
  · refine ⟨g, cap, rfl, hn, hb, (Array.getElem?_eq_some_iff.1 hg).1, fun k u hu => ⟨?_, ?_⟩⟩
    · have := World.ownsRow.cells (e := 24) (size := 2) h rfl (k * 2) _ (cellsU_get us k u hu).1
      rw [add_flat, Nat.zero_add] at this
      exact this
    · have := World.ownsRow.cells (e := 24) (size := 2) h rfl (k * 2 + 1) _ (cellsU_get us k u hu).2
      rw [add_flat, Nat.zero_add] at this
      exact this
section
set_option maxRecDepth 100000
set_option maxHeartbeats 4000000
theorem known_any (w : World) : Calls Try.prog 6 #[] w fun e w' => e = .returned (.bool true) ∧ Below w.heap.size w w' := by
  have Hn := Lib.hid (new_any 3 2 (by omega) (by omega) w)
  go_enter Try.func6, Try.ntmps6
  go_wp2_with fail
  refine Hn.out.mono ?_
  rintro e w1 ⟨tb, db, mb, cap, rfl, h1, hb1, n0, n1, n2⟩
  have Ht1 := Lib.hid (take_call none 0 0 (2 : Nat) [] rfl (by omega) (RI.nil w1 _ _) h1)
  have H1 := Lib.hid (And.intro h1 hb1)
  have HN : Hid (w.heap.size ≤ db ∧ w.heap.size ≤ mb) := ⟨n1, n2⟩
  clear h1 hb1 Hn n0 n1 n2
  go_wp2_with fail
  refine Ht1.out.mono ?_
  rintro e w2 ⟨va, ua, ea, ga, rfl, hT1, h2, hk2, ho2⟩
  obtain ⟨rfl, rfl, rfl⟩ := known1 hT1
  obtain ⟨ba, ca, rfl, hca, hba, hla, hcell⟩ := ho2.flat (by simp)
  have a0 := (hcell 1 _ rfl).1
  have a1 := (hcell 1 _ rfl).2
  have Ht2 := Lib.hid (take_call none 0 0 (2 : Nat) [] rfl (by omega) (RI.nil w2 _ _) h2)
  have H2 : Hid (Kept (fun x => x ≠ db ∧ x ≠ mb) w1 w2 ∧ ba ≠ db ∧ ba ≠ mb ∧ ba < w2.heap.size) := ⟨hk2, by have := H1.out.1.dc.lt; omega, by have := H1.out.1.mc.lt; omega, hla⟩
  have hla' : ([((0 : Int), (0 : Int)), (1, 0)] : List (Int × Int)).length = 2 := rfl
  rw [hla']
  clear hT1 h2 hk2 ho2 hcell hba hla hca hla' Ht1
  go_wp2_with fail
  refine Ht2.out.mono ?_
  rintro e w3 ⟨vb, ub, eb, gb, rfl, hT2, h3, hk3, ho3⟩
  obtain ⟨rfl, rfl, rfl⟩ := known2 hT2
  obtain ⟨bb, cb, rfl, hcb, hbb, hlb, hcell⟩ := ho3.flat (by simp)
  have b0 := (hcell 0 _ rfl).1
  have b1 := (hcell 0 _ rfl).2
  have b2 := (hcell 1 _ rfl).1
  have b3 := (hcell 1 _ rfl).2
  have a0' : w3.cell? ⟨ba, 2, none⟩ = some (.int .i64 1) := (World.cell?_of_block (w := w2) (hk3.block ba H2.out.2.2.2 ⟨H2.out.2.1, H2.out.2.2.1⟩)).trans a0
  have a1' : w3.cell? ⟨ba, 3, none⟩ = some (.int .i64 0) := (World.cell?_of_block (w := w2) (hk3.block ba H2.out.2.2.2 ⟨H2.out.2.1, H2.out.2.2.1⟩)).trans a1
  have Hs := Lib.hid (sets_any (2 : Int) h3)
  have hv : setsV g2 3 2 2 = 1 := known3
  rw [hv] at Hs
  have Hend : Hid (Below w.heap.size w w3) := by
    have hb := H1.out.2
    have n1 := HN.out
    have k := (H2.out.1.trans hk3)
    exact hb.trans (k.to_below (fun x hx => ⟨by omega, by omega⟩) hb.size)
  have eg := Try.eqGuardType24
  have q1 := eql_unit w3 1 0 1 0
  have q2 := eql_unit w3 0 1 0 1
  have q3 := eql_unit w3 2 0 2 0
  have hlb' : ([((0 : Int), (1 : Int)), (2, 0)] : List (Int × Int)).length = 2 := rfl
  rw [hlb']
  clear hT2 h3 hk3 ho3 hcell hbb hlb hcb hlb' Ht2 a0 a1 H2 H1 hv
  go_wp2_with fail
  refine Hs.out.mono ?_
  rintro e w4 ⟨rfl, hb4⟩
  have Hb4 : Hid (Below w.heap.size w w4) := Hend.out.trans (hb4.mono Hend.out.size)
  clear hb4 Hs Hend
  go_wp2_with fail
  go_ret
  exact ⟨by simp, Hb4.out⟩
end
end Go.Proofs.Ytffmipmkbbholaa
