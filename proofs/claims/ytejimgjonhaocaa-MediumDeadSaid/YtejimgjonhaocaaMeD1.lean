/-
  (*Table).ids: the mediums' numbers, rising.
-/
import Derived.Test.YtejimgjonhaocaaMeK3
namespace Go.Proofs.Ytejimgjonhaocaa
open Go.RowKit Go.Maps Go.Lib Go.Shelf

theorem keys_ids {dep nxt : Nat} {L : List Md} (hO : Ok dep nxt L) (hn : nxt ≤ T64) {ss ts : List Nat} (hk : KeysG (rowG L) ss) (hp : ts.Perm ss) (hs : ts.Pairwise (· ≤ ·)) : ts = L.map Md.id := by
  have hri : (L.map Md.id).Pairwise (· < ·) := by rw [List.pairwise_map]; exact hO.rise
  have hnd : (L.map Md.id).Nodup := hri.imp fun h => Nat.ne_of_lt h
  have hmem : ∀ n, n ∈ ss ↔ n ∈ L.map Md.id := fun n => by
    rw [hk.2 n, List.mem_map]
    unfold rowG
    rw [Option.isSome_map]
    constructor
    · rintro ⟨_, h⟩
      obtain ⟨m, hm⟩ := Option.isSome_iff_exists.1 h
      exact ⟨m, look_mem hm⟩
    · rintro ⟨m, hm, rfl⟩
      exact ⟨Nat.lt_of_lt_of_le (hO.hi m hm) hn, by rw [look_of_mem hO.rise hm]; rfl⟩
  have hp2 : ts.Perm (L.map Md.id) := hp.trans ((List.perm_ext_iff_of_nodup hk.1 hnd).2 hmem)
  exact List.Perm.eq_of_pairwise (le := fun a b => a ≤ b) (fun a b _ _ h1 h2 => Nat.le_antisymm h1 h2) hs (hri.imp fun h => Nat.le_of_lt h) hp2
section
set_option maxRecDepth 100000
set_option maxHeartbeats 4000000
theorem ids_any {w : World} {tb mb dep nxt N : Nat} {L : List Md} (hT : TabG w tb mb dep nxt (rowG L) N) (hO : Ok dep nxt L) (hn : nxt ≤ T64) (hN : N ≤ 255) :
    Calls Try.prog 35 #[.pointer (some ⟨tb, 0, none⟩)] w fun e w' => ∃ v, e = .returned v ∧ w'.ownsRow w.heap.size 34 1 v L.length ((L.map Md.id).map kV) ∧ Below w.heap.size w w' := by
  have c2 := hT.t2
  obtain ⟨w1, hw1⟩ : ∃ w1, w.alloc (.cells #[.map (some mb)] 65) = w1 := ⟨_, rfl⟩
  have hb1 : Below w.heap.size w w1 := by rw [← hw1]; exact (Below.refl _ w).alloc (Nat.le_refl _) _
  have HK : Hid (Calls Try.prog 42 #[.map (some mb)] w fun e w' => e = .returned (.func (.func 45) #[] #[.pointer (some ⟨w.heap.size, 0, none⟩)]) ∧ w' = w1) := by
    rw [← hw1]; exact (callsIn_wide (n := 1)).1 (keys_any Fence.wide 1 trivial rfl (some mb) w)
  have hsz : w.heap.size < w1.heap.size := by rw [← hw1]; simp
  have hseq : SeqGives Fence.wide 1 Try.prog 45 #[.pointer (some ⟨w.heap.size, 0, none⟩)] kV (KeysG (rowG L)) N w1 :=
    keys_gives Fence.wide 1 trivial rfl (Nat.le_refl _) w.heap.size mb N (rowG L) w1 hsz (by rw [← hw1]; exact (Cells.new w #[.map (some mb)] 65).cell rfl) (hT.mc.below hb1)
  have HS := Lib.hid ((callsIn_wide).1 (sorted_any 1 _ _ (enters_of Try.func45 (by kernel_rfl) rfl) _ N hN w1 hseq))
  have HB : Hid (Below w.heap.size w w1 ∧ w.heap.size ≤ w1.heap.size) := ⟨hb1, Nat.le_of_lt hsz⟩
  have HL := Lib.hid fun (ss ts : List Nat) (h : KeysG (rowG L) ss) (hp : ts.Perm ss) (hs : ts.Pairwise (· ≤ ·)) => keys_ids hO hn h hp hs
  clear hT hO hn hN hw1 hb1 hsz hseq
  go_enter Try.func35, Try.ntmps35
  go_wp2_with (first | (go_at_call 42; refine HK.out.mono ?_; rintro e w2 ⟨rfl, rfl⟩) | (go_at_call 41; refine HS.out.mono ?_; rintro e w3 ⟨v, ts, rfl, ⟨⟨ss, hk, hp⟩, hpw⟩, hr, hb⟩))
  go_ret
  have e := HL.out ss ts hk hp hpw
  subst e
  rw [List.length_map] at hr
  refine ⟨_, rfl, ⟨hr.1, ?_⟩, HB.out.1.trans (hb.mono HB.out.2)⟩
  rcases hr.2 with q | ⟨g, cap, cur, e1, h2, r⟩
  · exact .inl q
  · exact .inr ⟨g, cap, cur, e1, Nat.le_trans HB.out.2 h2, r⟩
end
end Go.Proofs.Ytejimgjonhaocaa
