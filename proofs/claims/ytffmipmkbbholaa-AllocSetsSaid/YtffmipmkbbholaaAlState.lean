/-
  State, its world told whole; a table of bools; what Take leaves.
-/
import Derived.Test.YtffmipmkbbholaaAlKnown
namespace Go.Proofs.Ytffmipmkbbholaa
open Go.RowKit Go.Maps Go.Shelf Go.Lib Go.Sort

theorem alloc_grow (w : World) (o : Obj) : w.alloc o = grow w #[o] := alloc_eq_grow w o
section
set_option maxRecDepth 100000
set_option maxHeartbeats 4000000
variable {w : World} {tb db mb cap D Z : Nat} {g : St}
theorem state_grown (d z : Nat) (hd : d < D) (hz : z < Z) (h : TabAt w tb db mb cap D Z g) : Calls Try.prog 24 #[.pointer (some ⟨tb, 0, none⟩), .agg #[.int .i64 (d : Int), .int .i64 (z : Int)]] w fun e w' => e = .returned (.int .i64 (g d z : Nat)) ∧ ∃ q os, w' = grow (w.drewN q) os := by
  obtain ⟨W, hW⟩ : ∃ W, W = w.alloc (.cells #[.int .i64 (d : Int), .int .i64 (z : Int)] 24) := ⟨_, rfl⟩
  have h1 := h.alloc (.cells #[.int .i64 (d : Int), .int .i64 (z : Int)] 24)
  have k0 : W.cell? ⟨w.heap.size, 0, none⟩ = some (.int .i64 (d : Int)) := by rw [hW]; exact (Cells.new w _ _).cell rfl
  have k1 : W.cell? ⟨w.heap.size, 1, none⟩ = some (.int .i64 (z : Int)) := by rw [hW]; exact (Cells.new w _ _).cell rfl
  rw [← hW] at h1
  have hu : isUnit D Z (d : Int) (z : Int) = true := decide_eq_true ⟨by omega, by omega, by omega, by omega⟩
  have Hl := Lib.hid (lacks_any (d : Int) (z : Int) h1)
  rw [hu] at Hl
  unfold uV at Hl
  have Hafter : Hid (∀ w1, (∃ q, w1 = (W.alloc (.cells #[.int .i64 (d : Int), .int .i64 (z : Int)] 24)).drewN q) → TabAt w1 tb db mb cap D Z g ∧ (∀ n, ∃ q os, w1.drewN n = grow (w.drewN q) os) ∧ w1.cell? ⟨w.heap.size, 0, none⟩ = some (.int .i64 (d : Int)) ∧ w1.cell? ⟨w.heap.size, 1, none⟩ = some (.int .i64 (z : Int)) ∧ ∀ n, (Instr.lookup 58 (.map (some mb)) (.agg #[.int .i64 (d : Int), .int .i64 (z : Int)]) false).run Try.prog (w1.drewN n) = .ok (.int .i64 (g d z : Nat)) (w1.drewN n)) := by
    rintro w1 ⟨q, rfl⟩
    have hlt : w.heap.size < W.heap.size := by rw [hW]; simp
    have h2 := (h1.alloc (.cells #[.int .i64 (d : Int), .int .i64 (z : Int)] 24)).drewN q
    have hd2 := h.d2
    have hz2 := h.z2
    refine ⟨h2, fun n => ⟨q + n, #[.cells #[.int .i64 (d : Int), .int .i64 (z : Int)] 24, .cells #[.int .i64 (d : Int), .int .i64 (z : Int)] 24], ?_⟩, ?_, ?_, fun n => ?_⟩
    · rw [World.drewN_drewN, hW, alloc_grow, alloc_grow, grow_grow]
      rfl
    · exact (World.cell?_alloc_lt W _ _ hlt).trans k0
    · exact (World.cell?_alloc_lt W _ _ hlt).trans k1
    · exact (h2.mc.drewN n).look Try.underlying58 (by omega) (by omega) (stU_get g d z)
  generalize g d z = S at *
  clear h h1 hu hd hz k0 k1
  go_enter Try.func24, Try.ntmps24
  go_wp2_with fail
  rw [← hW]
  refine Hl.out.mono ?_
  rintro e w1 ⟨rfl, hw1⟩
  obtain ⟨ht, hb1, c0, c1, hlk⟩ := Hafter.out w1 hw1
  have m2 := ht.m2
  have Hb1 := Lib.hid hb1
  clear hw1 ht hb1 Hafter Hl hW
  go_wp2_with fail
  go_quiet (fail)
  go_wp2_with fail
  go_ret
  exact ⟨rfl, Hb1.out _⟩
end

/-- A TABLE OF BOOLS -/
def SeenAt (w : World) (sb N : Nat) (f : Nat → Bool) : Prop := ∃ cs, Cells w sb 4 cs ∧ cs.length = N ∧ ∀ k, k < N → cs[k]? = some (.bool (f k))
section
variable {w w' : World} {sb N : Nat} {f : Nat → Bool}
theorem SeenAt.move (h : SeenAt w sb N f) (e : w'.heap[sb]? = w.heap[sb]?) : SeenAt w' sb N f := by obtain ⟨cs, h1, h2⟩ := h; exact ⟨cs, h1.move e, h2⟩
theorem SeenAt.lt (h : SeenAt w sb N f) : sb < w.heap.size := by obtain ⟨cs, h1, h2⟩ := h; exact h1.lt
theorem SeenAt.cell (h : SeenAt w sb N f) {k : Nat} (hk : k < N) : w.cell? ⟨sb, k, none⟩ = some (.bool (f k)) := by obtain ⟨cs, h1, h2, h3⟩ := h; exact h1.cell (h3 k hk)
theorem SeenAt.frozen (h : SeenAt w sb N f) (k : Nat) : w.frozen? ⟨sb, k, none⟩ = false := by obtain ⟨cs, h1, h2, h3⟩ := h; exact h1.frozen k
theorem SeenAt.set (h : SeenAt w sb N f) (i : Nat) : SeenAt (w.setCell ⟨sb, i, none⟩ (.bool true)) sb N (fun k => if k = i then true else f k) := by
  obtain ⟨cs, h1, h2, h3⟩ := h
  refine ⟨_, h1.set i _, by simpa using h2, fun k hk => ?_⟩
  show _ = some (Value.bool (if k = i then true else f k))
  by_cases e : k = i
  · subst e
    rw [if_pos rfl, List.getElem?_set_self (by omega)]
  · rw [if_neg e, List.getElem?_set_ne (fun q => e q.symm)]
    exact h3 k hk
theorem info_bool : (Try.prog.info? 4).map (fun i => (i.zero, i.size, i.bytes)) = some (some (.bool false), 1, 1) := by kernel_rfl
set_option maxRecDepth 100000 in
theorem make_bools (n : Nat) (hn : n ≤ 1000000) : ∃ cs : Array Value, Hid (cs = (List.replicate n (Value.bool false)).toArray) ∧
    ∀ u : World, (Instr.makeSlice 54 (.int .i64 (n : Int)) (.int .i64 (n : Int))).run Try.prog u = .ok (.slice (some ⟨u.heap.size, 0, none⟩) n n) (u.alloc (.cells cs 4)) := by
  obtain ⟨i0, hi, hz0, hz1, hz2⟩ := info_parts info_bool
  refine ⟨_, rfl, fun u => ?_⟩
  have h := run_make (P := Try.prog) u 54 4 i0 (.bool false) Try.underlying54 hi hz0 .i64 .i64 (n : Int) (n : Int) (by omega) (Int.le_refl _) (by rw [hz2]; omega) (by omega)
  rw [h]
  simp only [Int.toNat_natCast, hz1, Nat.mul_one]
  congr 3
  apply Array.toList_inj.1
  show (madeCells #[Value.bool false] n).toList = _
  rw [toList_madeCells_one]
theorem SeenAt.new {w1 : World} {n : Nat} {cs : Array Value} (hcs : cs = (List.replicate n (Value.bool false)).toArray) : SeenAt (w1.alloc (.cells cs 4)) w1.heap.size n (fun _ => false) := by
  refine ⟨_, Cells.new w1 cs _, by rw [hcs]; simp, fun k hk => ?_⟩
  rw [hcs]
  simp [hk]
end
/-- what Take leaves -/
theorem takeAll_keeps (Z : Nat) : ∀ (L : List Nat) (g : St) (d z : Nat), g d z ≠ 0 → takeAll g Z L d z ≠ 0
  | [], _, _, _, h => h
  | e :: L, g, d, z, h => by
    refine takeAll_keeps Z L (takeU g Z e) d z ?_
    unfold takeU upd
    split
    · omega
    · exact h
theorem takeAll_took (Z : Nat) : ∀ (L : List Nat) (g : St) (d : Nat), L.Nodup → d ∈ L → takeAll g Z L d (low (g d) Z) = 1
  | [], _, _, _, h => by simp at h
  | e :: L, g, d, hn, h => by
    have hd := List.nodup_cons.1 hn
    by_cases q : d = e
    · subst q
      show takeAll (takeU g Z d) Z L d _ = 1
      rw [takeAll_row Z d L _ hd.1]
      exact upd_same _ _ _ _
    · have h1 : d ∈ L := (List.mem_cons.1 h).resolve_left q
      have h2 : takeU g Z e d = g d := upd_row g 1 q
      have := takeAll_took Z L (takeU g Z e) d hd.2 h1
      rw [h2] at this
      exact this
end Go.Proofs.Ytffmipmkbbholaa
