/-
  State, its world told whole; a table of bools; what Take leaves.
-/
import Derived.Test.YtajpnjapfiffmaaKAlGreedy
import Derived.Test.YtajpnjapfiffmaaKAlRef6
namespace Go.Proofs.Ytajpnjapfiffmaa
open Go.RowKit Go.Maps Go.Shelf Go.Lib Go.Sort

theorem alloc_grow (w : World) (o : Obj) : w.alloc o = grow w #[o] := alloc_eq_grow w o
section
set_option maxRecDepth 100000
set_option maxHeartbeats 4000000
variable {w : World} {tb db mb cap D Z : Nat} {g : St}
theorem state_grown (d z : Nat) (hd : d < D) (hz : z < Z) (h : TabAt w tb db mb cap D Z g) : Calls Try.prog 24 #[.pointer (some ⟨tb, 0, none⟩), .agg #[.int .i64 (d : Int), .int .i64 (z : Int)]] w fun e w' => e = .returned (.int .i64 (g d z : Nat)) ∧ ∃ q os, w' = grow (w.drewN q) os := by
  obtain ⟨W, hW⟩ : ∃ W, W = w.alloc (.cells #[.int .i64 (d : Int), .int .i64 (z : Int)] 24) := ⟨_, rfl⟩
  have h1 := h.alloc (.cells #[.int .i64 (d : Int), .int .i64 (z : Int)] 24)
  have k0 : W.cell? ⟨w.heap.size, 0, none⟩ = some (.int .i64 (d : Int)) := by rw [hW]; exact (Cells.new w _ _).cell rfl
  have k1 : W.cell? ⟨w.heap.size, 1, none⟩ = some (.int .i64 (z : Int)) := by rw [hW]; exact (Cells.new w _ _).cell rfl
  rw [← hW] at h1
  have hu : isUnit D Z (d : Int) (z : Int) = true := decide_eq_true ⟨by omega, by omega, by omega, by omega⟩
  have Hl := Lib.hid (lacks_any (d : Int) (z : Int) h1)
  rw [hu] at Hl
  unfold uV at Hl
  have Hafter : Hid (∀ w1, (∃ q, w1 = (W.alloc (.cells #[.int .i64 (d : Int), .int .i64 (z : Int)] 24)).drewN q) → TabAt w1 tb db mb cap D Z g ∧ (∀ n, ∃ q os, w1.drewN n = grow (w.drewN q) os) ∧ w1.cell? ⟨w.heap.size, 0, none⟩ = some (.int .i64 (d : Int)) ∧ w1.cell? ⟨w.heap.size, 1, none⟩ = some (.int .i64 (z : Int)) ∧ ∀ n, (Instr.lookup 58 (.map (some mb)) (.agg #[.int .i64 (d : Int), .int .i64 (z : Int)]) false).run Try.prog (w1.drewN n) = .ok (.int .i64 (g d z : Nat)) (w1.drewN n)) := by
    rintro w1 ⟨q, rfl⟩
    have hlt : w.heap.size < W.heap.size := by rw [hW]; simp
    have h2 := (h1.alloc (.cells #[.int .i64 (d : Int), .int .i64 (z : Int)] 24)).drewN q
    have hd2 := h.d2
    have hz2 := h.z2
    refine ⟨h2, fun n => ⟨q + n, #[.cells #[.int .i64 (d : Int), .int .i64 (z : Int)] 24, .cells #[.int .i64 (d : Int), .int .i64 (z : Int)] 24], ?_⟩, ?_, ?_, fun n => ?_⟩
    · rw [World.drewN_drewN, hW, alloc_grow, alloc_grow, grow_grow]
      rfl
    · exact (World.cell?_alloc_lt W _ _ hlt).trans k0
    · exact (World.cell?_alloc_lt W _ _ hlt).trans k1
    · exact (h2.mc.drewN n).look Try.underlying58 (by omega) (by omega) (stU_get g d z)
  generalize g d z = S at *
  clear h h1 hu hd hz k0 k1
  go_enter Try.func24, Try.ntmps24
  go_wp2_with fail
  rw [← hW]
  refine Hl.out.mono ?_
  rintro e w1 ⟨rfl, hw1⟩
  obtain ⟨ht, hb1, c0, c1, hlk⟩ := Hafter.out w1 hw1
  have m2 := ht.m2
  have Hb1 := Lib.hid hb1
  clear hw1 ht hb1 Hafter Hl hW
  go_wp2_with fail
  go_quiet (fail)
  go_wp2_with fail
  go_ret
  exact ⟨rfl, Hb1.out _⟩
end

/-- A TABLE OF BOOLS -/
def SeenAt (w : World) (sb N : Nat) (f : Nat → Bool) : Prop := ∃ cs, Cells w sb 4 cs ∧ cs.length = N ∧ ∀ k, k < N → cs[k]? = some (.bool (f k))
section
variable {w w' : World} {sb N : Nat} {f : Nat → Bool}
theorem SeenAt.move (h : SeenAt w sb N f) (e : w'.heap[sb]? = w.heap[sb]?) : SeenAt w' sb N f := by obtain ⟨cs, h1, h2⟩ := h; exact ⟨cs, h1.move e, h2⟩
theorem SeenAt.lt (h : SeenAt w sb N f) : sb < w.heap.size := by obtain ⟨cs, h1, h2⟩ := h; exact h1.lt
theorem SeenAt.cell (h : SeenAt w sb N f) {k : Nat} (hk : k < N) : w.cell? ⟨sb, k, none⟩ = some (.bool (f k)) := by obtain ⟨cs, h1, h2, h3⟩ := h; exact h1.cell (h3 k hk)
theorem SeenAt.frozen (h : SeenAt w sb N f) (k : Nat) : w.frozen? ⟨sb, k, none⟩ = false := by obtain ⟨cs, h1, h2, h3⟩ := h; exact h1.frozen k
theorem SeenAt.set (h : SeenAt w sb N f) (i : Nat) : SeenAt (w.setCell ⟨sb, i, none⟩ (.bool true)) sb N (fun k => if k = i then true else f k) := by
  obtain ⟨cs, h1, h2, h3⟩ := h
  refine ⟨_, h1.set i _, by simpa using h2, fun k hk => ?_⟩
  show _ = some (Value.bool (if k = i then true else f k))
  by_cases e : k = i
  · subst e
    rw [if_pos rfl, List.getElem?_set_self (by omega)]
  · rw [if_neg e, List.getElem?_set_ne (fun q => e q.symm)]
    exact h3 k hk
theorem info_bool : (Try.prog.info? 4).map (fun i => (i.zero, i.size, i.bytes)) = some (some (.bool false), 1, 1) := by kernel_rfl
set_option maxRecDepth 100000 in
theorem make_bools (n : Nat) (hn : n ≤ 1000000) : ∃ cs : Array Value, Hid (cs = (List.replicate n (Value.bool false)).toArray) ∧
    ∀ u : World, (Instr.makeSlice 54 (.int .i64 (n : Int)) (.int .i64 (n : Int))).run Try.prog u = .ok (.slice (some ⟨u.heap.size, 0, none⟩) n n) (u.alloc (.cells cs 4)) := by
  obtain ⟨i0, hi, hz0, hz1, hz2⟩ := info_parts info_bool
  refine ⟨_, rfl, fun u => ?_⟩
  have h := run_make (P := Try.prog) u 54 4 i0 (.bool false) Try.underlying54 hi hz0 .i64 .i64 (n : Int) (n : Int) (by omega) (Int.le_refl _) (by rw [hz2]; omega) (by omega)
  rw [h]
  simp only [Int.toNat_natCast, hz1, Nat.mul_one]
  congr 3
  apply Array.toList_inj.1
  show (madeCells #[Value.bool false] n).toList = _
  rw [toList_madeCells_one]
theorem SeenAt.new {w1 : World} {n : Nat} {cs : Array Value} (hcs : cs = (List.replicate n (Value.bool false)).toArray) : SeenAt (w1.alloc (.cells cs 4)) w1.heap.size n (fun _ => false) := by
  refine ⟨_, Cells.new w1 cs _, by rw [hcs]; simp, fun k hk => ?_⟩
  rw [hcs]
  simp [hk]
end
/-- what Take leaves -/
theorem takeAll_keeps (Z : Nat) : ∀ (L : List Nat) (g : St) (d z : Nat), g d z ≠ 0 → takeAll g Z L d z ≠ 0
  | [], _, _, _, h => h
  | e :: L, g, d, z, h => by
    refine takeAll_keeps Z L (takeU g Z e) d z ?_
    unfold takeU upd
    split
    · omega
    · exact h
theorem takeAll_took (Z : Nat) : ∀ (L : List Nat) (g : St) (d : Nat), L.Nodup → d ∈ L → takeAll g Z L d (low (g d) Z) = 1
  | [], _, _, _, h => by simp at h
  | e :: L, g, d, hn, h => by
    have hd := List.nodup_cons.1 hn
    by_cases q : d = e
    · subst q
      show takeAll (takeU g Z d) Z L d _ = 1
      rw [takeAll_row Z d L _ hd.1]
      exact upd_same _ _ _ _
    · have h1 : d ∈ L := (List.mem_cons.1 h).resolve_left q
      have h2 : takeU g Z e d = g d := upd_row g 1 q
      have := takeAll_took Z L (takeU g Z e) d hd.2 h1
      rw [h2] at this
      exact this
end Go.Proofs.Ytajpnjapfiffmaa

/-
  The second saying's table: Sets.
-/
namespace Go.Proofs.Ytajpnjapfiffmaa
open Go.RowKit Go.Maps Go.Shelf Go.Lib Go.Sort

/-- how many are free, drive by drive -/
def FreeAt (w : World) (fb D : Nat) (f : Nat → Nat) : Prop := ∃ cs, Cells w fb 3 cs ∧ D ≤ cs.length ∧ ∀ d, d < D → cs[d]? = some (.int .i64 (f d : Nat))
section
variable {w w' : World} {fb D : Nat} {f : Nat → Nat}
theorem FreeAt.move (h : FreeAt w fb D f) (e : w'.heap[fb]? = w.heap[fb]?) : FreeAt w' fb D f := by obtain ⟨cs, h1, h2⟩ := h; exact ⟨cs, h1.move e, h2⟩
theorem FreeAt.lt (h : FreeAt w fb D f) : fb < w.heap.size := by obtain ⟨cs, h1, _⟩ := h; exact h1.lt
theorem FreeAt.cell (h : FreeAt w fb D f) {z : Nat} (hz : z < D) : w.cell? ⟨fb, z, none⟩ = some (.int .i64 (f z : Nat)) := by obtain ⟨cs, h1, h2, h3⟩ := h; exact h1.cell (h3 z hz)
theorem FreeAt.frozen (h : FreeAt w fb D f) (z : Nat) : w.frozen? ⟨fb, z, none⟩ = false := by obtain ⟨cs, h1, h2, h3⟩ := h; exact h1.frozen z
theorem FreeAt.set (h : FreeAt w fb D f) (i x : Nat) : FreeAt (w.setCell ⟨fb, i, none⟩ (.int .i64 (x : Int))) fb D (fun z => if z = i then x else f z) := by
  obtain ⟨cs, h1, h2, h3⟩ := h
  refine ⟨_, h1.set i _, by simpa using h2, fun z hz => ?_⟩
  show _ = some (Value.int .i64 ((if z = i then x else f z : Nat) : Int))
  by_cases e : z = i
  · subst e
    rw [if_pos rfl, List.getElem?_set_self (by omega)]
  · rw [if_neg e, List.getElem?_set_ne (fun q => e q.symm)]
    exact h3 z hz
theorem FreeAt.congr {f' : Nat → Nat} (h : FreeAt w fb D f) (hf : ∀ z, z < D → f' z = f z) : FreeAt w fb D f' := by
  obtain ⟨cs, h1, h2, h3⟩ := h
  exact ⟨cs, h1, h2, fun z hz => by rw [hf z hz]; exact h3 z hz⟩
theorem SeenAt.congr {sb N : Nat} {p p' : Nat → Bool} (h : SeenAt w sb N p) (hf : ∀ z, z < N → p' z = p z) : SeenAt w sb N p' := by
  obtain ⟨cs, h1, h2, h3⟩ := h
  exact ⟨cs, h1, h2, fun z hz => by rw [hf z hz]; exact h3 z hz⟩
end
def freeL (g : St) (Z i : Nat) : List Int := (List.range i).map fun d => (frN g Z d : Int)
theorem freeL_succ (g : St) (Z i : Nat) : freeL g Z (i + 1) = freeL g Z i ++ [(frN g Z i : Int)] := by simp [freeL, List.range_succ]
theorem freeL_len (g : St) (Z i : Nat) : (freeL g Z i).length = i := by simp [freeL]
theorem feas_bound {f : Nat → Nat} {D n k : Nat} (hD : D ≤ 32) (hn : 1 ≤ n) (hf : ∀ d, f d ≤ 4096) (h : feas f D n k) : k ≤ 131072 := by
  have h1 := feas_top h
  have h2 : sumN f D ≤ D * 4096 := by rw [← sumN_const]; exact sumN_le D fun d _ => hf d
  have h3 : k ≤ n * k := Nat.le_mul_of_pos_left k (by omega)
  omega
/-- k sets are counted -/
structure SetsR (w wr : World) (g : St) (D Z n fb k : Nat) (f : Nat → Nat) : Prop where
  free : FreeAt wr fb D f
  bel : Below w.heap.size w wr
  low : w.heap.size ≤ fb
  rel : ∀ j, feas (frN g Z) D n (k + j) ↔ feas f D n j
  le : ∀ d, f d ≤ 4096
/-- one set is under way -/
structure SetsM (w wr : World) (D n fb sb m : Nat) (f : Nat → Nat) (W : List Nat) : Prop where
  free : FreeAt wr fb D f
  bel : Below w.heap.size w wr
  seen : SeenAt wr sb D (fun d => decide (d ∈ W))
  set : SetSt f D m W
theorem SetsM.drewN {w wr : World} {D n fb sb m : Nat} {f : Nat → Nat} {W : List Nat} (h : SetsM w wr D n fb sb m f W) (q : Nat) : SetsM w (wr.drewN q) D n fb sb m f W := ⟨h.free.move rfl, drewN_below h.bel q, h.seen.move rfl, h.set⟩
section
set_option maxRecDepth 20000
set_option maxHeartbeats 1600000
variable {w w' : World} {rb lb cap D Z : Nat} {R : Nat → Nat} {g : St}
theorem rsets_any (x : Int) (h : RefT w rb lb cap D Z R g) :
    Calls Try.prog 27 #[.pointer (some ⟨rb, 0, none⟩), .int .i64 x] w fun e w' => e = .returned (.int .i64 (setsV g D Z x : Nat)) ∧ Below w.heap.size w w' := by
  by_cases hx : 1 ≤ x ∧ x ≤ 32
  case neg =>
    rw [show setsV g D Z x = 0 from if_neg hx]
    have hx2 : x < 1 ∨ (1 ≤ x ∧ 32 < x) := by omega
    clear h hx
    rcases hx2 with h0 | ⟨h0, h1⟩
    all_goals
      go_enter Try.func27, Try.ntmps27
      go_wp2_with fail
      go_ret
      exact ⟨rfl, Below.refl _ _⟩
  obtain ⟨n, rfl⟩ : ∃ n : Nat, x = (n : Int) := ⟨x.toNat, by omega⟩
  have hn1 : 1 ≤ n := by omega
  have hn2 : n ≤ 32 := by omega
  have hn3 : ¬ n < 1 := by omega
  have hn4 : ¬ 32 < n := by omega
  have Hans : Hid (∀ k, feas (frN g Z) D n k → ¬ feas (frN g Z) D n (k + 1) → setsV g D Z (n : Int) = k) := fun k h1 h2 => by
    unfold setsV
    rw [if_pos hx, Int.toNat_natCast]
    exact setsN_eq hn1 h1 h2
  have H := Lib.hid h
  have hD : (D : Int) ≤ 32 := by have := h.d2; omega
  have hD' := h.d2
  have hD1 := h.d1
  have hfr : ∀ d, frN g Z d ≤ 4096 := fun d => Nat.le_trans (cnt_le _ _ _) h.z2
  have Hfr := Lib.hid hfr
  have Hfo : Hid (∀ W x, Below w.heap.size w W → Calls Try.prog 23 #[.pointer (some ⟨rb, 0, none⟩), .int .i64 x] W fun e w' => e = .returned (.int .i64 (freeOn g D Z x : Nat)) ∧ w' = W) := fun W x hb => rfreeOn_any x (h.below hb)
  obtain ⟨bs, Hbs, hmk⟩ := make_bools D (by omega)
  have H0 : Hid (OwnV w w.heap.size 3 (.slice none 0 0) (intsA (freeL g Z 0)) ∧ Below w.heap.size w w) := ⟨OwnV.nil _ _ _, Below.refl _ _⟩
  clear h hx hfr
  go_enter Try.func27, Try.ntmps27
  go_wp2_with fail
  go_loopw [5, 6] (fun fv iv wr => ∃ (i : Nat) (v : Value), v = fv ∧ iv = .int .i64 (i : Int) ∧ i ≤ D ∧ Hid (OwnV wr w.heap.size 3 v (intsA (freeL g Z i)) ∧ Below w.heap.size w wr)) (fun _ iv _ => D - (intOf iv).toNat)
  case atStart => exact ⟨0, _, rfl, rfl, Nat.zero_le _, H0.out⟩
  case round =>
    obtain ⟨i, v, rfl, rfl, hi, hst⟩ := hrel
    have c0 := (H.out.below hst.out.2).c0
    by_cases hid : i < D
    · have hid' : (i : Int) < (D : Int) := by omega
      have Hf := Lib.hid (Hfo.out wr (i : Int) hst.out.2)
      rw [freeOn_nat g hid] at Hf
      have Hlen : Hid ((intsA (freeL g Z i)).length + 1 ≤ 140737488355327 ∧ ((intsA (freeL g Z i)).length + 1) * 8 ≤ 140737488355328 ∧ w.heap.size ≤ wr.heap.size + 1) := by
        have h1 : (intsA (freeL g Z i)).length = i := by rw [intsA_len, freeL_len]
        have h2 := hst.out.2.size
        rw [h1]
        exact ⟨by omega, by omega, by omega⟩
      have Hn : Hid (∀ (o : Obj) (v3 : Value) (w3 : World), OwnV w3 w.heap.size 3 v3 (intsA (freeL g Z i) ++ [.int .i64 (cnt (g i) 0 Z : Nat)]) → (wr.alloc o).grownBy w3 v.ownBlock → OwnV w3 w.heap.size 3 v3 (intsA (freeL g Z (i + 1))) ∧ Below w.heap.size w w3) := fun o v3 w3 k1 k2 => by
        refine ⟨?_, ?_⟩
        · rw [freeL_succ]
          simpa [intsA, frN] using k1
        · have hb := hst.out.2.alloc hst.out.2.size o
          exact hb.grown k2 hb.size fun k hk => (hst.out.1.ge k hk).1
      have Hap : Hid (∀ o, OwnV (wr.alloc o) w.heap.size 3 v (intsA (freeL g Z i))) := fun o => hst.out.1.alloc o
      generalize cnt (g i) 0 Z = N at *
      clear hst hid
      go_wp2_with fail
      refine Hf.out.mono ?_
      rintro e w1 ⟨rfl, rfl⟩
      go_wp2_with (at_builtin; go_must (refine app_one rfl (.tmp 28) (.tmp 32) 34 3 rfl Try.underlying34 _ 8 info_int8 rfl w.heap.size _ _ rfl (Hap.out _) ⟨w1.heap.size, 0, none⟩ 1 (.int .i64 (N : Int)) rfl (cell_new w1 _ _) rfl Hlen.out.1 Hlen.out.2.1 (by have := Hlen.out.2.2; simpa using this) ?_); intro v3 w3 ho3 hg3 _; have H3 := Lib.hid (Hn.out _ v3 w3 ho3 hg3); clear ho3 hg3 Hn)
      go_roundw
      case rel => exact ⟨i + 1, _, rfl, by go_num, by omega, H3.out⟩
      case measure => simp [intOf]; omega
    obtain rfl : i = D := by omega
    obtain ⟨fb, cf, rfl, hS⟩ : ∃ fb cf, v = .slice (some ⟨fb, 0, none⟩) i cf ∧ SetsR w wr g i Z n fb 0 (frN g Z) := by
      obtain ⟨h1, h2⟩ := hst.out
      rcases h1.form with ⟨_, q⟩ | ⟨fb, cf, cur, hv, hb, hc, hn, hm, hl, ht⟩
      · have := congrArg List.length q
        rw [intsA_len, freeL_len] at this
        simp at this
        omega
      · rw [intsA_len, freeL_len] at hv hn ht
        refine ⟨fb, cf, hv, ⟨cur, hc, by omega, fun d hd => ?_⟩, h2, hb, fun j => by rw [Nat.zero_add], Hfr.out⟩
        have e : (cur.take i)[d]? = cur[d]? := by rw [List.getElem?_take, if_pos hd]
        rw [← e, ht]
        simp [intsA, freeL, hd]
    have HS := Lib.hid hS
    have HD := Lib.hid hD'
    clear hst hid hS H0
    generalize wr = W0 at *
    go_wp2_with fail
    go_loopw [7] (fun kv wr => ∃ (k : Nat) (f : Nat → Nat), kv = .int .i64 (k : Int) ∧ k ≤ 131072 ∧ Hid (SetsR w wr g i Z n fb k f)) (fun kv _ => 131072 - (intOf kv).toNat)
    case atStart => exact ⟨0, _, rfl, Nat.zero_le _, HS.out⟩
    case round =>
      obtain ⟨k, f, rfl, hk, hst⟩ := hrel
      have Hst := hst
      have HM : Hid (SetsM w (wr.alloc (.cells bs 4)) i n fb wr.heap.size 0 f []) := by
        refine ⟨hst.out.free.move (Below.heap_alloc _ _ _ hst.out.free.lt), hst.out.bel.alloc hst.out.bel.size _, ?_, SetSt.nil f i⟩
        exact (SeenAt.new Hbs.out).congr fun z _ => by simp
      obtain ⟨sb, hsb⟩ : ∃ sb, sb = wr.heap.size := ⟨_, rfl⟩
      have Hsb : Hid (w.heap.size ≤ sb ∧ sb ≠ fb) := by
        have h1 := hst.out.bel.size
        have h2 := hst.out.free.lt
        exact ⟨by omega, by omega⟩
      have Hle := Lib.hid hst.out.le
      have Hk := Lib.hid hk
      clear hst
      generalize wr = W1 at *
      go_wp2_with fail
      rw [← hsb] at HM ⊢
      clear hsb
      go_loopw [9] (fun mv wr => ∃ (m : Nat) (W : List Nat), mv = .int .i64 (m : Int) ∧ m ≤ n ∧ Hid (SetsM w wr i n fb sb m f W)) (fun mv _ => n - (intOf mv).toNat)
      case atStart => exact ⟨0, [], rfl, Nat.zero_le _, HM.out⟩
      case round =>
        obtain ⟨m, W, rfl, hm, hst⟩ := hrel
        by_cases hmn : m < n
        · have hmn' : (m : Int) < (n : Int) := by omega
          have Hmn := Lib.hid hmn
          have Hm := hst
          clear hst hmn
          generalize wr = W2 at *
          go_wp2_with fail
          go_loopw [10, 11] (fun bv iv wr => ∃ (q d : Nat), bv = .int .i64 (bestK (freeB f W) f d) ∧ iv = .int .i64 (d : Int) ∧ d ≤ i ∧ Hid (wr = W2.drewN q)) (fun _ iv _ => i - (intOf iv).toNat)
          case atStart => exact ⟨0, 0, rfl, rfl, Nat.zero_le _, rfl⟩
          case round =>
            obtain ⟨q, d, rfl, rfl, hd, hw⟩ := hrel
            have hM2 : SetsM w wr i n fb sb m f W := by rw [hw.out]; exact Hm.out.drewN q
            by_cases hdi : d < i
            · have hdi' : (d : Int) < (i : Int) := by omega
              have s0 := hM2.seen.cell hdi
              have f0 := hM2.free.cell hdi
              have s0' : ∀ q, (wr.drewN q).cell? ⟨sb, d, none⟩ = _ := fun q => s0
              have f0' : ∀ q, (wr.drewN q).cell? ⟨fb, d, none⟩ = _ := fun q => f0
              have Hnx : Hid (∀ p, ∃ q', Hid (wr.drewN p = W2.drewN q')) := fun p => ⟨q + p, by show _ = _; rw [hw.out, World.drewN_drewN]⟩
              have Hno : Hid (freeB f W d = false → bestK (freeB f W) f (d + 1) = bestK (freeB f W) f d) := fun e => by
                rw [bestK, if_neg (fun q2 => by rw [e] at q2; cases q2.1)]
              by_cases q1 : d ∈ W
              · have Hn := Lib.hid (Hno.out (by simp [freeB, q1]))
                rw [decide_eq_true q1] at s0 s0'
                generalize bestK (freeB f W) f d = bb at *
                generalize f d = y at *
                clear hM2 hw Hno q1
                go_wp2_with fail
                go_quiet (fail)
                obtain ⟨q', hq'⟩ := Hnx.out nq
                go_wp2_with fail
                go_roundw
                case rel => exact ⟨q', d + 1, by rw [Hn.out], by go_num, by omega, hq'⟩
                case measure => simp [intOf]; omega
              rw [decide_eq_false q1] at s0 s0'
              by_cases hy : f d = 0
              · have Hn := Lib.hid (Hno.out (by simp [freeB, hy]))
                rw [hy] at f0 f0'
                generalize bestK (freeB f W) f d = bb at *
                clear hM2 hw Hno q1 hy
                go_wp2_with fail
                go_quiet (fail)
                obtain ⟨q', hq'⟩ := Hnx.out nq
                go_wp2_with fail
                go_roundw
                case rel => exact ⟨q', d + 1, by rw [Hn.out], by go_num, by omega, hq'⟩
                case measure => simp [intOf]; omega
              have hfb : freeB f W d = true := by simp [freeB, q1]; omega
              rcases bestK_spec (freeB f W) f d with ⟨hb1, _⟩ | ⟨b, hb1, hb2, _, _⟩
              · have Hn : Hid (bestK (freeB f W) f (d + 1) = (d : Int)) := by
                  show _ = _
                  rw [bestK, if_pos ⟨hfb, .inl (by omega)⟩]
                rw [hb1]
                generalize f d = y at *
                have hy1 : (0 : Int) < (y : Int) := by omega
                have hy2 : decide ((y : Int) > 0) = true := decide_eq_true hy1
                have hy3 : decide (0 < y) = true := decide_eq_true (by omega)
                have hy4 : 0 < y := by omega
                clear hM2 hw Hno q1 hy hfb hb1
                go_wp2_with fail
                go_quiet (fail)
                obtain ⟨q', hq'⟩ := Hnx.out nq
                go_wp2_with fail
                go_roundw
                case rel => exact ⟨q', d + 1, by rw [Hn.out], by go_num, by omega, hq'⟩
                case measure => simp [intOf]; omega
              · have Hn : Hid ((f b < f d → bestK (freeB f W) f (d + 1) = (d : Int)) ∧ (¬ f b < f d → bestK (freeB f W) f (d + 1) = (b : Int))) := by
                  constructor
                  · intro q
                    rw [bestK, if_pos ⟨hfb, .inr (by rw [hb2]; simpa using q)⟩]
                  · intro q
                    rw [bestK, if_neg (fun q4 => by
                      rcases q4.2 with q5 | q5
                      · omega
                      · rw [hb2] at q5; simp at q5; omega), hb2]
                have hbi : b < i := by omega
                have hbi' : (b : Int) < (i : Int) := by omega
                have fb0 := hM2.free.cell hbi
                have fb0' : ∀ q, (wr.drewN q).cell? ⟨fb, b, none⟩ = _ := fun q => fb0
                rw [hb2]
                generalize f d = y at *
                generalize f b = y2 at *
                have hy1 : (0 : Int) < (y : Int) := by omega
                have hy2 : decide ((y : Int) > 0) = true := decide_eq_true hy1
                have hy3 : decide (0 < y) = true := decide_eq_true (by omega)
                have hy4 : 0 < y := by omega
                clear hM2 hw Hno q1 hy hfb hb1 hb2
                by_cases hc : y2 < y
                · have Hn2 := Lib.hid (Hn.out.1 hc)
                  have hc1 : (y2 : Int) < (y : Int) := by omega
                  have hc2 : decide ((y : Int) > (y2 : Int)) = true := decide_eq_true hc1
                  have hc3 : decide (y2 < y) = true := decide_eq_true hc
                  clear Hn
                  go_wp2_with fail
                  go_quiet (fail)
                  obtain ⟨q', hq'⟩ := Hnx.out nq
                  go_wp2_with fail
                  go_roundw
                  case rel => exact ⟨q', d + 1, by rw [Hn2.out], by go_num, by omega, hq'⟩
                  case measure => simp [intOf]; omega
                · have Hn2 := Lib.hid (Hn.out.2 hc)
                  have hc1 : ¬ (y2 : Int) < (y : Int) := by omega
                  have hc2 : decide ((y : Int) > (y2 : Int)) = false := decide_eq_false hc1
                  have hc3 : decide (y2 < y) = false := decide_eq_false hc
                  clear Hn
                  go_wp2_with fail
                  go_quiet (fail)
                  obtain ⟨q', hq'⟩ := Hnx.out nq
                  go_wp2_with fail
                  go_roundw
                  case rel => exact ⟨q', d + 1, by rw [Hn2.out], by go_num, by omega, hq'⟩
                  case measure => simp [intOf]; omega
            · obtain rfl : d = i := by omega
              rcases bestK_spec (freeB f W) f d with ⟨hb1, _⟩ | ⟨b, hb1, hb2, _, _⟩
              · have Hfin : Hid (setsV g d Z (n : Int) = k ∧ Below w.heap.size w wr) := by
                  refine ⟨Hans.out k ?_ ?_, hM2.bel⟩
                  · have := (Hst.out.rel 0).2 (feas_zero _ _ _)
                    rwa [Nat.add_zero] at this
                  · exact fun q => hM2.set.stop Hmn.out hb1 ((Hst.out.rel 1).1 q)
                rw [hb1]
                clear hM2 hw hb1 hdi
                go_wp2_with fail
                go_ret
                exact ⟨by rw [Hfin.out.1]; rfl, Hfin.out.2⟩
              · have hbd : (b : Int) < (d : Int) := by omega
                have s0 := hM2.seen.cell hb1
                have s1 := hM2.seen.frozen b
                have Hn : Hid (SetsM w (wr.setCell ⟨sb, b, none⟩ (.bool true)) d n fb sb (m + 1) f (b :: W)) := by
                  refine ⟨hM2.free.move (set_other _ _ Hsb.out.2.symm), hM2.bel.setCell (p := ⟨sb, b, none⟩) Hsb.out.1 _, (hM2.seen.set b).congr fun z _ => ?_, (hM2.set.next hb2).2⟩
                  by_cases e : z = b
                  · subst e; simp
                  · simp [e]
                rw [hb2]
                generalize decide (b ∈ W) = bb at *
                clear hM2 hw hb1 hb2 hdi hd
                go_wp2_with fail
                go_roundw
                case rel => exact ⟨m + 1, _, by go_num, by omega, Hn.out⟩
                case measure => simp [intOf]; omega
        · obtain rfl : m = n := by omega
          have Hm := hst
          have H0 : Hid (FreeAt wr fb i (fun d => if d < 0 then f d - inL W d else f d) ∧ SeenAt wr sb i (fun d => decide (d ∈ W)) ∧ Below w.heap.size w wr) := ⟨hst.out.free.congr fun z _ => by simp, hst.out.seen, hst.out.bel⟩
          clear hst hmn
          generalize wr = W2 at *
          go_wp2_with fail
          go_loopw [12] (fun iv wr => ∃ (d : Nat), iv = .int .i64 (d : Int) ∧ d ≤ i ∧ Hid (FreeAt wr fb i (fun e => if e < d then f e - inL W e else f e) ∧ SeenAt wr sb i (fun d => decide (d ∈ W)) ∧ Below w.heap.size w wr)) (fun iv _ => i - (intOf iv).toNat)
          case atStart => exact ⟨0, rfl, Nat.zero_le _, H0.out⟩
          case round =>
            obtain ⟨d, rfl, hd, hst⟩ := hrel
            obtain ⟨hf, hs, hb⟩ := hst.out
            by_cases hdi : d < i
            · have hdi' : (d : Int) < (i : Int) := by omega
              have s0 := hs.cell hdi
              have f0 := hf.cell hdi
              have f1 := hf.frozen d
              rw [if_neg (by omega)] at f0
              by_cases q1 : d ∈ W
              · rw [decide_eq_true q1] at s0
                obtain ⟨y, hy⟩ : ∃ y, f d = y + 1 := ⟨f d - 1, by have := Hm.out.set.pos d q1; omega⟩
                have hle := Hle.out d
                rw [hy] at f0 hle
                have f0' : wr.cell? ⟨fb, d, none⟩ = some (.int .i64 ((y : Int) + 1)) := f0
                have hyb : (y : Int) ≤ 4095 := by omega
                have Hn : Hid (FreeAt (wr.setCell ⟨fb, d, none⟩ (.int .i64 (y : Int))) fb i (fun e => if e < d + 1 then f e - inL W e else f e) ∧ SeenAt (wr.setCell ⟨fb, d, none⟩ (.int .i64 (y : Int))) sb i (fun d => decide (d ∈ W)) ∧ Below w.heap.size w (wr.setCell ⟨fb, d, none⟩ (.int .i64 (y : Int)))) := by
                  refine ⟨(hf.set d y).congr fun z _ => ?_, hs.move (set_other _ _ Hsb.out.2), hb.setCell (p := ⟨fb, d, none⟩) Hst.out.low _⟩
                  by_cases e : z = d
                  · subst e
                    have e1 : inL W z = 1 := by simp [inL, q1]
                    rw [if_pos (by omega), if_pos rfl, hy, e1]; omega
                  · rw [if_neg e]
                    by_cases e2 : z < d
                    · rw [if_pos (by omega), if_pos e2]
                    · rw [if_neg (by omega), if_neg e2]
                clear hf hs hb hst f0 hy hle q1 hdi
                go_wp2_with fail
                go_roundw
                case rel => exact ⟨d + 1, by go_num, by omega, Hn.out⟩
                case measure => simp [intOf]; omega
              · rw [decide_eq_false q1] at s0
                have Hn : Hid (FreeAt wr fb i (fun e => if e < d + 1 then f e - inL W e else f e) ∧ SeenAt wr sb i (fun d => decide (d ∈ W)) ∧ Below w.heap.size w wr) := by
                  refine ⟨hf.congr fun z _ => ?_, hs, hb⟩
                  by_cases e : z = d
                  · subst e
                    have e1 : inL W z = 0 := by simp [inL, q1]
                    rw [if_pos (by omega), if_neg (by omega), e1]; rfl
                  · by_cases e2 : z < d
                    · rw [if_pos (by omega), if_pos e2]
                    · rw [if_neg (by omega), if_neg e2]
                clear hf hs hb hst q1 hdi f0 f1
                go_wp2_with fail
                go_roundw
                case rel => exact ⟨d + 1, by go_num, by omega, Hn.out⟩
                case measure => simp [intOf]; omega
            · obtain rfl : d = i := by omega
              have Hn : Hid (SetsR w wr g d Z m fb (k + 1) (fun e => f e - inL W e)) := by
                have hgo := fun j => Hm.out.set.go (f' := fun e => f e - inL W e) (fun _ _ => rfl) j
                refine ⟨hf.congr fun z hz => by rw [if_pos hz], hb, Hst.out.low, fun j => ?_, fun e => Nat.le_trans (Nat.sub_le _ _) (Hle.out e)⟩
                rw [show k + 1 + j = k + (j + 1) by omega, Hst.out.rel (j + 1)]
                exact hgo j
              have hk2 : k + 1 ≤ 131072 := by
                have h1 := (Hn.out.rel 0).2 (feas_zero _ _ _)
                rw [Nat.add_zero] at h1
                exact feas_bound HD.out hn1 Hfr.out h1
              clear hf hs hb hst hdi
              go_wp2_with fail
              go_roundw
              case rel => exact ⟨k + 1, _, by go_num, hk2, Hn.out⟩
              case measure => simp [intOf]; omega
end
end Go.Proofs.Ytajpnjapfiffmaa
