/-
  Both systems side by side: the same plain data behind each act; a caller that keeps blocks of its own; what the walk of each act needs.
-/
import Derived.Test.YtdnlikhfemhmeaaPlay1
import Derived.Deep.RegionHeld3
namespace Go.Proofs.Ytdnlikhfemhmeaa
open Go.RowKit

set_option maxRecDepth 20000 in
set_option maxHeartbeats 1000000 in
theorem new_bad (pw : Value) (zones cap size : Int) (w : World) (h : zones < 1 ∨ 4096 < zones ∨ cap < 1 ∨ 4096 < cap ∨ size < 32 ∨ 65536 < size) :
    Calls Try.prog 9 #[pw, .int .i64 zones, .int .i64 cap, .int .i64 size] w fun e w' => e = .returned (.tuple #[.pointer none, .int .i64 1]) ∧ w = w' := by
  by_cases h1 : zones < 1
  · go_enter Try.func9, Try.ntmps9
    go_wp2_with fail
    go_ret2
    exact ⟨rfl, rfl⟩
  have g1 : 1 ≤ zones := by omega
  by_cases h2 : 4096 < zones
  · clear h1
    go_enter Try.func9, Try.ntmps9
    go_wp2_with fail
    go_ret2
    exact ⟨rfl, rfl⟩
  have g2 : zones ≤ 4096 := by omega
  by_cases h3 : cap < 1
  · clear h1 h2
    go_enter Try.func9, Try.ntmps9
    go_wp2_with fail
    go_ret2
    exact ⟨rfl, rfl⟩
  have g3 : 1 ≤ cap := by omega
  by_cases h4 : 4096 < cap
  · clear h1 h2 h3
    go_enter Try.func9, Try.ntmps9
    go_wp2_with fail
    go_ret2
    exact ⟨rfl, rfl⟩
  have g4 : cap ≤ 4096 := by omega
  by_cases h5 : size < 32
  · clear h1 h2 h3 h4
    go_enter Try.func9, Try.ntmps9
    go_wp2_with fail
    go_ret2
    exact ⟨rfl, rfl⟩
  have g5 : 32 ≤ size := by omega
  have h6 : 65536 < size := by omega
  clear h1 h2 h3 h4 h5 h
  go_enter Try.func9, Try.ntmps9
  go_wp2_with fail
  go_ret2
  exact ⟨rfl, rfl⟩

/-- a drive of the program's is cut by hand: the slice of picks is the caller's, of no owner -/
theorem cut_sys (pw i d : Nat) (P : Pow) (ds : List (Nat × Drv)) (D : Drv) (O : Nat → Option Tag) (A : Option Addr) (c : Nat) (picks : List Int) (w : World) (h : SysAt w O pw P ds) (hi : ds[i]? = some (d, D))
    (hR : RI w w.heap.size A picks) (hA : picks ≠ [] → ∀ ad, A = some ad → O ad.block = none) (hc : picks.length ≤ c) (hcm : c ≤ 9223372036854775807) :
    Calls Try.prog 18 #[.pointer (some ⟨d, 0, none⟩), .slice A picks.length c] w (SysPost w O pw P (ds.set i (d, D.cut picks)) (.tuple #[])) := by
  obtain ⟨hD, hok⟩ := h.drv i d D hi
  refine (driveCut_any i pw d A c picks D O w hok hD hR (fun hn ad he => ⟨(fun e => by rw [hA hn ad he] at e; cases e), (fun z e => by rw [hA hn ad he] at e; cases e)⟩) hc hcm).mono fun e w' ⟨he, q1, q2⟩ => ⟨O, he, ?_⟩
  exact h.change (O' := O) hi q2 (fun b t hb ht => ⟨(fun e => ht (by rw [hb] at e; cases e; rfl)), (fun z e => ht (by rw [hb] at e; cases e; rfl))⟩) (fun b hb => ⟨(fun e => by rw [hb] at e; cases e), (fun z e => by rw [hb] at e; cases e)⟩) (fun _ _ => rfl) (fun b hb => Nat.lt_of_lt_of_le (h.fresh b hb) q2.size) q1 (hok.cut picks)

/-- two ghosts that share no block -/
def Apart (O1 O2 : Nat → Option Tag) : Prop := ∀ b, O1 b ≠ none → O2 b = none
theorem Apart.symm {O1 O2 : Nat → Option Tag} (h : Apart O1 O2) : Apart O2 O1 := fun b hb => by
  rcases hO : O1 b with _ | t
  · rfl
  · exact absurd (h b (by rw [hO]; simp)) hb
/-- a step of the first one's, seen from the second -/
theorem Ext.other {w w' : World} {O O' Q : Nat → Option Tag} (h : Ext w O w' O') (ha : Apart O Q) (hq : ∀ b, Q b ≠ none → b < w.heap.size) : Kept (fun b => Q b ≠ none) w w' ∧ Apart O' Q := by
  refine ⟨h.1.mono fun b _ hb => ha.symm b hb, fun b hb => ?_⟩
  by_cases hlt : b < w.heap.size
  · rw [h.2 b hlt] at hb
    exact ha b hb
  · rcases hO : Q b with _ | t
    · rfl
    · exact absurd (hq b (by rw [hO]; simp)) hlt
/-- both systems, side by side, over the same plain data -/
structure Both (w : World) (O Q : Nat → Option Tag) (pw rw_ : Nat) (P : Pow) (ds es : List (Nat × Drv)) : Prop where
  sys : SysAt w O pw P ds
  ref : RSysAt w Q rw_ P es
  apart : Apart O Q
  same : ds.map (·.2) = es.map (·.2)
theorem Both.step1 {w w' : World} {O O' Q : Nat → Option Tag} {pw rw_ : Nat} {P P' : Pow} {ds ds' es : List (Nat × Drv)} (h : Both w O Q pw rw_ P ds es) (h1 : SysAt w' O' pw P' ds') (h2 : Ext w O w' O') :
    RSysAt w' Q rw_ P es ∧ Apart O' Q := by
  obtain ⟨q1, q2⟩ := h2.other h.apart h.ref.fresh
  exact ⟨h.ref.kept q1, q2⟩
theorem Both.step2 {w w' : World} {O Q Q' : Nat → Option Tag} {pw rw_ : Nat} {P P' : Pow} {ds es es' : List (Nat × Drv)} (h0 : SysAt w O pw P ds) (ha : Apart O Q) (h1 : RSysAt w' Q' rw_ P' es') (h2 : Ext w Q w' Q') :
    SysAt w' O pw P ds ∧ Apart O Q' := by
  obtain ⟨q1, q2⟩ := h2.other ha.symm h0.fresh
  exact ⟨h0.kept q1, q2.symm⟩

abbrev dat (ds : List (Nat × Drv)) : List Drv := ds.map (·.2)
theorem dat_set (ds : List (Nat × Drv)) (i d : Nat) (X : Drv) : dat (ds.set i (d, X)) = (dat ds).set i X := by simp [dat, List.map_set]
theorem dat_at {ds es : List (Nat × Drv)} (h : dat ds = dat es) {i d e : Nat} {D E : Drv} (hd : ds[i]? = some (d, D)) (he : es[i]? = some (e, E)) : D = E := by
  have h1 : (dat ds)[i]? = some D := by simp [dat, hd]
  have h2 : (dat es)[i]? = some E := by simp [dat, he]
  rw [h, h2] at h1
  exact (Option.some.inj h1).symm
theorem dat_other {ds es : List (Nat × Drv)} (h : dat ds = dat es) {i d : Nat} {D : Drv} (hd : ds[i]? = some (d, D)) : ∃ e, es[i]? = some (e, D) := by
  have h1 : (dat es)[i]? = some D := by rw [← h]; simp [dat, hd]
  simp only [dat, List.getElem?_map] at h1
  rcases hx : es[i]? with _ | ⟨e, E⟩
  · rw [hx] at h1; cases h1
  · rw [hx] at h1
    cases h1
    exact ⟨e, rfl⟩
theorem dat_write {ds es : List (Nat × Drv)} (h : dat ds = dat es) (P : Pow) : dat (writeD P ds) = dat (writeD P es) := by
  unfold writeD
  split
  · exact h
  · split
    · have h2 := congrArg (List.map fun D : Drv => D.cut P.picks) h
      simpa [dat, List.map_map, Function.comp_def] using h2
    · exact h
section
variable {ds es : List (Nat × Drv)} {i d e : Nat} {D : Drv} (h : dat ds = dat es) (P : Pow)
include h
theorem dat_app (z : Int) (l : List UInt8) : dat (appD P ds i d D z l) = dat (appD P es i e D z l) := by
  unfold appD
  split
  · split
    · rw [dat_set, dat_set, h]
    · exact dat_write h P
  · exact h
theorem dat_rs (z : Int) : dat (rsD P ds i d D z) = dat (rsD P es i e D z) := by
  unfold rsD
  split
  · exact h
  · split
    · rw [dat_set, dat_set, h]
    · exact dat_write h P
theorem dat_fl : dat (flD P ds i d D) = dat (flD P es i e D) := by
  unfold flD
  split
  · exact h
  · split
    · rw [dat_set, dat_set, h]
    · exact dat_write h P
theorem dat_rot (z k bit : Int) : dat (rotD ds i d D z k bit) = dat (rotD es i e D z k bit) := by
  unfold rotD
  split
  · rw [dat_set, dat_set, h]
  · exact h
theorem dat_sets (X : Drv) : dat (ds.set i (d, X)) = dat (es.set i (e, X)) := by rw [dat_set, dat_set, h]
end

/-- the caller's blocks M are as they were in w0; both systems stand -/
structure Rig (M : Nat → Prop) (w0 : World) (pw qw : Nat) (P : Pow) (ds : List (Nat × Drv)) (R : Pow) (es : List (Nat × Drv)) (w : World) : Prop where
  st : ∃ O Q, SysAt w O pw P ds ∧ RSysAt w Q qw R es ∧ Apart O Q ∧ ∀ b, M b → O b = none ∧ Q b = none
  low : ∀ b, M b → b < w0.heap.size
  kept : Kept M w0 w
theorem sys_free {w : World} {O : Nat → Option Tag} {b : Nat} (h : ∀ b, O b ≠ none → b < w.heap.size) (hb : w.heap.size ≤ b) : O b = none := by
  rcases hO : O b with _ | t
  · rfl
  · have := h b (by rw [hO]; simp)
    omega
section
variable {M : Nat → Prop} {w0 w w' : World} {pw qw : Nat} {P P' R R' : Pow} {ds ds' es es' : List (Nat × Drv)} {v : Value} {f : FuncId} {args : Array Value} {b i : Nat}
theorem Rig.cell (h : Rig M w0 pw qw P ds R es w) (hb : M b) (hc : w0.cell? ⟨b, i, none⟩ = some v) : w.cell? ⟨b, i, none⟩ = some v :=
  (World.cell?_of_block (w := w0) (h.kept.block b (h.low b hb) hb)).trans hc
theorem Rig.bytes {A : Option Addr} {l : List UInt8} (h : Rig M w0 pw qw P ds R es w) (hr : RB w0 w0.heap.size A l) (hA : l ≠ [] → ∀ ad, A = some ad → M ad.block) : RB w w.heap.size A l :=
  (hr.kept h.kept hA (Nat.le_refl _)).wide h.kept.size
theorem Rig.nums {A : Option Addr} {l : List Int} (h : Rig M w0 pw qw P ds R es w) (hr : RI w0 w0.heap.size A l) (hA : l ≠ [] → ∀ ad, A = some ad → M ad.block) : RI w w.heap.size A l :=
  (hr.keptN h.kept hA (Nat.le_refl _)).wide h.kept.size
theorem Rig.other (h : Rig M w0 pw qw P ds R es w) (hk : Kept (fun b => b < w.heap.size) w w') : Rig M w0 pw qw P ds R es w' := by
  obtain ⟨O, Q, h1, h2, h3, h4⟩ := h.st
  exact ⟨⟨O, Q, h1.kept (hk.mono fun b hb _ => hb), h2.kept (hk.mono fun b hb _ => hb), h3, h4⟩, h.low, h.kept.trans (hk.mono fun b hb _ => hb)⟩
theorem Rig.below (h : Rig M w0 pw qw P ds R es w) (hb : Below w.heap.size w w') : Rig M w0 pw qw P ds R es w' := h.other ((Kept.refl _ w).below hb)
theorem Rig.drewN (h : Rig M w0 pw qw P ds R es w) (q : Nat) : Rig M w0 pw qw P ds R es (w.drewN q) := h.other ((Kept.refl _ w).drewN q)
/-- the program's step -/
theorem Rig.prog (h : Rig M w0 pw qw P ds R es w) (hc : ∀ O, SysAt w O pw P ds → (∀ b, M b → O b = none) → Calls Try.prog f args w (SysPost w O pw P' ds' v)) :
    Calls Try.prog f args w fun e w' => e = .returned v ∧ Rig M w0 pw qw P' ds' R es w' := by
  obtain ⟨O, Q, h1, h2, h3, h4⟩ := h.st
  refine (hc O h1 (fun b hb => (h4 b hb).1)).mono fun e w' ⟨O', he, s1, s2⟩ => ⟨he, ?_⟩
  obtain ⟨q1, q2⟩ := s2.other h3 h2.fresh
  exact ⟨⟨O', Q, s1, h2.kept q1, q2, fun b hb => ⟨(s2.2 b (Nat.lt_of_lt_of_le (h.low b hb) h.kept.size)).trans (h4 b hb).1, (h4 b hb).2⟩⟩, h.low, h.kept.trans (s2.1.mono fun b _ hb => (h4 b hb).1)⟩
/-- the second saying's step -/
theorem Rig.ref (h : Rig M w0 pw qw P ds R es w) (hc : ∀ Q, RSysAt w Q qw R es → (∀ b, M b → Q b = none) → Calls Try.prog f args w (RSysPost w Q qw R' es' v)) :
    Calls Try.prog f args w fun e w' => e = .returned v ∧ Rig M w0 pw qw P ds R' es' w' := by
  obtain ⟨O, Q, h1, h2, h3, h4⟩ := h.st
  refine (hc Q h2 (fun b hb => (h4 b hb).2)).mono fun e w' ⟨Q', he, s1, s2⟩ => ⟨he, ?_⟩
  obtain ⟨q1, q2⟩ := s2.other h3.symm h1.fresh
  exact ⟨⟨O, Q', h1.kept q1, s1, q2.symm, fun b hb => ⟨(h4 b hb).1, (s2.2 b (Nat.lt_of_lt_of_le (h.low b hb) h.kept.size)).trans (h4 b hb).2⟩⟩, h.low, h.kept.trans (s2.1.mono fun b _ hb => (h4 b hb).2)⟩
/-- a block of the caller's, made now -/
theorem Rig.box (h : Rig M w0 pw qw P ds R es w) (o : Obj) : Rig (fun b => M b ∨ b = w.heap.size) (w.alloc o) pw qw P ds R es (w.alloc o) := by
  obtain ⟨O, Q, h1, h2, h3, h4⟩ := h.st
  have hk := (Kept.refl (fun b => b < w.heap.size) w).alloc o
  refine ⟨⟨O, Q, h1.kept (hk.mono fun b hb _ => hb), h2.kept (hk.mono fun b hb _ => hb), h3, fun b hb => ?_⟩, fun b hb => ?_, Kept.refl _ _⟩
  · rcases hb with hb | rfl
    · exact h4 b hb
    · exact ⟨sys_free h1.fresh (Nat.le_refl _), sys_free h2.fresh (Nat.le_refl _)⟩
  · have := h.kept.size
    rcases hb with hb | rfl
    · have := h.low b hb
      simp
      omega
    · simp
theorem Rig.unbox {o : Obj} {P1 R1 : Pow} {ds1 es1 : List (Nat × Drv)} (h : Rig M w0 pw qw P1 ds1 R1 es1 w) (h2 : Rig (fun b => M b ∨ b = w.heap.size) (w.alloc o) pw qw P ds R es w') : Rig M w0 pw qw P ds R es w' := by
  obtain ⟨O, Q, g1, g2, g3, g4⟩ := h2.st
  exact ⟨⟨O, Q, g1, g2, g3, fun b hb => g4 b (.inl hb)⟩, h.low, (h.kept.alloc o).trans (h2.kept.mono fun b _ hb => .inl hb)⟩
end

/-- what the play holds between acts -/
def Play (M : Nat → Prop) (w0 : World) (pw qw : Nat) (dl el : List Nat) (n : Nat) (w : World) : Prop :=
  ∃ (P : Pow) (ds es : List (Nat × Drv)), Rig M w0 pw qw P ds P es w ∧ dat ds = dat es ∧ ds.map (·.1) = dl ∧ es.map (·.1) = el ∧ P.writes ≤ n ∧ P.left ≤ 9223372036854775807

abbrev fsts (ds : List (Nat × Drv)) : List Nat := ds.map (·.1)
theorem fst_set {ds : List (Nat × Drv)} {i d : Nat} {D : Drv} (hi : ds[i]? = some (d, D)) (X : Drv) : fsts (ds.set i (d, X)) = fsts ds := by
  unfold fsts
  rw [List.map_set]
  exact set_same _ _ _ (by rw [List.getElem?_map, hi]; rfl)
theorem fst_write (P : Pow) (ds : List (Nat × Drv)) : fsts (writeD P ds) = fsts ds := by
  unfold writeD fsts
  split
  · rfl
  · split
    · simp [List.map_map, Function.comp_def]
    · rfl
theorem writes_write (P : Pow) : (writeP P).writes ≤ P.writes + 1 ∧ (writeP P).left ≤ P.left := by
  unfold writeP
  split
  · exact ⟨Nat.le_succ _, Nat.le_refl _⟩
  · split
    · exact ⟨Nat.le_succ _, Nat.zero_le _⟩
    · exact ⟨Nat.le_refl _, Nat.sub_le _ _⟩
section
variable {ds : List (Nat × Drv)} {i d : Nat} {D : Drv} (hi : ds[i]? = some (d, D)) (P : Pow)
include hi
theorem fst_app (z : Int) (l : List UInt8) : fsts (appD P ds i d D z l) = fsts ds := by
  unfold appD
  split
  · split
    · exact fst_set hi _
    · exact fst_write P ds
  · rfl
theorem fst_rs (z : Int) : fsts (rsD P ds i d D z) = fsts ds := by
  unfold rsD
  split
  · rfl
  · split
    · exact fst_set hi _
    · exact fst_write P ds
theorem fst_fl : fsts (flD P ds i d D) = fsts ds := by
  unfold flD
  split
  · rfl
  · split
    · exact fst_set hi _
    · exact fst_write P ds
theorem fst_rot (z k bit : Int) : fsts (rotD ds i d D z k bit) = fsts ds := by
  unfold rotD
  split
  · exact fst_set hi _
  · rfl
end
theorem writes_app (P : Pow) (D : Drv) (z : Int) (l : List UInt8) : (appP P D z l).writes ≤ P.writes + 1 ∧ (appP P D z l).left ≤ P.left := by
  unfold appP
  split
  · exact writes_write P
  · exact ⟨Nat.le_succ _, Nat.le_refl _⟩
theorem writes_rs (P : Pow) (D : Drv) (z : Int) : (rsP P D z).writes ≤ P.writes + 1 ∧ (rsP P D z).left ≤ P.left := by
  unfold rsP
  split
  · exact ⟨Nat.le_succ _, Nat.le_refl _⟩
  · exact writes_write P
theorem writes_fl (P : Pow) (D : Drv) : (flP P D).writes ≤ P.writes + 1 ∧ (flP P D).left ≤ P.left := by
  unfold flP
  split
  · exact ⟨Nat.le_succ _, Nat.le_refl _⟩
  · exact writes_write P

/-- the rig's own cells -/
structure RigAt (M : Nat → Prop) (w0 : World) (g pw qw bd be cd ce : Nat) (dl el : List Nat) : Prop where
  g0 : w0.cell? ⟨g, 0, none⟩ = some (.pointer (some ⟨pw, 0, none⟩))
  g1 : w0.cell? ⟨g, 1, none⟩ = some (.pointer (some ⟨qw, 0, none⟩))
  g2 : w0.cell? ⟨g, 2, none⟩ = some (.slice (some ⟨bd, 0, none⟩) dl.length cd)
  g3 : w0.cell? ⟨g, 3, none⟩ = some (.slice (some ⟨be, 0, none⟩) dl.length ce)
  mg : M g
  md : M bd
  me : M be
  dd : ∀ (i : Nat) d, dl[i]? = some d → w0.cell? ⟨bd, i, none⟩ = some (.pointer (some ⟨d, 0, none⟩))
  ee : ∀ (i : Nat) d, el[i]? = some d → w0.cell? ⟨be, i, none⟩ = some (.pointer (some ⟨d, 0, none⟩))
  len : el.length = dl.length
  pos : 1 ≤ dl.length
  few : dl.length ≤ 4

/-- an act as a value -/
def actV (x : PAct) (A1 : Option Addr) (c1 : Nat) (A2 : Option Addr) (c2 : Nat) : Value :=
  .agg #[.int .i64 x.op, .int .i64 x.drive, .int .i64 x.zone, .int .i64 x.page, .int .i64 x.num, .slice A1 x.bytes.length c1, .slice A2 x.picks.length c2]
def actCells (x : PAct) (A1 : Option Addr) (c1 : Nat) (A2 : Option Addr) (c2 : Nat) : Array Value :=
  #[.int .i64 x.op, .int .i64 x.drive, .int .i64 x.zone, .int .i64 x.page, .int .i64 x.num, .slice A1 x.bytes.length c1, .slice A2 x.picks.length c2]

/-- what the caller of an act holds -/
structure Ready (M : Nat → Prop) (w0 : World) (g pw qw bd be cd ce : Nat) (dl el : List Nat) (n : Nat) (x : PAct) (A1 : Option Addr) (c1 : Nat) (A2 : Option Addr) (c2 : Nat) (w : World) : Prop where
  rig : RigAt M w0 g pw qw bd be cd ce dl el
  play : Play M w0 pw qw dl el n w
  num : n ≤ 1099511627776
  bytes : RB w0 w0.heap.size A1 x.bytes
  bytesM : x.bytes ≠ [] → ∀ ad, A1 = some ad → M ad.block
  picks : RI w0 w0.heap.size A2 x.picks
  picksM : x.picks ≠ [] → ∀ ad, A2 = some ad → M ad.block
  picksC : x.picks.length ≤ c2
  picksL : x.picks.length ≤ 1048576
  capC : c2 ≤ maxLen
  lo : -9223372036854775808 ≤ x.drive
  hi : x.drive ≤ 9223372036854775807
  hiN : x.num ≤ 9223372036854775807

theorem pick_of (z : Int) {N : Nat} (h : 1 ≤ N) : ∃ j : Nat, j < N ∧ ((0 ≤ z.tmod (N : Int) ∧ z.tmod (N : Int) = (j : Int)) ∨ (z.tmod (N : Int) < 0 ∧ z.tmod (N : Int) + (N : Int) = (j : Int))) := by
  have h1 : -(N : Int) < z.tmod (N : Int) := Int.lt_tmod_of_pos z (by omega)
  have h2 : z.tmod (N : Int) < (N : Int) := Int.tmod_lt_of_pos z (by omega)
  by_cases h0 : 0 ≤ z.tmod (N : Int)
  · exact ⟨(z.tmod (N : Int)).toNat, by omega, .inl ⟨h0, by omega⟩⟩
  · exact ⟨(z.tmod (N : Int) + (N : Int)).toNat, by omega, .inr ⟨by omega, by omega⟩⟩

section
variable {M : Nat → Prop} {w0 w : World} {g pw qw bd be cd ce n : Nat} {dl el : List Nat} {x : PAct} {A1 A2 : Option Addr} {c1 c2 : Nat}
/-- behind the act's own box -/
def Boxed (M : Nat → Prop) (w0 : World) (g pw qw bd be cd ce : Nat) (dl el : List Nat) (n : Nat) (x : PAct) (A1 : Option Addr) (c1 : Nat) (A2 : Option Addr) (c2 : Nat) (w w1 : World) (bx : Nat) : Prop :=
  w1.cell? ⟨bx, 0, none⟩ = some (.int .i64 x.op) ∧ w1.cell? ⟨bx, 1, none⟩ = some (.int .i64 x.drive) ∧ w1.cell? ⟨bx, 2, none⟩ = some (.int .i64 x.zone) ∧ w1.cell? ⟨bx, 3, none⟩ = some (.int .i64 x.page) ∧ w1.cell? ⟨bx, 4, none⟩ = some (.int .i64 x.num) ∧
  w1.cell? ⟨bx, 5, none⟩ = some (.slice A1 x.bytes.length c1) ∧ w1.cell? ⟨bx, 6, none⟩ = some (.slice A2 x.picks.length c2) ∧
  w1.cell? ⟨g, 0, none⟩ = some (.pointer (some ⟨pw, 0, none⟩)) ∧ w1.cell? ⟨g, 1, none⟩ = some (.pointer (some ⟨qw, 0, none⟩)) ∧ w1.cell? ⟨g, 2, none⟩ = some (.slice (some ⟨bd, 0, none⟩) dl.length cd) ∧ w1.cell? ⟨g, 3, none⟩ = some (.slice (some ⟨be, 0, none⟩) dl.length ce) ∧
  ∀ (j : Nat), j < dl.length → ∃ d e P ds es D, w1.cell? ⟨bd, j, none⟩ = some (.pointer (some ⟨d, 0, none⟩)) ∧ w1.cell? ⟨be, j, none⟩ = some (.pointer (some ⟨e, 0, none⟩)) ∧
    Hid (Rig (fun b => M b ∨ b = bx) w1 pw qw P ds P es w1 ∧ (∀ R ds' es' w', Rig (fun b => M b ∨ b = bx) w1 pw qw R ds' R es' w' → Rig M w0 pw qw R ds' R es' w') ∧
      dat ds = dat es ∧ fsts ds = dl ∧ fsts es = el ∧ P.writes ≤ n ∧ P.left ≤ 9223372036854775807 ∧ ds[j]? = some (d, D) ∧ es[j]? = some (e, D) ∧ ds.length ≤ 4 ∧ es.length ≤ 4 ∧ RB w1 w1.heap.size A1 x.bytes ∧ RI w1 w1.heap.size A2 x.picks)
theorem Ready.boxed (h : Ready M w0 g pw qw bd be cd ce dl el n x A1 c1 A2 c2 w) {w1 : World} (hw : w1 = w.alloc (.cells (actCells x A1 c1 A2 c2) 48)) : Boxed M w0 g pw qw bd be cd ce dl el n x A1 c1 A2 c2 w w1 w.heap.size := by
  obtain ⟨P, ds, es, hr, h1, h2, h3, h4, h5⟩ := h.play
  have hb := hr.box (.cells (actCells x A1 c1 A2 c2) 48)
  rw [← hw] at hb
  have hc : Cells w1 w.heap.size 48 (actCells x A1 c1 A2 c2).toList := by rw [hw]; exact Cells.new w _ _
  have old : ∀ {b i : Nat} {v : Value}, M b → w0.cell? ⟨b, i, none⟩ = some v → w1.cell? ⟨b, i, none⟩ = some v := by
    intro b i v hm hv
    have := hr.cell hm hv
    rw [hw]
    exact (World.cell?_alloc_lt w _ ⟨b, i, none⟩ (World.block_lt_of_cell? w _ this)).trans this
  refine ⟨hc.cell rfl, hc.cell rfl, hc.cell rfl, hc.cell rfl, hc.cell rfl, hc.cell rfl, hc.cell rfl, old h.rig.mg h.rig.g0, old h.rig.mg h.rig.g1, old h.rig.mg h.rig.g2, old h.rig.mg h.rig.g3, fun j hj => ?_⟩
  have l1 : ds.length = dl.length := by rw [← h2]; simp
  have l2 : es.length = dl.length := by rw [← h.rig.len, ← h3]; simp
  obtain ⟨⟨d, D⟩, hd⟩ : ∃ q, ds[j]? = some q := ⟨_, List.getElem?_eq_getElem (by omega)⟩
  obtain ⟨e, he⟩ := dat_other h1 hd
  refine ⟨d, e, P, ds, es, D, old h.rig.md (h.rig.dd j d (by rw [← h2]; simp [hd])), old h.rig.me (h.rig.ee j e (by rw [← h3]; simp [he])), ?_⟩
  have := h.rig.few
  exact ⟨hb, fun R ds' es' w' q => hr.unbox (by rw [← hw]; exact q), h1, h2, h3, h4, h5, hd, he, by omega, by omega, (h.bytes.kept (hk := hw ▸ hr.kept.alloc _) h.bytesM (Nat.le_refl _)).wide (hw ▸ (hr.kept.alloc _).size), (h.picks.keptN (hk := hw ▸ hr.kept.alloc _) h.picksM (Nat.le_refl _)).wide (hw ▸ (hr.kept.alloc _).size)⟩
end
end Go.Proofs.Ytdnlikhfemhmeaa
