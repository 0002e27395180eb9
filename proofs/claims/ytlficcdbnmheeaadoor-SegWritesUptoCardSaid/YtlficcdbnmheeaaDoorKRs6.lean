/-
  The program's mustBeThere; caught, with each of the three closures that are handed to it.
-/
import Derived.Test.YtlficcdbnmheeaaDoorKRs1
import Derived.Recover
namespace Go.Proofs.YtlficcdbnmheeaaDoor
open Go.RowKit

set_option maxRecDepth 20000
theorem PartAt.shape {w wr : World} {v2 v3 : Value} {l2 l3 : List Int} (h : PartAt w v2 v3 l2 l3 wr) : ∃ A2 c2 A3 c3, v2 = .slice A2 l2.length c2 ∧ v3 = .slice A3 l3.length c3 ∧ l2.length ≤ c2 ∧ l3.length ≤ c3 ∧ RI wr wr.heap.size A2 l2 ∧ RI wr wr.heap.size A3 l3 := by
  obtain ⟨A2, c2, e2, k2, _, r2⟩ := h.one.rd
  obtain ⟨A3, c3, e3, k3, _, r3⟩ := h.two.rd
  rw [ints_length] at e2 k2 e3 k3
  have go : ∀ (l : List Int) (A : Option Addr), (∀ i u, (ints l)[i]? = some u → ∃ b, A = some ⟨b, 0, none⟩ ∧ b < wr.heap.size ∧ wr.cell? ⟨b, i, none⟩ = some u) → RI wr wr.heap.size A l := fun l A hr k x hx => by
    obtain ⟨b, rfl, hb, hc⟩ := hr k (.int .i64 x) (by unfold ints; rw [List.getElem?_map, hx]; rfl)
    exact ⟨_, rfl, hb, by rw [add_flat, Nat.zero_add]; exact hc⟩
  exact ⟨A2, c2, A3, c3, e2, e3, k2, k3, go _ _ r2, go _ _ r3⟩
theorem mustBeThere_any (A : Option Addr) (c N : Nat) (S : Mtx) (w : World) (h : RM w w.heap.size A S) (hN : N = S.length) (hN2 : N ≤ 4096) :
    Calls Tryd.prog 75 #[.slice A N c] w fun e w' => e = mayEnd (decide ((missL S).length = 0)) ∧ Below w.heap.size w w' := by
  have HP := Lib.hid (parted_any A c N S w h hN hN2)
  clear h hN hN2
  go_enter Tryd.func75, Tryd.ntmps75
  go_wp2_with fail
  refine HP.out.mono ?_
  rintro e w1 ⟨v2, v3, rfl, hp⟩
  obtain ⟨A2, c2, A3, c3, rfl, rfl, _, _, _, _⟩ := hp.shape
  have Hb := Lib.hid hp.bel
  clear HP hp
  by_cases h0 : (missL S).length = 0
  · have He : Hid (decide ((missL S).length = 0) = true) := decide_eq_true h0
    rw [h0]
    clear h0
    go_wp2_with fail
    go_end0
    exact ⟨mayEnd_yes He.out, Hb.out⟩
  · have He : Hid (decide ((missL S).length = 0) = false) := decide_eq_false h0
    have h1 : (0 : Int) < ((missL S).length : Int) := by omega
    obtain ⟨m, hm⟩ : ∃ m, m = (missL S).length := ⟨_, rfl⟩
    rw [← hm] at h1 ⊢
    clear h0 hm
    go_wp2_with fail
    exact ⟨rfl, mayEnd_no He.out, Hb.out⟩
/-- what is told of a closure that was called so -/
def DoPost (w : World) (V : Value → World → Prop) (X : Int → Prop) (e : Ending) (w' : World) : Prop :=
  Below w.heap.size w w' ∧ ((∃ v, e = .returned v ∧ V v w') ∨ ∃ x, X x ∧ e = .panicked [{ v := .iface 30 (.int .i64 x), recovered := false }])
def CaughtPost (w : World) (V : Value → World → Prop) (X : Int → Prop) (z : Value) (e : Ending) (w' : World) : Prop :=
  Below w.heap.size w w' ∧ ((∃ v, e = .returned (.tuple #[v, .int .i64 0]) ∧ V v w') ∨ ∃ x, X x ∧ e = .returned (.tuple #[z, .int .i64 x]))
theorem as_errno (v : Value) (w : World) : (Instr.typeAssert (.iface 30 v) 20 30 false).run Tryd.prog w = .ok v w := by kernel_rfl
theorem load_errno {w : World} {b : Nat} {x : Int} (h : w.cell? ⟨b, 0, none⟩ = some (.int .i64 x)) : (loadVar 30 ⟨b, 0, none⟩).run Tryd.prog w = .ok (.int .i64 x) w := by
  simp [go_sem, h]
theorem results_tmp_cell {fn : Func} {p q : Tmp} {t : TypeId} (h : fn.results = #[.tmp p, .cell q t]) (tmps : Array Value) (w : World) (a : Addr) (v : Value) (ha : tmps.getD q undef = .pointer (some a))
    (h1 : (loadVar t a).run Tryd.prog w = .ok v w) : (results fn tmps).run Tryd.prog w = .ok (.tuple #[tmps.getD p undef, v]) w := by
  have ha' : tmps[q]?.getD undef = .pointer (some a) := by simpa using ha
  simp [results, h, ha', asAddr, h1]
theorem set_same {w : World} {b : Nat} {t : TypeId} {u : Value} (h : Cells w b t [u]) : w.setCell ⟨b, 0, none⟩ u = w := by
  unfold World.setCell
  congr 1
  apply Array.ext_getElem?
  intro i
  rw [Array.getElem?_modify]
  by_cases e : b = i
  · subst e
    rw [if_pos rfl, h]
    rfl
  · rw [if_neg e]
theorem catchL_yes (p : Addr) (x y : Int) (w : World) (hc : w.cell? p = some (.int .i64 y)) (hz : w.frozen? p = false) :
    CallsD Tryd.prog 94 #[.pointer (some p)] (.panicking [{ v := .iface 30 (.int .i64 x), recovered := false }]) w fun e u' w' =>
      e = .returned (.tuple #[]) ∧ u' = .panicking [{ v := .iface 30 (.int .i64 x), recovered := true }] ∧ w' = w.setCell p (.int .i64 x) := by
  refine callsD_of_wpS Tryd.func94 rfl fun c₀ cs hu => ?_
  apply wpS_seq
  apply wpS_region
  simp [wpOpsS, go_sem, recoverD, hu, Tryd.ntmps94, Exit.thenS]
  apply wpS_seq
  apply wpS_region
  simp [wpOpsS, go_sem, Exit.thenS]
  refine wpS_cond (t := true) (by simp [Act.eval, Array.replicate]) ?_
  simp only [if_true]
  apply wpS_region
  simp [wpOpsS, go_sem, as_errno, hc, hz, bodyPostS, results, Tryd.results94]
theorem catchL_no (p : Addr) (w : World) :
    CallsD Tryd.prog 94 #[.pointer (some p)] .returning w fun e u' w' => e = .returned (.tuple #[]) ∧ u' = .returning ∧ w' = w := by
  refine callsD_of_wpS Tryd.func94 rfl fun c₀ cs hu => ?_
  apply wpS_seq
  apply wpS_region
  simp [wpOpsS, go_sem, recoverD, hu, Tryd.ntmps94, Exit.thenS]
  apply wpS_seq
  apply wpS_region
  simp [wpOpsS, go_sem, Exit.thenS]
  refine wpS_cond (t := false) (by simp [Act.eval, Array.replicate]) ?_
  simp only [Bool.false_eq_true, if_false]
  refine wpS_of_wp (wp_skip ?_)
  cases c₀
  simp_all [bodyPostS, results, Tryd.results94]
/-- caught, with the closure of Parity -/
theorem caughtParity (caps : Value × Value) (V : Value → World → Prop) (X : Int → Prop) (w : World)
    (H : Calls Tryd.prog 73 #[caps.1, caps.2] (w.alloc (.cells #[.int .i64 0] 30)) (DoPost (w.alloc (.cells #[.int .i64 0] 30)) V X)) :
    Calls Tryd.prog 72 #[.func (.func 73) #[] #[caps.1, caps.2]] w (CaughtPost w V X (.slice none 0 0)) := by
  have hmf : ∀ (fn : Fn) (first cap : Array Value) (w : World), (Instr.makeFunc fn first cap).run Tryd.prog w = .ok (.func fn first cap) w := fun _ _ _ _ => rfl
  obtain ⟨p, q⟩ := caps
  have HH := Lib.hid H
  clear H
  go_enter_defers Tryd.func72, Tryd.ntmps72
  go_wp2_with fail
  refine HH.out.mono ?_
  rintro e w1 ⟨hb, ⟨v, rfl, hv⟩ | ⟨x, hx, rfl⟩⟩
  · have hc : Cells w1 w.heap.size 30 [.int .i64 0] := (Cells.new w #[.int .i64 0] 30).move (hb.block w.heap.size (by simp))
    have k1 : w1.cell? ⟨w.heap.size, 0, none⟩ = some (.int .i64 0) := hc.cell rfl
    have k2 : w1.frozen? ⟨w.heap.size, 0, none⟩ = false := hc.frozen 0
    have k3 : w1.setCell ⟨w.heap.size, 0, none⟩ (.int .i64 0) = w1 := set_same hc
    have Hv : Hid (Below w.heap.size w w1 ∧ V v w1) := ⟨((Below.refl _ _).alloc (Nat.le_refl _) _).trans (hb.mono (by simp)), hv⟩
    have HC := Lib.hid (catchL_no ⟨w.heap.size, 0, none⟩ w1)
    clear hb hc hv HH
    go_wp2_with fail
    refine leaves_cons (f := 94) (args := #[.pointer (some ⟨w.heap.size, 0, none⟩)]) (by simp) (by simp [go_sem]) ?_
    refine HC.out.mono ?_
    rintro e u' w'' ⟨rfl, rfl, rfl⟩
    refine ⟨_, results_tmp_cell rfl _ _ _ _ rfl (load_errno k1), Hv.out.1, .inl ⟨v, rfl, Hv.out.2⟩⟩
  · have hc : Cells w1 w.heap.size 30 [.int .i64 0] := (Cells.new w #[.int .i64 0] 30).move (hb.block w.heap.size (by simp))
    have k1 : w1.cell? ⟨w.heap.size, 0, none⟩ = some (.int .i64 0) := hc.cell rfl
    have k2 : w1.frozen? ⟨w.heap.size, 0, none⟩ = false := hc.frozen 0
    have k3 : (w1.setCell ⟨w.heap.size, 0, none⟩ (.int .i64 x)).cell? ⟨w.heap.size, 0, none⟩ = some (.int .i64 x) := (hc.set 0 (.int .i64 x)).cell rfl
    have hbb : Below w.heap.size w w1 := ((Below.refl _ _).alloc (Nat.le_refl _) _).trans (hb.mono (by simp))
    refine leaves_cons (f := 94) (args := #[.pointer (some ⟨w.heap.size, 0, none⟩)]) (by simp) (by simp [go_sem]) ?_
    refine (catchL_yes ⟨w.heap.size, 0, none⟩ x 0 w1 k1 k2).mono ?_
    rintro e u' w'' ⟨rfl, rfl, rfl⟩
    refine ⟨_, results_tmp_cell rfl _ _ _ _ rfl (load_errno k3), hbb.setCell (p := ⟨w.heap.size, 0, none⟩) (Nat.le_refl _) _, .inr ⟨x, hx, rfl⟩⟩
/-- caught, with the closure of Rebuild -/
theorem caughtRebuild (caps : Value × Value) (V : Value → World → Prop) (X : Int → Prop) (w : World)
    (H : Calls Tryd.prog 117 #[caps.1, caps.2] (w.alloc (.cells #[.int .i64 0] 30)) (DoPost (w.alloc (.cells #[.int .i64 0] 30)) V X)) :
    Calls Tryd.prog 72 #[.func (.func 117) #[] #[caps.1, caps.2]] w (CaughtPost w V X (.slice none 0 0)) := by
  have hmf : ∀ (fn : Fn) (first cap : Array Value) (w : World), (Instr.makeFunc fn first cap).run Tryd.prog w = .ok (.func fn first cap) w := fun _ _ _ _ => rfl
  obtain ⟨p, q⟩ := caps
  have HH := Lib.hid H
  clear H
  go_enter_defers Tryd.func72, Tryd.ntmps72
  go_wp2_with fail
  refine HH.out.mono ?_
  rintro e w1 ⟨hb, ⟨v, rfl, hv⟩ | ⟨x, hx, rfl⟩⟩
  · have hc : Cells w1 w.heap.size 30 [.int .i64 0] := (Cells.new w #[.int .i64 0] 30).move (hb.block w.heap.size (by simp))
    have k1 : w1.cell? ⟨w.heap.size, 0, none⟩ = some (.int .i64 0) := hc.cell rfl
    have k2 : w1.frozen? ⟨w.heap.size, 0, none⟩ = false := hc.frozen 0
    have k3 : w1.setCell ⟨w.heap.size, 0, none⟩ (.int .i64 0) = w1 := set_same hc
    have Hv : Hid (Below w.heap.size w w1 ∧ V v w1) := ⟨((Below.refl _ _).alloc (Nat.le_refl _) _).trans (hb.mono (by simp)), hv⟩
    have HC := Lib.hid (catchL_no ⟨w.heap.size, 0, none⟩ w1)
    clear hb hc hv HH
    go_wp2_with fail
    refine leaves_cons (f := 94) (args := #[.pointer (some ⟨w.heap.size, 0, none⟩)]) (by simp) (by simp [go_sem]) ?_
    refine HC.out.mono ?_
    rintro e u' w'' ⟨rfl, rfl, rfl⟩
    refine ⟨_, results_tmp_cell rfl _ _ _ _ rfl (load_errno k1), Hv.out.1, .inl ⟨v, rfl, Hv.out.2⟩⟩
  · have hc : Cells w1 w.heap.size 30 [.int .i64 0] := (Cells.new w #[.int .i64 0] 30).move (hb.block w.heap.size (by simp))
    have k1 : w1.cell? ⟨w.heap.size, 0, none⟩ = some (.int .i64 0) := hc.cell rfl
    have k2 : w1.frozen? ⟨w.heap.size, 0, none⟩ = false := hc.frozen 0
    have k3 : (w1.setCell ⟨w.heap.size, 0, none⟩ (.int .i64 x)).cell? ⟨w.heap.size, 0, none⟩ = some (.int .i64 x) := (hc.set 0 (.int .i64 x)).cell rfl
    have hbb : Below w.heap.size w w1 := ((Below.refl _ _).alloc (Nat.le_refl _) _).trans (hb.mono (by simp))
    refine leaves_cons (f := 94) (args := #[.pointer (some ⟨w.heap.size, 0, none⟩)]) (by simp) (by simp [go_sem]) ?_
    refine (catchL_yes ⟨w.heap.size, 0, none⟩ x 0 w1 k1 k2).mono ?_
    rintro e u' w'' ⟨rfl, rfl, rfl⟩
    refine ⟨_, results_tmp_cell rfl _ _ _ _ rfl (load_errno k3), hbb.setCell (p := ⟨w.heap.size, 0, none⟩) (Nat.le_refl _) _, .inr ⟨x, hx, rfl⟩⟩
end Go.Proofs.YtlficcdbnmheeaaDoor

/-
  The program's Parity, with its closure.
-/
namespace Go.Proofs.YtlficcdbnmheeaaDoor
open Go.RowKit

set_option maxRecDepth 20000
theorem mustM_ok (A : Option Addr) (n c : Nat) (w : World) : Calls Tryd.prog 77 #[.slice A n c, .int .i64 0] w fun e w' => e = .returned (.slice A n c) ∧ w = w' := by
  go_enter Tryd.func77, Tryd.ntmps77
  go_wp2_with fail
  go_ret
  exact ⟨rfl, rfl⟩
/-- what a closure has: the code, the shards -/
structure EnvAt (c0 c1 bc : Nat) (k : Nat) (s : Value) (w : World) : Prop where
  code : w.cell? ⟨c0, 0, none⟩ = some (.pointer (some ⟨bc, 0, none⟩))
  num : w.cell? ⟨bc, 0, none⟩ = some (.int .i64 (k : Int))
  shards : w.cell? ⟨c1, 0, none⟩ = some s
theorem EnvAt.below {c0 c1 bc k : Nat} {s : Value} {w w' : World} (h : EnvAt c0 c1 bc k s w) (hb : Below w.heap.size w w') : EnvAt c0 c1 bc k s w' :=
  ⟨(hb.cell (p := ⟨c0, 0, none⟩) (World.block_lt_of_cell? _ _ h.code)).trans h.code, (hb.cell (p := ⟨bc, 0, none⟩) (World.block_lt_of_cell? _ _ h.num)).trans h.num, (hb.cell (p := ⟨c1, 0, none⟩) (World.block_lt_of_cell? _ _ h.shards)).trans h.shards⟩
theorem EnvAt.drewN {c0 c1 bc k : Nat} {s : Value} {w : World} (h : EnvAt c0 c1 bc k s w) (q : Nat) : EnvAt c0 c1 bc k s (w.drewN q) := ⟨h.code, h.num, h.shards⟩
theorem miss_none {S : Mtx} : ∀ i, (missK S i).length = 0 → ∀ j, j < i → (S.getD j []).length ≠ 0
  | 0, _, j, hj => by omega
  | i + 1, h, j, hj => by
    unfold missK at h
    by_cases h0 : (S.getD i []).length = 0
    · rw [if_pos h0, List.length_append, List.length_singleton] at h; omega
    · rw [if_neg h0] at h
      by_cases e : j = i
      · rw [e]; exact h0
      · exact miss_none i h j (by omega)
/-- k shards, equally long, none missing -/
def parB (k : Nat) (S : Mtx) : Bool := fitB (k : Int) S && decide ((missL S).length = 0)
theorem par_facts {k : Nat} {S : Mtx} (h : parB k S = true) (hk : 1 ≤ k) : S.length = k ∧ 1 ≤ (S.headD []).length ∧ ∀ (i : Nat) (l : List UInt8), S[i]? = some l → l.length = (S.headD []).length := by
  unfold parB fitB at h
  rw [Bool.and_eq_true, Bool.and_eq_true, decide_eq_true_eq, decide_eq_true_eq] at h
  obtain ⟨⟨h1, h2⟩, h3⟩ := h
  obtain ⟨m, hm⟩ := Option.isSome_iff_exists.1 h2
  obtain ⟨_, f2, _, _⟩ := fitS_some S 0 m hm
  have hne := miss_none S.length h3
  have key : ∀ (i : Nat) (l : List UInt8), S[i]? = some l → l.length = m ∧ l.length ≠ 0 := fun i l hl => by
    have hi := (List.getElem?_eq_some_iff.1 hl).1
    have := hne i hi
    rw [getD_of hl] at this
    rcases f2 l (List.mem_of_getElem? hl) with h0 | h0
    · exact absurd h0 this
    · exact ⟨h0, this⟩
  have hk1 : S.length = k := by omega
  have h0 := key 0 _ (head_get (by omega))
  exact ⟨hk1, by omega, fun i l hl => by rw [(key i l hl).1, h0.1]⟩
theorem mat_rm2 {w : World} {lo hi g n c : Nat} {M : Mtx} (h : MatO w lo hi (.slice (some ⟨g, 0, none⟩) n c) M) : RM w w.heap.size (some ⟨g, 0, none⟩) M := by
  obtain ⟨A, c', e, _, r⟩ := h.rm
  have e1 := (Value.slice.inj e).1
  rw [← e1] at r
  exact r
theorem pairs_row {k t : Nat} {l : List UInt8} (h : (pairsM k)[t]? = some l) : l.length = k := by
  have : l ∈ pairsM k := List.mem_of_getElem? h
  unfold pairsM at this
  rcases List.mem_cons.1 this with rfl | h2
  · simp
  · rcases List.mem_cons.1 h2 with rfl | h3
    · simp
    · cases h3
set_option maxHeartbeats 1600000 in
theorem parity_body (c0 c1 bc k N c : Nat) (A : Option Addr) (S : Mtx) (w : World) (he : EnvAt c0 c1 bc k (.slice A N c) w) (h : RM w w.heap.size A S) (hN : N = S.length) (hN2 : N ≤ 255) (hk1 : 1 ≤ k) (hk2 : k ≤ 253) (hl : ∀ (k : Nat) (l : List UInt8), S[k]? = some l → l.length ≤ 1048576) :
    Calls Tryd.prog 73 #[.pointer (some ⟨c0, 0, none⟩), .pointer (some ⟨c1, 0, none⟩)] w (DoPost w (fun v w' => parB k S = true ∧ ∃ g, v = .slice (some ⟨g, 0, none⟩) 2 2 ∧ MatO w' w.heap.size w'.heap.size v (linM (pairsM k) S (S.headD []).length)) (fun x => parB k S = false ∧ x = 1)) := by
  have Hb : Hid (N = S.length ∧ N ≤ 255 ∧ 1 ≤ k ∧ k ≤ 253) := ⟨hN, hN2, hk1, hk2⟩
  have Hh := Lib.hid h
  have He := Lib.hid he
  have Hl := Lib.hid hl
  have HF := Lib.hid (mustFit_any (k : Int) A c N S w.drew _ (h.drewN 1) hN (by omega) hl)
  have HT := Lib.hid (mustBeThere_any A c N S w.drew (h.drewN 1) hN (by omega))
  obtain ⟨q1, q2, q3⟩ := he
  clear h hN hN2 hk1 hk2 hl
  go_enter Tryd.func73, Tryd.ntmps73
  go_wp2_with fail
  refine wp_region_still_tail 5 (by kernel_rfl) (by kernel_rfl) ?_
  simp only [List.take_succ_cons, List.take_zero, List.drop_succ_cons, List.drop_zero]
  repeat still_step
  try refine wpStill_nil ?_
  change wpList _ _ _ _ _ w.drew
  go_wp2_with fail
  rcases hf : fitB (k : Int) S with _ | _
  · rw [hf] at HF
    refine HF.out.mono ?_
    rintro e w1 ⟨rfl, rfl⟩
    change bodyPost _ _ _ (Exit.panic _) _ _
    exact ⟨rfl, drewN_below (Below.refl _ _) 1, .inr ⟨1, ⟨by unfold parB; rw [hf]; rfl, rfl⟩, rfl⟩⟩
  rw [hf] at HF
  have HF2 : Hid (Calls Tryd.prog 74 #[.int .i64 (k : Int), .slice A N c] w.drew fun e w' => e = .returned (.tuple #[]) ∧ w.drew = w') := HF.out
  have Hf := Lib.hid hf
  clear hf HF
  refine HF2.out.mono ?_
  rintro e w1 ⟨rfl, rfl⟩
  go_wp2_with fail
  rcases hm : decide ((missL S).length = 0) with _ | _
  · rw [hm] at HT
    refine HT.out.mono ?_
    rintro e w1 ⟨rfl, hb⟩
    change bodyPost _ _ _ (Exit.panic _) _ _
    exact ⟨rfl, (drewN_below (Below.refl _ _) 1).trans hb, .inr ⟨1, ⟨by unfold parB; rw [Hf.out, hm]; rfl, rfl⟩, rfl⟩⟩
  rw [hm] at HT
  have HT2 : Hid (Calls Tryd.prog 75 #[.slice A N c] w.drew fun e w' => e = .returned (.tuple #[]) ∧ Below w.drew.heap.size w.drew w') := HT.out
  have Hp : Hid (parB k S = true) := by unfold Hid parB; rw [Hf.out, hm]; rfl
  clear hm HT HF2 Hf
  refine HT2.out.mono ?_
  rintro e w2 ⟨rfl, hb2⟩
  have hb2 : Below w.heap.size w w2 := (drewN_below (Below.refl _ w) 1).trans hb2
  have Hb2 : Hid (Below w.heap.size w w2.drew) := drewN_below hb2 1
  obtain ⟨p1, p2, p3⟩ := par_facts Hp.out Hb.out.2.2.1
  have Hpf : Hid (S.length = k ∧ 1 ≤ (S.headD []).length ∧ (S.headD []).length ≤ 1048576 ∧ ∀ (i : Nat) (l : List UInt8), S[i]? = some l → l.length = (S.headD []).length) := ⟨p1, p2, Hl.out 0 _ (head_get (by have := Hb.out; omega)), p3⟩
  obtain ⟨r1, r2, r3⟩ := (He.out.below hb2)
  have HS : Hid (∀ W, Below w.heap.size w W → W.cell? ⟨c0, 0, none⟩ = some (.pointer (some ⟨bc, 0, none⟩)) ∧ W.cell? ⟨bc, 0, none⟩ = some (.int .i64 (k : Int)) ∧ W.cell? ⟨c1, 0, none⟩ = some (.slice A N c)) := fun W hb => ⟨(He.out.below hb).code, (He.out.below hb).num, (He.out.below hb).shards⟩
  have Hk : Hid (1 ≤ k ∧ k ≤ 255) := by have := Hb.out; exact ⟨by omega, by omega⟩
  clear hb2 p1 p2 p3 q1 q2 q3 HT2
  go_wp2_with fail
  go_region_held3 (fun W => W.cell? ⟨c0, 0, none⟩ = some (.pointer (some ⟨bc, 0, none⟩)) ∧ W.cell? ⟨bc, 0, none⟩ = some (.int .i64 (k : Int)) ∧ W.cell? ⟨c1, 0, none⟩ = some (.slice A N c)) (first | exact ⟨r1, r2, r3⟩ | exact hS5 | exact hS7)
    (first
      | (go_at_call 78; refine (pairs_any k _ Hk.out.1 Hk.out.2).mono ?_; rintro e w5 ⟨gp, rfl, mp, bp⟩; have Hp5 : Hid (RM w5 w5.heap.size (some ⟨gp, 0, none⟩) (pairsM k) ∧ Below w.heap.size w w5) := ⟨mat_rm2 mp, Hb2.out.trans (bp.mono Hb2.out.size)⟩; have hS5 := HS.out w5 Hp5.out.2; clear mp bp)
      | (go_at_call 77; refine (mustM_ok _ _ _ _).mono ?_; rintro e w6 ⟨rfl, rfl⟩)
      | (go_at_call 76; refine (times_any' (some ⟨gp, 0, none⟩) 2 (pairsM k) A c N (S.headD []).length S _ Hp5.out.1 ((Hh.out.below Hp5.out.2).wide Hp5.out.2.size) (by simp [pairsM]) (by simp [pairsM]) Hb.out.1 (by have := Hb.out; have := Hpf.out.1; omega) (by have := Hb.out; omega) (fun t l ht => by rw [pairs_row ht]; have := Hb.out; have := Hpf.out.1; omega) Hpf.out.2.2.2 Hpf.out.2.1 Hpf.out.2.2.1).mono ?_; rintro e w7 ⟨rfl, hm7, hb7⟩; have H7 : Hid (∃ g, (Value.slice (some ⟨w5.heap.size, 0, none⟩) 2 2) = .slice (some ⟨g, 0, none⟩) 2 2 ∧ MatO w7 w5.heap.size w7.heap.size (.slice (some ⟨w5.heap.size, 0, none⟩) 2 2) (linM (pairsM k) S (S.headD []).length) ∧ Below w.heap.size w w7) := ⟨_, rfl, hm7, Hp5.out.2.trans (hb7.mono Hp5.out.2.size)⟩; have hS7 := HS.out w7 (Hp5.out.2.trans (hb7.mono Hp5.out.2.size)); clear hm7 hb7))
  go_wp2_with fail
  go_ret
  obtain ⟨g, e, m, b⟩ := H7.out
  exact ⟨b, .inl ⟨_, rfl, Hp.out, w5.heap.size, rfl, m.wide Hp5.out.2.size (Nat.le_refl _)⟩⟩
/-- what Parity tells -/
def parL (k : Nat) (S : Mtx) : Mtx := if parB k S then linM (pairsM k) S (S.headD []).length else []
def parE (k : Nat) (S : Mtx) : Int := if parB k S then 0 else 1
theorem env_new (w : World) (bc k : Nat) (s : Value) (u v : TypeId) (hc : w.cell? ⟨bc, 0, none⟩ = some (.int .i64 (k : Int))) :
    EnvAt w.heap.size (w.heap.size + 1) bc k s (((w.alloc (.cells #[.pointer (some ⟨bc, 0, none⟩)] u)).alloc (.cells #[s] v)).alloc (.cells #[.int .i64 0] 30)) := by
  have hb := World.block_lt_of_cell? _ _ hc
  have hb' : bc < w.heap.size := hb
  refine ⟨?_, ?_, ?_⟩
  · exact (((Cells.new w #[.pointer (some ⟨bc, 0, none⟩)] u).alloc _).alloc _).cell rfl
  · rw [World.cell?_alloc_lt _ _ ⟨bc, 0, none⟩ (by simp; omega), World.cell?_alloc_lt _ _ ⟨bc, 0, none⟩ (by simp; omega), World.cell?_alloc_lt _ _ ⟨bc, 0, none⟩ hb]
    exact hc
  · have := ((Cells.new (w.alloc (.cells #[.pointer (some ⟨bc, 0, none⟩)] u)) #[s] v).alloc (.cells #[.int .i64 0] 30)).cell (i := 0) (u := s) rfl
    simpa using this
set_option maxHeartbeats 1600000 in
theorem parity_any (bc k N c : Nat) (A : Option Addr) (S : Mtx) (w : World) (hc : w.cell? ⟨bc, 0, none⟩ = some (.int .i64 (k : Int))) (h : RM w w.heap.size A S) (hN : N = S.length) (hN2 : N ≤ 255) (hk1 : 1 ≤ k) (hk2 : k ≤ 253) (hl : ∀ (k : Nat) (l : List UInt8), S[k]? = some l → l.length ≤ 1048576) :
    Calls Tryd.prog 51 #[.pointer (some ⟨bc, 0, none⟩), .slice A N c] w (TellsO w (parL k S) (parE k S)) := by
  have hmf : ∀ (fn : Fn) (first cap : Array Value) (w : World), (Instr.makeFunc fn first cap).run Tryd.prog w = .ok (.func fn first cap) w := fun _ _ _ _ => rfl
  have hbel : Below w.heap.size w (((w.alloc (.cells #[.pointer (some ⟨bc, 0, none⟩)] 92)).alloc (.cells #[.slice A N c] 34)).alloc (.cells #[.int .i64 0] 30)) := (((Below.refl _ _).alloc (Nat.le_refl _) _).alloc (by simp) _).alloc (by simp; omega) _
  have HC := Lib.hid (caughtParity (.pointer (some ⟨w.heap.size, 0, none⟩), .pointer (some ⟨w.heap.size + 1, 0, none⟩)) _ _ _ (parity_body w.heap.size (w.heap.size + 1) bc k N c A S _ (env_new w bc k (.slice A N c) 92 34 hc) ((h.below hbel).wide hbel.size) hN hN2 hk1 hk2 hl))
  have Hb2 : Hid (Below w.heap.size w ((w.alloc (.cells #[.pointer (some ⟨bc, 0, none⟩)] 92)).alloc (.cells #[.slice A N c] 34))) := ((Below.refl _ _).alloc (Nat.le_refl _) _).alloc (by simp) _
  clear hc h hN hN2 hk1 hk2 hl hbel
  go_enter Tryd.func51, Tryd.ntmps51
  go_wp2_with fail
  refine HC.out.mono ?_
  rintro e w' ⟨hb, ⟨v, rfl, hp, g, rfl, hm⟩ | ⟨x, ⟨hp, rfl⟩, rfl⟩⟩
  · have Hd : Hid (parB k S = true ∧ MatO w' w.heap.size w'.heap.size (.slice (some ⟨g, 0, none⟩) 2 2) (linM (pairsM k) S (S.headD []).length) ∧ Below w.heap.size w w') := ⟨hp, hm.wide (by simp; omega) (Nat.le_refl _), Hb2.out.trans (hb.mono Hb2.out.size)⟩
    clear hp hb hm HC
    go_wp2_with fail
    go_ret2
    unfold parL parE
    rw [Hd.out.1]
    exact ⟨_, 2, rfl, Hd.out.2.1, Hd.out.2.2⟩
  · have Hd : Hid (parB k S = false ∧ Below w.heap.size w w') := ⟨hp, Hb2.out.trans (hb.mono Hb2.out.size)⟩
    clear hp hb HC
    go_wp2_with fail
    go_ret2
    unfold parL parE
    rw [Hd.out.1]
    exact ⟨none, 0, rfl, MatO.nought _ _ _, Hd.out.2⟩
end Go.Proofs.YtlficcdbnmheeaaDoor
