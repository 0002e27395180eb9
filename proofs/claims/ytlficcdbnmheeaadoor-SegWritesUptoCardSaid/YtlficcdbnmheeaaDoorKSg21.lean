/-
  slices.Repeat at lists of bytes: one header, so many times.
-/
import Derived.Test.YtlficcdbnmheeaaDoorSg4
import Derived.Lib.Mul64
import Derived.Laws.Bits64b
import Derived.Laws.CopyRow
import Derived.Deep.RegionHeld3
import Derived.Deep.RegionLaw
import Derived.Deep.DeepMust
import Derived.Test.YtlficcdbnmheeaaDoorKSg2
import Derived.Test.YtlficcdbnmheeaaDoorKGet
namespace Go.Proofs.YtlficcdbnmheeaaDoor
open Go.RowKit Go.Sort Go.Lib

/-- j headers are there, the others are not yet -/
def repN (h : Value) (n j : Nat) : List Value := List.replicate j h ++ List.replicate (n - j) (.slice none 0 0)
theorem repN_len {h : Value} {n j : Nat} (hj : j ≤ n) : (repN h n j).length = n := by simp [repN]; omega
theorem repN_get {h : Value} {n j i : Nat} (hi : i < j) : (repN h n j)[i]? = some h := by
  rw [repN, List.getElem?_append_left (by simpa using hi), List.getElem?_replicate, if_pos hi]
theorem repN_more {h : Value} {n j m : Nat} (_hj : j + m ≤ n) : (repN h n j).take j ++ List.replicate m h ++ (repN h n j).drop (j + m) = repN h n (j + m) := by
  have e1 : (repN h n j).take j = List.replicate j h := by
    rw [repN, List.take_append_of_le_length (by simp), List.take_of_length_le (by simp)]
  have e2 : (repN h n j).drop (j + m) = List.replicate (n - (j + m)) (.slice none 0 0) := by
    rw [repN, List.drop_append, List.drop_of_length_le (by simp), List.nil_append, List.drop_replicate]
    simp
    omega
  rw [e1, e2, repN, ← List.replicate_append_replicate]
theorem copy_rows {W : World} {g n j m sl sc : Nat} {a : Addr} {A : Option Addr} {l cc : Nat} (hc : Cells W g 25 (repN (.slice A l cc) n j)) (hm : j + m ≤ n) (hmin : m = Nat.min sl (n - j)) (hs : ∀ i, i < m → W.cell? (a.add i) = some (.slice A l cc)) :
    ∃ W', (Builtin.copy_ #[34, 34] 3 #[.slice (some ⟨g, j, none⟩) (n - j) (n - j), .slice (some a) sl sc]).run Tryd.prog W = .ok (.int .i64 (m : Int)) W' ∧ Cells W' g 25 (repN (.slice A l cc) n (j + m)) ∧ Below g W W' := by
  have hrun := run_copy_row (P := Tryd.prog) W 34 34 3 25 g j (n - j) (n - j) a sl sc (repN (.slice A l cc) n j).toArray 25 (List.replicate m (.slice A l cc)) Tryd.underlying34 (by obtain ⟨i0, hi, _, hz1, _⟩ := info_parts info_row; rw [hi]; simp [hz1]) hc
    (by rw [List.length_replicate]; exact hmin) (fun i u hu => by
      rw [List.getElem?_replicate] at hu
      split at hu
      · cases hu; exact hs i (by assumption)
      · cases hu) (by rw [List.length_replicate, List.size_toArray, repN_len (by omega)]; exact hm) (fun v hv => by rw [(List.mem_replicate.1 hv).2]; rfl)
  rw [List.length_replicate, show (repN (.slice A l cc) n j).toArray.toList = repN (.slice A l cc) n j from rfl, repN_more hm] at hrun
  exact ⟨_, hrun, setRow_heap W g _ _ _ _ hc, (Below.refl _ _).grown (row := some g) ⟨rfl, rfl, rfl, by simp, fun k _ hk => setRow_other W g k _ (fun e => hk (by rw [e]))⟩ (Nat.le_of_lt hc.lt) (fun k hk => by cases hk; exact Nat.le_refl _)⟩
/-- copy at a step of a region that draws its order -/
theorem step_copy {w : World} {ops : Array Oper} {K : Act → World → Prop} {E : Prop} {o : Oper} {a : Act} {Q : Exit → Act → World → Prop} (hgd : o.guard = none) (s x : Operand) (t1 t2 : TypeId)
    (ho : o.op = .call { callee := .builtin .copy, args := #[s, x], argTypes := #[t1, t2] }) (vs vx : Value) (hs : a.eval s = vs) (hx : a.eval x = vx) (v' : Value) (w' : World)
    (hrun : (Builtin.copy_ #[t1, t2] o.type #[vs, vx]).run Tryd.prog w = .ok v' w') (h : K (a.put o.dst v') w') :
    if Region.wanted o (yielded ops a.tmps) = true then Oper.wp Tryd.prog o a w K Q else E := by
  have hw : Region.wanted o (yielded ops a.tmps) = true := by simp [Region.wanted, hgd]
  rw [if_pos hw]
  unfold Oper.wp execOp
  simp only [ho, resolve, invoke, builtin, Sem.run_bind, Sem.run_pure, Result.andThen_ok, List.map_toArray, List.map_cons, List.map_nil, hs, hx, hrun]
  exact h
section
set_option maxRecDepth 20000
set_option maxHeartbeats 1600000
theorem maskS (n : Nat) (h : n ≤ 4096) : bits .and .u64 (n : Int) 4294967295 = (n : Int) := by
  have e0 := bits_and_u64_nat n 4294967295 (by omega) (by omega)
  have e : n &&& 4294967295 = n % 4294967296 := Nat.and_two_pow_sub_one_eq_mod n 32
  rw [e, Nat.mod_eq_of_lt (by omega)] at e0
  exact e0
theorem mul64_one (n : Nat) (h : n ≤ 4096) (w : World) : Calls Tryd.prog 92 #[.int .u64 1, .int .u64 (n : Int)] w fun e w' => e = .returned (.tuple #[.int .u64 0, .int .u64 (n : Int)]) ∧ w' = w := by
  have m1 : bits .and .u64 (1 : Int) 4294967295 = 1 := maskS 1 (by omega)
  have m2 := maskS n h
  have m0 : bits .and .u64 (0 : Int) 4294967295 = 0 := maskS 0 (by omega)
  have d : (n : Int) / 4294967296 = 0 := by omega
  have wr : IntKind.u64.wrap (n : Int) = (n : Int) := by rw [IntKind.wrap_u64]; omega
  go_enter Tryd.func92, Tryd.ntmps92
  go_wp2_with fail
  go_ret2
  exact ⟨by simp [m1], rfl⟩
theorem mul_one (n : Nat) (h : n ≤ 4096) (w : World) : Calls Tryd.prog 67 #[.int .u64 1, .int .u64 (n : Int)] w fun e w' => e = .returned (.tuple #[.int .u64 0, .int .u64 (n : Int)]) ∧ w' = w := by
  have H := Lib.hid (mul64_one n h w)
  go_enter Tryd.func67, Tryd.ntmps67
  go_wp2_with fail
  refine H.out.mono ?_
  rintro e w1 ⟨rfl, rfl⟩
  go_wp2_with fail
  go_ret2
  exact ⟨rfl, rfl⟩
theorem repeat_any (n : Nat) (A : Option Addr) (l cc : Nat) (sb c1 : Nat) (w : World) (hn : 1 ≤ n) (hn2 : n ≤ 4096) (ha : w.cell? ⟨sb, 0, none⟩ = some (.slice A l cc)) (hal : sb < w.heap.size) :
    Calls Tryd.prog 46 #[.slice (some ⟨sb, 0, none⟩) 1 c1, .int .i64 (n : Int)] w fun e w' => ∃ g, e = .returned (.slice (some ⟨g, 0, none⟩) n n) ∧ w.heap.size ≤ g ∧ Cells w' g 25 (List.replicate n (.slice A l cc)) ∧ Below w.heap.size w w' := by
  obtain ⟨cs, Hcs, hmk⟩ := make_lists n hn2
  have Hmul := Lib.hid fun W => mul_one n hn2 W
  have hu64 : IntKind.u64.wrap (n : Int) = (n : Int) := by rw [IntKind.wrap_u64]; omega
  have hi64 : IntKind.i64.wrap (n : Int) = (n : Int) := by rw [IntKind.wrap_i64]; omega
  have hnI : (1 : Int) ≤ (n : Int) ∧ (n : Int) ≤ 4096 := by omega
  obtain ⟨n1, n2⟩ := hnI
  have hC0 : Cells (w.alloc (.cells cs 25)) w.heap.size 25 (repN (.slice A l cc) n 0) := by
    have := Cells.new w cs 25
    rw [Hcs.out] at this ⊢
    simpa [repN] using this
  have ha' : (w.alloc (.cells cs 25)).cell? ⟨sb, 0, none⟩ = some (.slice A l cc) := by rw [World.cell?_alloc_lt w _ _ hal]; exact ha
  obtain ⟨W1, hrun, hC1, hB1⟩ := copy_rows (m := 1) (a := ⟨sb, 0, none⟩) (sl := 1) (sc := c1) hC0 (by omega) (by simp [Nat.min_def]; omega) (fun i hi => by
    obtain rfl : i = 0 := by omega
    rw [add_flat]; exact ha')
  rw [Nat.sub_zero] at hrun
  have h1 : Hid (Cells W1 w.heap.size 25 (repN (.slice A l cc) n 1) ∧ Below w.heap.size w W1) := ⟨hC1, ((Below.refl _ _).alloc (Nat.le_refl _) _).trans hB1⟩
  clear hC0 hC1 hB1 hn hn2 Hcs
  go_enter Tryd.func46, Tryd.ntmps46
  go_wp2_with fail
  refine (Hmul.out _).mono ?_
  rintro e w1 ⟨rfl, rfl⟩
  go_wp2_with fail
  go_loopw [8] (fun iv wr => ∃ j : Nat, iv = .int .i64 (j : Int) ∧ 1 ≤ j ∧ j ≤ n ∧ Hid (Cells wr w1.heap.size 25 (repN (.slice A l cc) n j) ∧ Below w1.heap.size w1 wr)) (fun iv _ => n - (intOf iv).toNat)
  case atStart => exact ⟨1, rfl, Nat.le_refl _, by omega, h1.out⟩
  case round =>
    clear h1
    obtain ⟨j, rfl, hj1, hj, hst⟩ := hrel
    by_cases hlt : j < n
    · have hlt' : (j : Int) < (n : Int) := by omega
      obtain ⟨m, hm⟩ : ∃ m, m = Nat.min j (n - j) := ⟨_, rfl⟩
      have hm1 : 1 ≤ m := by rw [hm]; simp [Nat.min_def]; split <;> omega
      have hm2 : j + m ≤ n := by rw [hm]; simp [Nat.min_def]; split <;> omega
      obtain ⟨W2, hrun2, hC2, hB2⟩ := copy_rows (W := wr.drew) (a := ⟨w1.heap.size, 0, none⟩) (sl := j) (sc := n) hst.out.1.drew hm2 hm (fun i hi => by
        rw [add_flat, Nat.zero_add]
        exact hst.out.1.drew.cell (repN_get (by have : m ≤ j := by rw [hm]; exact Nat.min_le_left _ _
                                                omega)))
      have H2 : Hid (Cells W2 w1.heap.size 25 (repN (.slice A l cc) n (j + m)) ∧ Below w1.heap.size w1 W2) := ⟨hC2, hst.out.2.trans (Below.trans ((Below.refl _ _).drew) hB2)⟩
      have Hw : Hid (IntKind.i64.wrap ((j : Int) + (m : Int)) = ((j + m : Nat) : Int)) := by show _ = _; rw [IntKind.wrap_i64]; omega
      have hj0 : (j : Int) ≤ (n : Int) := by omega
      have hlt2 : ¬ (n : Int) < (j : Int) := by omega
      have hne : ¬ n = j := by omega
      clear hst hC2 hB2 hm
      go_wp2_with fail
      have Hrun := Lib.hid hrun2
      clear hrun2
      go_region_held3 (fun _ => True) (exact trivial) (first
        | (skip; refine step_copy rfl (.tmp 41) (.tmp 44) 34 34 rfl _ _ rfl rfl _ _ Hrun.out ?_)
        | fail)
      go_wp2_with fail
      go_roundw
      case rel => exact ⟨j + m, by first | rw [Hw.out] | (simp; done) | go_num, by omega, hm2, H2.out⟩
      case measure => simp only [intOf, Hw.out, Int.toNat_natCast]; omega
    · obtain rfl : j = n := by omega
      have Hf : Hid (Cells wr w1.heap.size 25 (List.replicate j (.slice A l cc)) ∧ Below w1.heap.size w1 wr) := by
        have := hst.out.1
        rw [repN, Nat.sub_self, List.replicate_zero, List.append_nil] at this
        exact ⟨this, hst.out.2⟩
      clear hst hlt
      go_wp2_with fail
      go_ret
      exact ⟨_, rfl, Nat.le_refl _, Hf.out⟩
end
end Go.Proofs.YtlficcdbnmheeaaDoor

/-
  Heads: the program's, its good answer.
-/
namespace Go.Proofs.YtlficcdbnmheeaaDoor
open Go.RowKit Go.Sort Go.Lib

theorem headL_len {k p g : Nat} (hk : k ≤ 127) (hp : p ≤ 4096) (hg : g ≤ 65536) : (headL k p g).length ≤ 6 := by
  have h1 := numBytes_len 0 k (by simp; omega)
  have h2 := numBytes_len 1 p (by simp; omega)
  have h3 := numBytes_len 2 g (by simp; omega)
  simp only [headL, List.length_append]
  omega
theorem headL_pos (k p g : Nat) : 1 ≤ (headL k p g).length := by
  have h1 := numBytes_pos k
  simp only [headL, List.length_append]
  omega
/-- the payload's first numbers, and the number behind them -/
def headP (k p g : Nat) : Nat → List UInt8
  | 0 => []
  | 1 => numBytes k
  | 2 => numBytes k ++ numBytes p
  | _ => headL k p g
def headN (k p g : Nat) : Nat → Nat
  | 0 => k
  | 1 => p
  | _ => g
theorem headP_succ {k p g i : Nat} (hi : i < 3) : headP k p g (i + 1) = headP k p g i ++ numBytes (headN k p g i) := by
  match i, hi with
  | 0, _ => rfl
  | 1, _ => rfl
  | 2, _ => rfl
theorem headP_len {k p g i : Nat} (hk : k ≤ 127) (hp : p ≤ 4096) (hg : g ≤ 65536) (hi : i ≤ 3) : (headP k p g i).length ≤ 6 := by
  have h := headL_len hk hp hg
  simp only [headL, List.length_append] at h
  match i, hi with
  | 0, _ => simp [headP]
  | 1, _ => simp [headP]; omega
  | 2, _ => simp [headP]; omega
  | 3, _ => simp [headP, headL]; omega
theorem headN_le {k p g i : Nat} (hk : k ≤ 127) (hp : p ≤ 4096) (hg : g ≤ 65536) : headN k p g i ≤ 65536 := by
  unfold headN
  split <;> omega
/-- the same payload for all -/
def headM (k p g : Nat) : Mtx := List.replicate (k + 2) (headL k p g)
theorem headM_rm {w : World} {g0 n : Nat} {A : Option Addr} {c k p g : Nat} (hn : n = k + 2) (hc : Cells w g0 25 (List.replicate n (.slice A (headL k p g).length c))) (hr : RB w w.heap.size A (headL k p g)) (hl : (headL k p g).length ≤ c) : RM w w.heap.size (some ⟨g0, 0, none⟩) (headM k p g) := fun i l hi => by
  subst hn
  have hi' : i < k + 2 := by have := (List.getElem?_eq_some_iff.1 hi).1; simpa [headM] using this
  rw [headM, List.getElem?_replicate, if_pos hi'] at hi
  cases hi
  exact ⟨g0, 0, A, c, rfl, hc.lt, by rw [Nat.zero_add]; exact hc.cell (by rw [List.getElem?_replicate, if_pos hi']), hr, hl⟩
section
set_option maxRecDepth 20000
set_option maxHeartbeats 4000000
theorem heads_ok (k p g : Nat) (id : Nat) (hok : okS k p g = true) (w : World) (hT : Tab w) (hid : id < two64) :
    Calls Tryd.prog 18 #[shV k p g, .int .u64 (id : Int)] w fun e w' => ∃ h, e = .returned (.tuple #[.slice (some ⟨h, 0, none⟩) (k + 2) (k + 2), .int .i64 0]) ∧ RML w' w.heap.size w'.heap.size (some ⟨h, 0, none⟩) (pageM g 0 id (headM k p g)) ∧ Below w.heap.size w w' := by
  obtain ⟨h1, h2, h3, h4, h5, h6, h7, h8⟩ := okS_facts hok
  have hk : k ≤ 32 := by omega
  have hp : p ≤ 4096 := by omega
  have hg : g ≤ 65536 := by omega
  obtain ⟨W, hW⟩ : ∃ W, W = w.alloc (.cells #[.int .i64 (k : Int), .int .i64 (p : Int), .int .i64 (g : Int)] 23) := ⟨_, rfl⟩
  have hC : Cells W w.heap.size 23 [.int .i64 (k : Int), .int .i64 (p : Int), .int .i64 (g : Int)] := by rw [hW]; exact Cells.new w _ _
  have hB : Below w.heap.size w W := by rw [hW]; exact (Below.refl _ _).alloc (Nat.le_refl _) _
  have HF : Hid (∀ W2, Below W.heap.size W W2 → Below w.heap.size w W2 ∧ Cells W2 w.heap.size 23 [.int .i64 (k : Int), .int .i64 (p : Int), .int .i64 (g : Int)] ∧ W2.cell? ⟨w.heap.size, 0, none⟩ = some (.int .i64 (k : Int)) ∧ W2.cell? ⟨w.heap.size, 1, none⟩ = some (.int .i64 (p : Int)) ∧ W2.cell? ⟨w.heap.size, 2, none⟩ = some (.int .i64 (g : Int))) := fun W2 hb => by
    have hc := hC.move (hb.block _ hC.lt)
    exact ⟨hB.trans (hb.mono hB.size), hc, hc.cell rfl, hc.cell rfl, hc.cell rfl⟩
  have HT : Hid (∀ W2, Below w.heap.size w W2 → Tab W2) := fun W2 hb => hT.below hb hT.pos
  have HWs : Hid (w.heap.size ≤ W.heap.size) := hB.size
  have Hck := Lib.hid (check_any (k : Int) (p : Int) (g : Int) W)
  rw [chkS_ok hok] at Hck
  have Hpe : Hid (∀ (i : Nat) (l : List UInt8), (headM k p g)[i]? = some l → pageErr (g : Int) 0 (i : Int) l.length = 0) := fun i l hl => by
    have hi' : i < k + 2 := by have := (List.getElem?_eq_some_iff.1 hl).1; simpa [headM] using this
    rw [headM, List.getElem?_replicate, if_pos hi'] at hl
    cases hl
    have := headL_len (k := k) (p := p) (g := g) (by omega) hp hg
    unfold pageErr
    rw [if_neg (by omega), if_neg (by omega)]
  have Hnum : Hid (∀ (W2 : World) (i : Nat) (A : Option Addr) (c : Nat), i < 3 → RB W2 W2.heap.size A (headP k p g i) → Calls Tryd.prog 44 #[.slice A (headP k p g i).length c, .int .u64 (headN k p g i : Int)] W2 fun e w' => ∃ b', e = .returned b' ∧ Own w' W2.heap.size b' (headP k p g (i + 1)) ∧ Below W2.heap.size W2 w') := fun W2 i A c hi hr => by
    rw [headP_succ hi]
    exact number_any A c _ _ W2 _ hr (Nat.le_refl _) (by have := headP_len (k := k) (p := p) (g := g) (i := i) (by omega) hp hg (by omega); omega) (by have := headN_le (k := k) (p := p) (g := g) (i := i) (by omega) hp hg; rw [two64_eq]; omega)
  have Hlen : Hid (∀ i, i < 3 → (headN k p g i) ≤ 65536) := fun i _ => headN_le (by omega) hp hg
  have Hrep := Lib.hid fun (A : Option Addr) (l cc sb c1 : Nat) (W2 : World) (ha : W2.cell? ⟨sb, 0, none⟩ = some (.slice A l cc)) (hb : sb < W2.heap.size) => repeat_any (k + 2) A l cc sb c1 W2 (by omega) (by omega) ha hb
  have Hpg : Hid (∀ (W2 : World) (A : Option Addr), Below W.heap.size W W2 → RM W2 W2.heap.size A (headM k p g) → Calls Tryd.prog 45 #[shV k p g, .int .u64 (id : Int), .int .i64 0, .slice A (k + 2) (k + 2)] W2
      fun e w' => ∃ h, e = .returned (.tuple #[.slice (some ⟨h, 0, none⟩) (k + 2) (k + 2), .int .i64 0]) ∧ RML w' w.heap.size w'.heap.size (some ⟨h, 0, none⟩) (pageM g 0 id (headM k p g)) ∧ Below w.heap.size w w' ∧ Cells w' w.heap.size 23 [.int .i64 (k : Int), .int .i64 (p : Int), .int .i64 (g : Int)]) := fun W2 A hb hr => by
    refine (pagesS_any (K := k) (P := p) (G := g) (row := 0) (id := id) A (k + 2) (k + 2) (headM k p g) (HT.out _ (HF.out _ hb).1) hr hid (by simp [headM]) (by omega) Hpe.out).mono ?_
    rintro e w' ⟨h, rfl, q1, q2⟩
    have hs : w.heap.size ≤ W2.heap.size := Nat.le_trans HWs.out hb.size
    exact ⟨h, rfl, q1.low hs, (HF.out _ hb).1.trans (q2.mono hs), (HF.out _ hb).2.1.move (q2.block _ (HF.out _ hb).2.1.lt)⟩
  have k0 : (0 : Int) ≤ (k : Int) ∧ (k : Int) ≤ 32 := by omega
  obtain ⟨k1, k2⟩ := k0
  have c0 := hC.cell (i := 0) rfl
  have c1 := hC.cell (i := 1) rfl
  have c2 := hC.cell (i := 2) rfl
  have Hneg : Hid (∀ i, i < 3 → IntKind.u64.wrap (headN k p g i : Int) = (headN k p g i : Int)) := fun i hi => by
    have := Hlen.out i hi
    rw [IntKind.wrap_u64]; omega
  unfold shV at *
  clear hok h1 h2 h3 h4 h5 h6 h7 h8 hk hp hg hC hB hT hid
  go_enter Tryd.func18, Tryd.ntmps18
  go_wp2_with fail
  rw [← hW]
  clear hW
  refine Hck.out.mono ?_
  rintro e w1 ⟨rfl, hw1⟩
  have H1 : Hid (Below W.heap.size W w1) := by show Below _ _ _; rw [hw1]; exact (Below.refl _ _).alloc (Nat.le_refl _) _
  obtain ⟨_, _, d0, d1, d2⟩ := HF.out w1 H1.out
  clear hw1 Hck c0 c1 c2
  go_wp2_with fail
  have h0 : Hid (Own (w1.alloc (.cells #[.int .i64 (k : Int), .int .i64 (p : Int), .int .i64 (g : Int)] 3)) W.heap.size (.slice none 0 0) (headP k p g 0) ∧ Below W.heap.size W (w1.alloc (.cells #[.int .i64 (k : Int), .int .i64 (p : Int), .int .i64 (g : Int)] 3)) ∧ Cells (w1.alloc (.cells #[.int .i64 (k : Int), .int .i64 (p : Int), .int .i64 (g : Int)] 3)) w1.heap.size 3 [.int .i64 (k : Int), .int .i64 (p : Int), .int .i64 (g : Int)]) := ⟨Own.nil _ _, H1.out.alloc H1.out.size _, Cells.new w1 _ _⟩
  go_loopw [23, 7] (fun iv v wr => ∃ i : Nat, iv = .int .i64 (i : Int) ∧ i ≤ 3 ∧ ∃ A c, v = .slice A (headP k p g i).length c ∧ Hid ((headP k p g i).length ≤ c ∧ Own wr W.heap.size v (headP k p g i) ∧ Below W.heap.size W wr ∧ Cells wr w1.heap.size 3 [.int .i64 (k : Int), .int .i64 (p : Int), .int .i64 (g : Int)])) (fun iv _ _ => 3 - (intOf iv).toNat)
  case atStart => exact ⟨0, rfl, by omega, none, 0, rfl, Nat.le_refl _, h0.out⟩
  case round =>
    clear h0
    obtain ⟨i, rfl, hi, A, c, rfl, hst⟩ := hrel
    by_cases hlt : i < 3
    · have hlt' : (i : Int) < 3 := by omega
      obtain ⟨hAc, hown, hbel, hcel⟩ := hst.out
      obtain ⟨A', c', hv', _, hrb, _⟩ := hown.rb
      cases hv'
      have Hn := Lib.hid (Hnum.out wr i A c hlt hrb)
      have hcell : wr.cell? ⟨w1.heap.size, i, none⟩ = some (.int .i64 (headN k p g i : Int)) := hcel.cell (by
        match i, hlt with
        | 0, _ => rfl
        | 1, _ => rfl
        | 2, _ => rfl)
      have hwr := Hneg.out i hlt
      have hbd := Hlen.out i hlt
      have Hnx : Hid (∀ w2 v', Own w2 wr.heap.size v' (headP k p g (i + 1)) → Below wr.heap.size wr w2 → ∃ A c, v' = .slice A (headP k p g (i + 1)).length c ∧ Hid ((headP k p g (i + 1)).length ≤ c ∧ Own w2 W.heap.size v' (headP k p g (i + 1)) ∧ Below W.heap.size W w2 ∧ Cells w2 w1.heap.size 3 [.int .i64 (k : Int), .int .i64 (p : Int), .int .i64 (g : Int)])) := fun w2 v' ho hb => by
        obtain ⟨A2, c2, rfl, hc2, _⟩ := ho.rb
        exact ⟨A2, c2, rfl, hc2, ho.wide hbel.size, hbel.trans (hb.mono hbel.size), hcel.move (hb.block _ hcel.lt)⟩
      generalize headN k p g i = nn at *
      clear hst hAc hown hbel hcel hrb hlt Hnum
      go_wp2_with fail
      refine Hn.out.mono ?_
      rintro e w2 ⟨b', rfl, ho2, hb2⟩
      obtain ⟨A2, c2, rfl, H2⟩ := Hnx.out w2 b' ho2 hb2
      clear ho2 hb2 Hn Hnx hcell
      go_wp2_with fail
      go_roundw
      case rel => exact ⟨i + 1, by go_num, by omega, A2, c2, rfl, H2⟩
      case measure => simp [intOf]; omega
    · obtain rfl : i = 3 := by omega
      obtain ⟨hAc, hown, hbel, hcel⟩ := hst.out
      obtain ⟨A', c', hv', _, hrb, _⟩ := hown.rb
      cases hv'
      obtain ⟨_, hcs, e0, e1, e2⟩ := HF.out wr hbel
      have Hst : Hid ((headL k p g).length ≤ c ∧ RB wr wr.heap.size A (headL k p g) ∧ Below W.heap.size W wr) := ⟨hAc, hrb, hbel⟩
      have hlen : (headP k p g 3).length = (headL k p g).length := rfl
      rw [hlen] at *
      obtain ⟨hl, hhl⟩ : ∃ hl, hl = (headL k p g).length := ⟨_, rfl⟩
      have Hhl := Lib.hid hhl
      rw [← hhl]
      have Hc : Hid (∀ W2, Below W.heap.size W W2 → W2.cell? ⟨w.heap.size, 0, none⟩ = some (.int .i64 (k : Int)) ∧ W2.cell? ⟨w.heap.size, 1, none⟩ = some (.int .i64 (p : Int)) ∧ W2.cell? ⟨w.heap.size, 2, none⟩ = some (.int .i64 (g : Int))) := fun W2 hb => (HF.out W2 hb).2.2
      have Hb3 : Hid (Below W.heap.size W (wr.drew.alloc (.cells #[.slice A hl c] 25))) := Hst.out.2.2.drew.alloc Hst.out.2.2.size _
      have k0 := Hc.out wr.drew Hst.out.2.2.drew
      have k9 := Hc.out _ Hb3.out
      have Hr2 : Hid (Calls Tryd.prog 46 #[.slice (some ⟨wr.heap.size, 0, none⟩) 1 1, .int .i64 ((k + 2 : Nat) : Int)] (wr.drew.alloc (.cells #[.slice A hl c] 25)) fun e w' => ∃ g2, e = .returned (.slice (some ⟨g2, 0, none⟩) (k + 2) (k + 2)) ∧ RM w' w'.heap.size (some ⟨g2, 0, none⟩) (headM k p g) ∧ Below W.heap.size W w') := by
        refine (Hrep.out A hl c wr.heap.size 1 _ (cell_new wr.drew _ _) (by simp)).mono ?_
        rintro e w' ⟨g2, rfl, q1, q2, q3⟩
        have hb := Hb3.out.trans (q3.mono Hb3.out.size)
        refine ⟨g2, rfl, headM_rm rfl (by rw [← Hhl.out]; exact q2) ?_ Hst.out.1, hb⟩
        have hz : wr.heap.size ≤ (wr.drew.alloc (.cells #[.slice A hl c] 25)).heap.size := by simp
        exact ((Hst.out.2.1.drew.alloc (Nat.le_refl _) _).below (q3.mono hz)).wide (Nat.le_trans hz q3.size)
      have hkk : ((k + 2 : Nat) : Int) = IntKind.i64.wrap ((k : Int) + 2) := by rw [IntKind.wrap_i64]; omega
      rw [hkk] at Hr2
      clear hst hAc hown hbel hcel hrb hlt hcs e0 e1 e2 hlen hhl hkk
      have Hj : Hid (∀ W2, Cells W2 w.heap.size 23 [.int .i64 (k : Int), .int .i64 (p : Int), .int .i64 (g : Int)] → W2.cell? ⟨w.heap.size, 0, none⟩ = some (.int .i64 (k : Int)) ∧ W2.cell? ⟨w.heap.size, 1, none⟩ = some (.int .i64 (p : Int)) ∧ W2.cell? ⟨w.heap.size, 2, none⟩ = some (.int .i64 (g : Int))) := fun W2 h => ⟨h.cell rfl, h.cell rfl, h.cell rfl⟩
      go_upto_region 10 with fail
      go_region_held3 (fun X => X.cell? ⟨w.heap.size, 0, none⟩ = some (.int .i64 (k : Int)) ∧ X.cell? ⟨w.heap.size, 1, none⟩ = some (.int .i64 (p : Int)) ∧ X.cell? ⟨w.heap.size, 2, none⟩ = some (.int .i64 (g : Int))) (first | exact k0 | exact k9 | exact j1 | exact j2) (first
        | (go_at_call 46; refine Hr2.out.mono ?_; rintro e w3 ⟨g2, rfl, q1, q2⟩; have j1 := Hc.out w3 q2; have Hp := Lib.hid (Hpg.out w3 _ q2 q1); clear q1 q2)
        | (go_at_call 45; refine Hp.out.mono ?_; rintro e w4 ⟨h9, rfl, q1, q2, q3⟩; have j2 := Hj.out w4 q3; have H4 := Lib.hid (And.intro q1 q2); clear q1 q2 q3))
      all_goals
        go_wp2_with fail
        go_ret2
        exact ⟨_, rfl, H4.out⟩
end
end Go.Proofs.YtlficcdbnmheeaaDoor
