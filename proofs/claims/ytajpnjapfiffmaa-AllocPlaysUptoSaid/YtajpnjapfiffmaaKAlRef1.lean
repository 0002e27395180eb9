/-
  The second saying's table in memory; what only reads it.
-/
import Derived.Test.YtajpnjapfiffmaaKAlRead
import Derived.Test.YtajpnjapfiffmaaKAlSeek
namespace Go.Proofs.Ytajpnjapfiffmaa
open Go.RowKit Go.Maps

/-- a row of numbers -/
def RowN (w : World) (b n : Nat) (f : Nat → Nat) : Prop := ∃ cs, Cells w b 3 cs ∧ cs.length = n ∧ ∀ z, z < n → cs[z]? = some (.int .i64 (f z : Nat))
section
variable {w w' : World} {b n : Nat} {f : Nat → Nat}
theorem RowN.move (h : RowN w b n f) (e : w'.heap[b]? = w.heap[b]?) : RowN w' b n f := by obtain ⟨cs, h1, h2⟩ := h; exact ⟨cs, h1.move e, h2⟩
theorem RowN.lt (h : RowN w b n f) : b < w.heap.size := by obtain ⟨cs, h1, _⟩ := h; exact h1.lt
theorem RowN.cell (h : RowN w b n f) {z : Nat} (hz : z < n) : w.cell? ⟨b, z, none⟩ = some (.int .i64 (f z : Nat)) := by obtain ⟨cs, h1, h2, h3⟩ := h; exact h1.cell (h3 z hz)
theorem RowN.frozen (h : RowN w b n f) (z : Nat) : w.frozen? ⟨b, z, none⟩ = false := by obtain ⟨cs, h1, h2, h3⟩ := h; exact h1.frozen z
theorem RowN.set (h : RowN w b n f) (i x : Nat) : RowN (w.setCell ⟨b, i, none⟩ (.int .i64 (x : Int))) b n (fun z => if z = i then x else f z) := by
  obtain ⟨cs, h1, h2, h3⟩ := h
  refine ⟨_, h1.set i _, by simpa using h2, fun z hz => ?_⟩
  show _ = some (Value.int .i64 ((if z = i then x else f z : Nat) : Int))
  by_cases e : z = i
  · subst e
    rw [if_pos rfl, List.getElem?_set_self (by omega)]
  · rw [if_neg e, List.getElem?_set_ne (fun q => e q.symm)]
    exact h3 z hz
theorem RowN.congr {f' : Nat → Nat} (h : RowN w b n f) (hf : ∀ z, z < n → f' z = f z) : RowN w b n f' := by
  obtain ⟨cs, h1, h2, h3⟩ := h
  exact ⟨cs, h1, h2, fun z hz => by rw [hf z hz]; exact h3 z hz⟩
end
/-- THE SECOND SAYING'S TABLE at rb -/
structure RefT (w : World) (rb lb cap D Z : Nat) (R : Nat → Nat) (g : St) : Prop where
  d1 : 1 ≤ D
  d2 : D ≤ 32
  z2 : Z ≤ 4096
  hcap : D ≤ cap
  tc : Cells w rb 68 [.slice (some ⟨lb, 0, none⟩) D cap]
  lc : ∃ cs, Cells w lb 34 cs ∧ ∀ d, d < D → cs[d]? = some (.slice (some ⟨R d, 0, none⟩) Z Z)
  rows : ∀ d, d < D → RowN w (R d) Z (g d)
  inj : ∀ d d', d < D → d' < D → R d = R d' → d = d'
  le : ∀ d z, g d z ≤ 3
section
variable {w w' : World} {rb lb cap D Z : Nat} {R : Nat → Nat} {g : St}
theorem RefT.move (h : RefT w rb lb cap D Z R g) (e1 : w'.heap[rb]? = w.heap[rb]?) (e2 : w'.heap[lb]? = w.heap[lb]?) (e3 : ∀ d, d < D → w'.heap[R d]? = w.heap[R d]?) : RefT w' rb lb cap D Z R g :=
  ⟨h.d1, h.d2, h.z2, h.hcap, h.tc.move e1, by obtain ⟨cs, q1, q2⟩ := h.lc; exact ⟨cs, q1.move e2, q2⟩, fun d hd => (h.rows d hd).move (e3 d hd), h.inj, h.le⟩
theorem RefT.lb_lt (h : RefT w rb lb cap D Z R g) : lb < w.heap.size := by obtain ⟨cs, q1, q2⟩ := h.lc; exact q1.lt
theorem RefT.below (h : RefT w rb lb cap D Z R g) (hb : Below w.heap.size w w') : RefT w' rb lb cap D Z R g :=
  h.move (hb.block _ h.tc.lt) (hb.block _ h.lb_lt) (fun d hd => hb.block _ (h.rows d hd).lt)
/-- whose is a block? -/
def OfR (rb lb D : Nat) (R : Nat → Nat) (b : Nat) : Prop := b = rb ∨ b = lb ∨ ∃ d, d < D ∧ b = R d
theorem RefT.kept {K : Nat → Prop} (h : RefT w rb lb cap D Z R g) (hk : Kept K w w') (hK : ∀ b, OfR rb lb D R b → K b) : RefT w' rb lb cap D Z R g :=
  h.move (hk.block _ h.tc.lt (hK _ (.inl rfl))) (hk.block _ h.lb_lt (hK _ (.inr (.inl rfl)))) (fun d hd => hk.block _ (h.rows d hd).lt (hK _ (.inr (.inr ⟨d, hd, rfl⟩))))
theorem RefT.drewN (h : RefT w rb lb cap D Z R g) (n : Nat) : RefT (w.drewN n) rb lb cap D Z R g := h.move rfl rfl fun _ _ => rfl
theorem RefT.alloc (h : RefT w rb lb cap D Z R g) (o : Obj) : RefT (w.alloc o) rb lb cap D Z R g := h.below ((Below.refl _ _).alloc (Nat.le_refl _) _)
theorem RefT.c0 (h : RefT w rb lb cap D Z R g) : w.cell? ⟨rb, 0, none⟩ = some (.slice (some ⟨lb, 0, none⟩) D cap) := h.tc.cell rfl
theorem RefT.c1 (h : RefT w rb lb cap D Z R g) {d : Nat} (hd : d < D) : w.cell? ⟨lb, d, none⟩ = some (.slice (some ⟨R d, 0, none⟩) Z Z) := by obtain ⟨cs, q1, q2⟩ := h.lc; exact q1.cell (q2 d hd)
theorem RefT.c2 (h : RefT w rb lb cap D Z R g) {d z : Nat} (hd : d < D) (hz : z < Z) : w.cell? ⟨R d, z, none⟩ = some (.int .i64 (g d z : Nat)) := (h.rows d hd).cell hz
theorem RefT.f2 (h : RefT w rb lb cap D Z R g) {d : Nat} (hd : d < D) (z : Nat) : w.frozen? ⟨R d, z, none⟩ = false := (h.rows d hd).frozen z
theorem RefT.ne (h : RefT w rb lb cap D Z R g) {d : Nat} (hd : d < D) : R d ≠ rb ∧ R d ≠ lb := by
  obtain ⟨cs, q1, _⟩ := h.rows d hd
  obtain ⟨cs2, q2, _⟩ := h.lc
  constructor
  · intro e
    rw [e] at q1
    have := (q1.type h.tc).1
    revert this; decide
  · intro e
    rw [e] at q1
    have := (q1.type q2).1
    revert this; decide
theorem RefT.set (h : RefT w rb lb cap D Z R g) {d z k : Nat} (hd : d < D) (hk : k ≤ 3) : RefT (w.setCell ⟨R d, z, none⟩ (.int .i64 (k : Int))) rb lb cap D Z R (upd g d z k) := by
  refine ⟨h.d1, h.d2, h.z2, h.hcap, h.tc.move (set_other _ _ (h.ne hd).1.symm), ?_, fun d' hd' => ?_, h.inj, fun d' z' => ?_⟩
  · obtain ⟨cs, q1, q2⟩ := h.lc
    exact ⟨cs, q1.move (set_other _ _ (h.ne hd).2.symm), q2⟩
  · by_cases e : d' = d
    · subst e
      refine ((h.rows d' hd').set z k).congr fun z' _ => ?_
      simp [upd]
    · rw [upd_row g k e]
      exact (h.rows d' hd').move (set_other _ _ fun q => e (h.inj d' d hd' hd q))
  · unfold upd
    split
    · exact hk
    · exact h.le d' z'
theorem RefT.congr {g' : St} (h : RefT w rb lb cap D Z R g) (e : g' = g) : RefT w rb lb cap D Z R g' := e ▸ h
end

section
set_option maxRecDepth 20000
set_option maxHeartbeats 1600000
variable {w : World} {rb lb cap D Z : Nat} {R : Nat → Nat} {g : St}
theorem rfreeOn_any (x : Int) (h : RefT w rb lb cap D Z R g) : Calls Try.prog 23 #[.pointer (some ⟨rb, 0, none⟩), .int .i64 x] w fun e w' => e = .returned (.int .i64 (freeOn g D Z x : Nat)) ∧ w' = w := by
  have c0 := h.c0
  by_cases hx : 0 ≤ x ∧ x < D
  · obtain ⟨d, rfl⟩ : ∃ d : Nat, x = (d : Int) := ⟨x.toNat, by omega⟩
    have hd : d < D := by omega
    have hd' : (d : Int) < (D : Int) := by omega
    have hdn : ¬ D ≤ d := by omega
    rw [freeOn_nat g hd]
    have c1 := h.c1 hd
    have hZ : (Z : Int) ≤ 4096 := by have := h.z2; omega
    have H := Lib.hid h
    clear h hx
    go_enter Try.func23, Try.ntmps23
    go_wp2_with fail
    go_loopw [5, 6] (fun nv iv wr => wr = w ∧ ∃ (n i : Nat), nv = .int .i64 (n : Int) ∧ iv = .int .i64 (i : Int) ∧ i ≤ Z ∧ n ≤ i ∧ Hid (n = cnt (g d) 0 i)) (fun _ iv _ => Z - (intOf iv).toNat)
    case atStart => exact ⟨rfl, 0, 0, rfl, rfl, Nat.zero_le _, Nat.le_refl _, rfl⟩
    case round =>
      obtain ⟨rfl, n, i, rfl, rfl, hi, hn, hs⟩ := hrel
      by_cases hlt : i < Z
      · have c2 := H.out.c2 hd hlt
        have hlt' : (i : Int) < (Z : Int) := by omega
        have Hst := Lib.hid (cnt_succ (g d) 0 i)
        generalize g d i = y at *
        clear hlt
        by_cases hy : y = 0
        · have Hn : Hid (n + 1 = cnt (g d) 0 (i + 1)) := by
            show _ = _
            rw [Hst.out, if_pos hy, ← hs.out]
          have hy' : (y : Int) = 0 := by omega
          clear Hst hs
          go_wp2_with fail
          go_roundw
          case rel => exact ⟨by trivial, n + 1, i + 1, by go_num, by go_num, by omega, by omega, Hn.out⟩
          case measure => simp [intOf]; omega
        · have Hn : Hid (n = cnt (g d) 0 (i + 1)) := by
            show _ = _
            rw [Hst.out, if_neg hy, ← hs.out]; rfl
          have hy' : ¬ (y : Int) = 0 := by omega
          clear Hst hs
          go_wp2_with fail
          go_roundw
          case rel => exact ⟨by trivial, n, i + 1, by go_num, by go_num, by omega, by omega, Hn.out⟩
          case measure => simp [intOf]; omega
      · obtain rfl : i = Z := by omega
        have Hs := hs
        clear hlt hs
        go_wp2_with fail
        go_ret
        obtain rfl := Hs.out
        exact ⟨rfl, rfl⟩
  · rw [show freeOn g D Z x = 0 from if_neg hx]
    have hD : (D : Int) ≤ 32 := by have := h.d2; omega
    clear h
    by_cases h0 : x < 0
    · clear hx
      go_enter Try.func23, Try.ntmps23
      go_wp2_with fail
      go_ret
      exact ⟨rfl, rfl⟩
    · have h1 : (D : Int) ≤ x := by omega
      have h0' : 0 ≤ x := by omega
      clear hx h0
      go_enter Try.func23, Try.ntmps23
      go_wp2_with fail
      go_ret
      exact ⟨rfl, rfl⟩
theorem rcount_any (x : Int) (h : RefT w rb lb cap D Z R g) : Calls Try.prog 21 #[.pointer (some ⟨rb, 0, none⟩), .int .i64 x] w fun e w' => e = .returned (.int .i64 (countOf g D Z x : Nat)) ∧ w' = w := by
  have c0 := h.c0
  have hZ : (Z : Int) ≤ 4096 := by have := h.z2; omega
  have hD : (D : Int) ≤ 32 := by have := h.d2; omega
  have hZ' := h.z2
  have hD' := h.d2
  have H := Lib.hid h
  have Hc := Lib.hid (countOf_eq h.le D Z x)
  have Hsl : Hid (∀ i, sumN (fun d => cntI (g d) x Z) i ≤ i * 4096) := fun i => by
    have := sumN_le (h := fun d => cntI (g d) x Z) (k := fun _ => 4096) i fun d _ => Nat.le_trans (cntI_le (g d) x Z) hZ'
    rwa [sumN_const] at this
  clear h
  go_enter Try.func21, Try.ntmps21
  go_wp2_with fail
  go_loopw [5, 6] (fun nv iv wr => wr = w ∧ ∃ (n i : Nat), nv = .int .i64 (n : Int) ∧ iv = .int .i64 (i : Int) ∧ i ≤ D ∧ n ≤ i * 4096 ∧ Hid (n = sumN (fun d => cntI (g d) x Z) i)) (fun _ iv _ => D - (intOf iv).toNat)
  case atStart => exact ⟨rfl, 0, 0, rfl, rfl, Nat.zero_le _, Nat.le_refl _, rfl⟩
  case round =>
    obtain ⟨rfl, n, i, rfl, rfl, hi, hn, hs⟩ := hrel
    by_cases hlt : i < D
    · have c1 := H.out.c1 hlt
      have hlt' : (i : Int) < (D : Int) := by omega
      have Hlt := Lib.hid hlt
      clear hlt
      go_wp2_with fail
      go_loopw [5, 7] (fun nv kv wq => wq = wr ∧ ∃ (m k : Nat), nv = .int .i64 (m : Int) ∧ kv = .int .i64 (k : Int) ∧ k ≤ Z ∧ m ≤ n + k ∧ Hid (m = n + cntI (g i) x k)) (fun _ kv _ => Z - (intOf kv).toNat)
      case atStart => exact ⟨rfl, n, 0, rfl, rfl, Nat.zero_le _, Nat.le_refl _, rfl⟩
      case round =>
        obtain ⟨rfl, m, k, rfl, rfl, hk, hm, hms⟩ := hrel
        by_cases hkz : k < Z
        · have c2 := H.out.c2 Hlt.out hkz
          have hkz' : (k : Int) < (Z : Int) := by omega
          have Hst := Lib.hid (cntI_succ (g i) x k)
          generalize g i k = y at *
          clear hkz
          by_cases hy : (y : Int) = x
          · have Hn : Hid (m + 1 = n + cntI (g i) x (k + 1)) := by
              show _ = _
              rw [Hst.out, if_pos hy, hms.out]; omega
            clear Hst hms
            go_wp2_with fail
            go_roundw
            case rel => exact ⟨by trivial, m + 1, k + 1, by go_num, by go_num, by omega, by omega, Hn.out⟩
            case measure => simp [intOf]; omega
          · have Hn : Hid (m = n + cntI (g i) x (k + 1)) := by
              show _ = _
              rw [Hst.out, if_neg hy, hms.out]; omega
            clear Hst hms
            go_wp2_with fail
            go_roundw
            case rel => exact ⟨by trivial, m, k + 1, by go_num, by go_num, by omega, by omega, Hn.out⟩
            case measure => simp [intOf]; omega
        · obtain rfl : k = Z := by omega
          have Hn : Hid (m = sumN (fun d => cntI (g d) x k) (i + 1)) := by
            show m = sumN (fun d => cntI (g d) x k) i + cntI (g i) x k
            rw [hms.out, ← hs.out]
          clear hkz hms hs
          go_wp2_with fail
          go_roundw
          case rel => exact ⟨by trivial, m, i + 1, by go_num, by go_num, by omega, by omega, Hn.out⟩
          case measure => simp [intOf]; omega
    · obtain rfl : i = D := by omega
      have Hs := hs
      clear hlt hs
      go_wp2_with fail
      go_ret
      have e := Hs.out.trans Hc.out
      subst e
      exact ⟨rfl, rfl⟩
theorem flat_at {A : Option Addr} {B : Nat} {l : List Int} (h : RI w B A l) {k : Nat} (hk : k < l.length) : ∃ b o, A = some ⟨b, o, none⟩ ∧ b < B ∧ w.cell? ⟨b, o + k, none⟩ = some (.int .i64 (l[k])) := by
  obtain ⟨b, o, rfl, hb⟩ := h.flat (by omega)
  exact ⟨b, o, rfl, hb, h.at_ hk⟩
theorem rin_any (A : Option Addr) (c n : Nat) (us : List Int) (x : Int) (hn : n = us.length) (hl : n ≤ 1099511627776) (hr : RI w w.heap.size A us) :
    Calls Try.prog 33 #[.slice A n c, .int .i64 x] w fun e w' => e = .returned (.bool (decide (x ∈ us))) ∧ w' = w := by
  have Hr := Lib.hid hr
  have Hn := Lib.hid hn
  have hl' : (n : Int) ≤ 1099511627776 := by omega
  clear hr hn
  go_enter Try.func33, Try.ntmps33
  go_wp2_with fail
  go_loopw [5] (fun iv wr => wr = w ∧ ∃ i : Nat, iv = .int .i64 (i : Int) ∧ i ≤ n ∧ Hid (x ∉ us.take i)) (fun iv _ => n - (intOf iv).toNat)
  case atStart => exact ⟨rfl, 0, rfl, Nat.zero_le _, (show x ∉ us.take 0 from by simp)⟩
  case round =>
    obtain ⟨rfl, i, rfl, hi, hno⟩ := hrel
    by_cases hlt : i < n
    · have hiu : i < us.length := by rw [← Hn.out]; exact hlt
      obtain ⟨b, o, rfl, hb, c0⟩ := flat_at Hr.out hiu
      have hlt' : (i : Int) < (n : Int) := by omega
      have Hyes : Hid (us[i] = x → decide (x ∈ us) = true) := fun e => decide_eq_true (e ▸ List.getElem_mem _)
      have Hnot : Hid (¬ us[i] = x → x ∉ us.take (i + 1)) := fun e => by
        rw [List.take_add_one, List.getElem?_eq_getElem hiu]
        simp only [Option.toList_some, List.mem_append, List.mem_singleton, not_or]
        exact ⟨hno.out, fun q => e q.symm⟩
      generalize us[i] = y at *
      clear hno hb hiu hlt
      by_cases hxy : y = x
      · have Hy := Lib.hid (Hyes.out hxy)
        clear Hyes Hnot
        go_wp2_with fail
        go_ret
        exact ⟨by rw [Hy.out]; rfl, rfl⟩
      · have Hn2 := Lib.hid (Hnot.out hxy)
        clear Hyes Hnot
        go_wp2_with fail
        go_roundw
        case rel => exact ⟨by trivial, i + 1, by go_num, by omega, Hn2.out⟩
        case measure => simp [intOf]; omega
    · obtain rfl : i = n := by omega
      have Hno : Hid (decide (x ∈ us) = false) := by
        have := hno.out
        rw [Hn.out, List.take_of_length_le (Nat.le_refl _)] at this
        exact decide_eq_false this
      clear hno hlt
      go_wp2_with fail
      go_ret
      exact ⟨by rw [Hno.out]; rfl, rfl⟩
end
end Go.Proofs.Ytajpnjapfiffmaa

/-
  The second saying's table: State, is.
-/
namespace Go.Proofs.Ytajpnjapfiffmaa
open Go.RowKit Go.Maps
section
set_option maxRecDepth 20000
set_option maxHeartbeats 400000
variable {w : World} {rb lb cap D Z : Nat} {R : Nat → Nat} {g : St}
theorem rstate_any (x y : Int) (h : RefT w rb lb cap D Z R g) : Calls Try.prog 25 #[.pointer (some ⟨rb, 0, none⟩), uV x y] w fun e w' => e = .returned (.int .i64 (stateOf g D Z x y : Nat)) ∧ Below w.heap.size w w' := by
  have hZ : (Z : Int) ≤ 4096 := by have := h.z2; omega
  have hD : (D : Int) ≤ 32 := by have := h.d2; omega
  unfold uV
  obtain ⟨W, hW⟩ : ∃ W, W = w.alloc (.cells #[.int .i64 x, .int .i64 y] 24) := ⟨_, rfl⟩
  have h1 := h.alloc (.cells #[.int .i64 x, .int .i64 y] 24)
  have k0 : W.cell? ⟨w.heap.size, 0, none⟩ = some (.int .i64 x) := by rw [hW]; exact (Cells.new w _ _).cell rfl
  have k1 : W.cell? ⟨w.heap.size, 1, none⟩ = some (.int .i64 y) := by rw [hW]; exact (Cells.new w _ _).cell rfl
  rw [← hW] at h1
  have c0 := h1.c0
  have Hb : Hid (∀ (q : Nat), Below w.heap.size w (W.drewN q)) := fun q => by rw [hW]; exact drewN_below ((Below.refl w.heap.size w).alloc (Nat.le_refl _) _) q
  by_cases hx : isUnit D Z x y = true
  · have hq := of_decide_eq_true hx
    obtain ⟨d, rfl⟩ : ∃ d : Nat, x = (d : Int) := ⟨x.toNat, by omega⟩
    obtain ⟨z, rfl⟩ : ∃ z : Nat, y = (z : Int) := ⟨y.toNat, by omega⟩
    have hd : d < D := by omega
    have hz : z < Z := by omega
    rw [show stateOf g D Z (d : Int) (z : Int) = g d z from by unfold stateOf; rw [if_pos hx]; simp]
    have c1 := h1.c1 hd
    have c2 := h1.c2 hd hz
    have hd' : (d : Int) < (D : Int) := by omega
    have hdn : ¬ D ≤ d := by omega
    have hz' : (z : Int) < (Z : Int) := by omega
    have hzn : ¬ Z ≤ z := by omega
    generalize g d z = S at *
    clear h h1 hx hq
    go_enter Try.func25, Try.ntmps25
    go_wp2_with fail
    rw [← hW]
    clear hW
    go_quiet (fail)
    go_wp2_with fail
    go_quiet (fail)
    go_wp2_with fail
    go_ret
    exact ⟨rfl, by rw [World.drewN_drewN]; exact Hb.out _⟩
  · rw [show stateOf g D Z x y = 3 from if_neg hx]
    have hq : ¬ (0 ≤ x ∧ x < D ∧ 0 ≤ y ∧ y < Z) := fun q => hx (decide_eq_true q)
    clear hx
    by_cases h0 : 0 ≤ x
    case neg =>
      have h0' : x < 0 := by omega
      have hd0 : decide (x < 0) = true := decide_eq_true h0'
      clear hq h h1
      go_enter Try.func25, Try.ntmps25
      go_wp2_with fail
      rw [← hW]
      clear hW
      go_quiet (fail)
      go_wp2_with fail
      go_ret
      exact ⟨rfl, Hb.out _⟩
    have h0n : ¬ x < 0 := by omega
    have hd0 : decide (x < 0) = false := decide_eq_false h0n
    by_cases hx1 : x < D
    case neg =>
      have h1' : (D : Int) ≤ x := by omega
      have hd1 : decide (x ≥ (D : Int)) = true := decide_eq_true h1'
      clear hq h h1
      go_enter Try.func25, Try.ntmps25
      go_wp2_with fail
      rw [← hW]
      clear hW
      go_quiet (fail)
      go_wp2_with fail
      go_ret
      exact ⟨rfl, Hb.out _⟩
    obtain ⟨d, rfl⟩ : ∃ d : Nat, x = (d : Int) := ⟨x.toNat, by omega⟩
    have hd : d < D := by omega
    have hdn : ¬ D ≤ d := by omega
    have c1 := h1.c1 hd
    by_cases h2 : 0 ≤ y
    case neg =>
      have h2' : y < 0 := by omega
      have hd2 : decide (y < 0) = true := decide_eq_true h2'
      clear hq h h1
      go_enter Try.func25, Try.ntmps25
      go_wp2_with fail
      rw [← hW]
      clear hW
      go_quiet (fail)
      go_wp2_with fail
      go_ret
      exact ⟨rfl, Hb.out _⟩
    have h3 : (Z : Int) ≤ y := by omega
    have h2n : ¬ y < 0 := by omega
    have hd2 : decide (y < 0) = false := decide_eq_false h2n
    have hd3 : decide (y ≥ (Z : Int)) = true := decide_eq_true h3
    clear hq h h1
    go_enter Try.func25, Try.ntmps25
    go_wp2_with fail
    rw [← hW]
    clear hW
    go_quiet (fail)
    go_wp2_with fail
    go_ret
    exact ⟨rfl, Hb.out _⟩
/-- is there such a unit? -/
theorem ris_any (x y : Int) (h : RefT w rb lb cap D Z R g) : Calls Try.prog 39 #[.pointer (some ⟨rb, 0, none⟩), uV x y] w fun e w' => e = .returned (.bool (isUnit D Z x y)) ∧ Below w.heap.size w w' := by
  have hZ : (Z : Int) ≤ 4096 := by have := h.z2; omega
  have hD : (D : Int) ≤ 32 := by have := h.d2; omega
  unfold uV
  obtain ⟨W, hW⟩ : ∃ W, W = w.alloc (.cells #[.int .i64 x, .int .i64 y] 24) := ⟨_, rfl⟩
  have h1 := h.alloc (.cells #[.int .i64 x, .int .i64 y] 24)
  have k0 : W.cell? ⟨w.heap.size, 0, none⟩ = some (.int .i64 x) := by rw [hW]; exact (Cells.new w _ _).cell rfl
  have k1 : W.cell? ⟨w.heap.size, 1, none⟩ = some (.int .i64 y) := by rw [hW]; exact (Cells.new w _ _).cell rfl
  rw [← hW] at h1
  have c0 := h1.c0
  have Hb : Hid (∀ (q : Nat), Below w.heap.size w (W.drewN q)) := fun q => by rw [hW]; exact drewN_below ((Below.refl w.heap.size w).alloc (Nat.le_refl _) _) q
  by_cases h0 : 0 ≤ x
  case neg =>
    rw [show isUnit D Z x y = false from decide_eq_false fun q => h0 q.1]
    have hd0 : decide (x ≥ 0) = false := decide_eq_false h0
    clear h h1
    go_enter Try.func39, Try.ntmps39
    go_wp2_with fail
    rw [← hW]
    clear hW
    go_quiet (fail)
    go_wp2_with fail
    go_ret
    exact ⟨rfl, Hb.out _⟩
  by_cases hx1 : x < D
  case neg =>
    rw [show isUnit D Z x y = false from decide_eq_false fun q => hx1 q.2.1]
    have hd0 : decide (x ≥ 0) = true := decide_eq_true h0
    have hd1 : decide (x < (D : Int)) = false := decide_eq_false hx1
    clear h h1
    go_enter Try.func39, Try.ntmps39
    go_wp2_with fail
    rw [← hW]
    clear hW
    go_quiet (fail)
    go_wp2_with fail
    go_ret
    exact ⟨rfl, Hb.out _⟩
  obtain ⟨d, rfl⟩ : ∃ d : Nat, x = (d : Int) := ⟨x.toNat, by omega⟩
  have hd : d < D := by omega
  have c1 := h1.c1 hd
  by_cases h2 : 0 ≤ y
  case neg =>
    rw [show isUnit D Z d y = false from decide_eq_false fun q => h2 q.2.2.1]
    have hd2 : decide (y ≥ 0) = false := decide_eq_false h2
    clear h h1
    go_enter Try.func39, Try.ntmps39
    go_wp2_with fail
    rw [← hW]
    clear hW
    go_quiet (fail)
    go_wp2_with fail
    go_ret
    exact ⟨rfl, Hb.out _⟩
  by_cases h3 : y < Z
  case neg =>
    rw [show isUnit D Z d y = false from decide_eq_false fun q => h3 q.2.2.2]
    have hd2 : decide (y ≥ 0) = true := decide_eq_true h2
    have hd3 : decide (y < (Z : Int)) = false := decide_eq_false h3
    clear h h1
    go_enter Try.func39, Try.ntmps39
    go_wp2_with fail
    rw [← hW]
    clear hW
    go_quiet (fail)
    go_wp2_with fail
    go_ret
    exact ⟨rfl, Hb.out _⟩
  rw [show isUnit D Z d y = true from decide_eq_true ⟨h0, hx1, h2, h3⟩]
  have hd2 : decide (y ≥ 0) = true := decide_eq_true h2
  have hd3 : decide (y < (Z : Int)) = true := decide_eq_true h3
  clear h h1
  go_enter Try.func39, Try.ntmps39
  go_wp2_with fail
  rw [← hW]
  clear hW
  go_quiet (fail)
  go_wp2_with fail
  go_ret
  exact ⟨rfl, Hb.out _⟩
end
end Go.Proofs.Ytajpnjapfiffmaa

/-
  The second saying's table: TakeOn, Set.
-/
namespace Go.Proofs.Ytajpnjapfiffmaa
open Go.RowKit Go.Maps
section
set_option maxRecDepth 20000
set_option maxHeartbeats 800000
variable {w w' : World} {rb lb cap D Z : Nat} {R : Nat → Nat} {g : St}
/-- somebody else's block -/
def NotR (D : Nat) (R : Nat → Nat) (b : Nat) : Prop := ∀ d, d < D → b ≠ R d
theorem RefT.setNew {W : World} {g' : St} (h : RefT w rb lb cap D Z R g) (h1 : RefT W rb lb cap D Z R g') {b : Nat} (hb : w.heap.size ≤ b) (i : Nat) (v : Value) : RefT (W.setCell ⟨b, i, none⟩ v) rb lb cap D Z R g' :=
  h1.move (set_other _ _ (by have := h.tc.lt; omega)) (set_other _ _ (by have := h.lb_lt; omega)) (fun d hd => set_other _ _ (by have := (h.rows d hd).lt; omega))
theorem rtakeOn_any (x : Int) (h : RefT w rb lb cap D Z R g) : Calls Try.prog 14 #[.pointer (some ⟨rb, 0, none⟩), .int .i64 x] w fun e w' => e = .returned (takeOnV g D Z x) ∧ RefT w' rb lb cap D Z R (takeOnG g D Z x) ∧ Kept (NotR D R) w w' := by
  have H := Lib.hid h
  have c0 := (h.alloc (.cells #[.int .i64 0, .int .i64 0] 24)).c0
  have hZ : (Z : Int) ≤ 4096 := by have := h.z2; omega
  have hD : (D : Int) ≤ 32 := by have := h.d2; omega
  by_cases hx : 0 ≤ x ∧ x < D
  case neg =>
    rw [show takeOnV g D Z x = .tuple #[uV 0 0, .int .i64 1] from by unfold takeOnV; rw [if_neg hx], show takeOnG g D Z x = g from by unfold takeOnG; rw [if_neg (fun q => hx ⟨q.1, q.2.1⟩)]]
    have hx2 : x < 0 ∨ (0 ≤ x ∧ (D : Int) ≤ x) := by omega
    clear h hx
    rcases hx2 with h0 | ⟨h0, h1⟩
    · go_enter Try.func14, Try.ntmps14
      go_wp2_with fail
      refine bodyPost_ret (v := .tuple #[uV 0 0, .int .i64 1]) (results_cell_tmp rfl _ _ _ _ _ rfl rfl (load_unit _ _ _ _ _ ?_ ?_)) rfl ?_
      · exact (Cells.new w #[.int .i64 0, .int .i64 0] 24).cell rfl
      · exact (Cells.new w #[.int .i64 0, .int .i64 0] 24).cell rfl
      · exact ⟨rfl, H.out.alloc _, (Kept.refl _ w).alloc _⟩
    · go_enter Try.func14, Try.ntmps14
      go_wp2_with fail
      refine bodyPost_ret (v := .tuple #[uV 0 0, .int .i64 1]) (results_cell_tmp rfl _ _ _ _ _ rfl rfl (load_unit _ _ _ _ _ ?_ ?_)) rfl ?_
      · exact (Cells.new w #[.int .i64 0, .int .i64 0] 24).cell rfl
      · exact (Cells.new w #[.int .i64 0, .int .i64 0] 24).cell rfl
      · exact ⟨rfl, H.out.alloc _, (Kept.refl _ w).alloc _⟩
  obtain ⟨d, rfl⟩ : ∃ d : Nat, x = (d : Int) := ⟨x.toNat, by omega⟩
  have hd : d < D := by omega
  have hd' : (d : Int) < (D : Int) := by omega
  have hdn : ¬ D ≤ d := by omega
  have c1 := (h.alloc (.cells #[.int .i64 0, .int .i64 0] 24)).c1 hd
  have Hv : Hid ((∀ i, i < Z → (∀ z, z < i → g d z ≠ 0) → g d i = 0 → takeOnV g D Z d = .tuple #[uV d (i : Int), .int .i64 0] ∧ takeOnG g D Z d = upd g d i 1) ∧ ((∀ z, z < Z → g d z ≠ 0) → takeOnV g D Z d = .tuple #[uV 0 0, .int .i64 5] ∧ takeOnG g D Z d = g)) := by
    refine ⟨fun i hi h1 h2 => ?_, fun h1 => ?_⟩
    · have hl : i = low (g d) Z := low_uniq (by omega) h1 (fun _ => h2)
      have hp : 0 < cnt (g d) 0 Z := cnt_pos hi h2
      unfold takeOnV takeOnG
      rw [if_pos hx, Int.toNat_natCast, if_pos hp, if_pos ⟨hx.1, hx.2, hp⟩, hl]
      exact ⟨rfl, rfl⟩
    · have hp : ¬ 0 < cnt (g d) 0 Z := by
        have : cnt (g d) 0 Z = 0 := (cntB_zero Z).2 fun z hz => by simp [h1 z hz]
        omega
      unfold takeOnV takeOnG
      rw [if_pos hx, Int.toNat_natCast, if_neg hp, if_neg (fun q => hp q.2.2)]
      exact ⟨rfl, rfl⟩
  have Hd := Lib.hid hd
  have Hs : Hid (∀ i, Below w.heap.size w (w.alloc i)) := fun i => (Below.refl _ _).alloc (Nat.le_refl _) _
  clear h hx
  go_enter Try.func14, Try.ntmps14
  go_wp2_with fail
  go_loopw [6] (fun iv wr => wr = w.alloc (.cells #[.int .i64 0, .int .i64 0] 24) ∧ ∃ i : Nat, iv = .int .i64 (i : Int) ∧ i ≤ Z ∧ Hid (∀ z, z < i → g d z ≠ 0)) (fun iv _ => Z - (intOf iv).toNat)
  case atStart => exact ⟨rfl, 0, rfl, Nat.zero_le _, (show ∀ z, z < 0 → g d z ≠ 0 from fun z hz => by omega)⟩
  case round =>
    obtain ⟨rfl, i, rfl, hi, hno⟩ := hrel
    by_cases hlt : i < Z
    · have c2 := (H.out.alloc (.cells #[.int .i64 0, .int .i64 0] 24)).c2 Hd.out hlt
      have f2 := (H.out.alloc (.cells #[.int .i64 0, .int .i64 0] 24)).f2 Hd.out i
      have hlt' : (i : Int) < (Z : Int) := by omega
      have hln : ¬ Z ≤ i := by omega
      have Hlt := Lib.hid hlt
      have Hcase : Hid (g d i ≠ 0 → ∀ z, z < i + 1 → g d z ≠ 0) := fun h1 z hz => by
        by_cases e : z = i
        · subst e; exact h1
        · exact hno.out z (by omega)
      have Hcase0 : Hid (g d i = 0 → takeOnV g D Z d = .tuple #[uV d (i : Int), .int .i64 0] ∧ takeOnG g D Z d = upd g d i 1) := fun h1 => Hv.out.1 i hlt hno.out h1
      generalize g d i = y at *
      clear hlt hno
      by_cases hy : y = 0
      · have Hn := Lib.hid (Hcase0.out hy)
        subst hy
        have Hr : Hid (R d ≠ w.heap.size) := by
          have := (H.out.rows d Hd.out).lt
          show _ ≠ _
          omega
        have hC : Cells ((w.alloc (.cells #[.int .i64 0, .int .i64 0] 24)).setCell ⟨R d, i, none⟩ (.int .i64 1)) w.heap.size 24 [.int .i64 0, .int .i64 0] := (Cells.new w #[.int .i64 0, .int .i64 0] _).move (set_other _ _ (fun q => Hr.out q.symm))
        have b0 := hC.cell (i := 0) rfl
        have b1 := hC.cell (i := 1) rfl
        have f0 := hC.frozen 0
        have f1 := hC.frozen 1
        have HT : Hid (RefT ((w.alloc (.cells #[.int .i64 0, .int .i64 0] 24)).setCell ⟨R d, i, none⟩ (.int .i64 1)) rb lb cap D Z R (upd g d i 1) ∧ Kept (NotR D R) w ((w.alloc (.cells #[.int .i64 0, .int .i64 0] 24)).setCell ⟨R d, i, none⟩ (.int .i64 1))) :=
          ⟨(H.out.alloc _).set (k := 1) Hd.out (by omega), ((Kept.refl _ w).alloc _).setCell (p := ⟨R d, i, none⟩) (fun q => q d Hd.out rfl) _⟩
        clear hC
        clear Hcase Hcase0 Hv
        go_wp2_with fail
        refine bodyPost_ret (v := .tuple #[uV d (i : Int), .int .i64 0]) (results_cell_tmp rfl _ _ _ _ _ rfl rfl (load_unit _ _ _ _ _ ?_ ?_)) rfl ?_
        · rw [World.cell?_setCell_other _ _ _ _ (by intro e; simp only [Addr.mk.injEq] at e; omega)]
          exact World.cell?_setCell_same _ _ _ b0
        · exact World.cell?_setCell_same' _ _ _ (by rw [World.cell?_setCell_other _ _ _ _ (by intro e; simp only [Addr.mk.injEq] at e; omega), b1]; rfl)
        · exact ⟨by rw [Hn.out.1], by rw [Hn.out.2]; exact H.out.setNew (H.out.setNew HT.out.1 (Nat.le_refl _) 0 _) (Nat.le_refl _) 1 _, ((HT.out.2.setNew (p := ⟨w.heap.size, 0, none⟩) (Nat.le_refl _) _).setNew (p := ⟨w.heap.size, 1, none⟩) (Nat.le_refl _) _)⟩
      · have Hn := Lib.hid (Hcase.out hy)
        have hy' : ¬ (y : Int) = 0 := by omega
        clear Hcase Hcase0
        go_wp2_with fail
        go_roundw
        case rel => exact ⟨by trivial, i + 1, by go_num, by omega, Hn.out⟩
        case measure => simp [intOf]; omega
    · obtain rfl : i = Z := by omega
      have Hn := Lib.hid (Hv.out.2 hno.out)
      clear hlt hno Hv
      go_wp2_with fail
      refine bodyPost_ret (v := .tuple #[uV 0 0, .int .i64 5]) (results_cell_tmp rfl _ _ _ _ _ rfl rfl (load_unit _ _ _ _ _ ?_ ?_)) rfl ?_
      · exact (Cells.new w #[.int .i64 0, .int .i64 0] 24).cell rfl
      · exact (Cells.new w #[.int .i64 0, .int .i64 0] 24).cell rfl
      · exact ⟨by rw [Hn.out.1], by rw [Hn.out.2]; exact H.out.alloc _, (Kept.refl _ w).alloc _⟩
end
end Go.Proofs.Ytajpnjapfiffmaa
