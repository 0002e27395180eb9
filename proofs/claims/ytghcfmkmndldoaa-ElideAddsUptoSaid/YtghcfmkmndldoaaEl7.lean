/-
  walk: what goes through a plain list once.
-/
import Derived.Test.YtghcfmkmndldoaaEl6
namespace Go.Proofs.Ytghcfmkmndldoaa
open Go.RowKit Go.Sort Go.Lib

/-- a list without its first -/
theorem tailE_run (b o n c : Nat) (h1 : 1 ≤ n) (h2 : n ≤ c) : ∃ A' : Option Addr, (∀ W : World, (Instr.sliceAt 22 (.slice (some ⟨b, o, none⟩) n c) (some (.int .i64 1)) none none).run Try.prog W = .ok (.slice A' (n - 1) (c - 1)) W) ∧ (1 < c → A' = some ⟨b, o + 3, none⟩) ∧ A' ≠ none := by
  have h3 : (1 : Int) ≤ (n : Int) := by omega
  by_cases h5 : 1 < c
  · refine ⟨some ⟨b, o + 3, none⟩, fun W => ?_, fun _ => rfl, by simp⟩
    have h4 : ¬ 1 = c := by omega
    simp [go_sem, h3, h4, sliced, Addr.add]
    omega
  · refine ⟨some ⟨b, o, none⟩, fun W => ?_, fun h => absurd h h5, by simp⟩
    have h4 : c = 1 := by omega
    have h6 : n = 1 := by omega
    subst h4
    subst h6
    simp [go_sem, sliced]
/-- WHERE A WALK STANDS: its list is r, below block B; its own block is lb -/
def WkAt (w : World) (B lb : Nat) (r : List Ec) : Prop := ∃ A c, Cells w lb 22 [.slice A r.length c] ∧ RE w B A r ∧ r.length ≤ c ∧ B ≤ lb
theorem WkAt.kept {w w' : World} {B lb : Nat} {r : List Ec} {K : Nat → Prop} (h : WkAt w B lb r) (hk : Kept K w w') (hl : K lb) (hB : ∀ b, b < B → K b) (hs : B ≤ w.heap.size) : WkAt w' B lb r := by
  obtain ⟨A, c, h1, h2, h3, h4⟩ := h
  exact ⟨A, c, h1.move (hk.block _ h1.lt hl), h2.below (hk.to_below hB hs), h3, h4⟩
/-- how long the list in a walk's block is -/
def lenAt (w : World) (lb : Nat) : Nat := match w.cell? ⟨lb, 0, none⟩ with | some (.slice _ n _) => n | _ => 0
theorem lenAt_of {w : World} {lb : Nat} {A : Option Addr} {n c : Nat} {t : TypeId} (h : Cells w lb t [.slice A n c]) : lenAt w lb = n := by
  unfold lenAt
  rw [h.cell (i := 0) rfl]
theorem kept_set3 {K : Nat → Prop} {w w' : World} (h : Kept K w w') {b : Nat} (hb : ¬ K b) (x y z : Value) : Kept K w (((w'.setCell ⟨b, 0, none⟩ x).setCell ⟨b, 1, none⟩ y).setCell ⟨b, 2, none⟩ z) := ((h.setCell hb x).setCell hb y).setCell hb z
theorem kept_new {K : Nat → Prop} {w w' : World} (h : Kept K w w') {p : Addr} (hp : w.heap.size ≤ p.block) (u : Value) : Kept K w (w'.setCell p u) :=
  ⟨h.os, h.tape, h.output, by simpa [World.setCell] using h.size, fun b hb hk => (Below.heap_setCell _ _ _ _ (by omega)).trans (h.block b hb hk)⟩
theorem kept_new3 {K : Nat → Prop} {w w' : World} (h : Kept K w w') {b : Nat} (hb : w.heap.size ≤ b) (x y z : Value) : Kept K w (((w'.setCell ⟨b, 0, none⟩ x).setCell ⟨b, 1, none⟩ y).setCell ⟨b, 2, none⟩ z) := kept_new (kept_new (kept_new h hb x) hb y) hb z
/-- what the answer's cell gets turns no walk -/
theorem WkAt.set3 {w : World} {B lb b : Nat} {r : List Ec} (h : WkAt w B lb r) (hb : lb ≠ b) (hB : B ≤ b) (hs : B ≤ w.heap.size) (x y z : Value) : WkAt (((w.setCell ⟨b, 0, none⟩ x).setCell ⟨b, 1, none⟩ y).setCell ⟨b, 2, none⟩ z) B lb r :=
  h.kept (K := fun k => k ≠ b) (kept_set3 (Kept.refl _ _) (fun q => q rfl) x y z) hb (fun k hk => by omega) hs
section
set_option maxRecDepth 100000
set_option maxHeartbeats 4000000
attribute [local go_sem high] run_max_K run_min_K
theorem walk_any (A : Option Addr) (n c : Nat) (w : World) : Calls Try.prog 61 #[.slice A n c] w fun r w' => r = .returned (.func (.func 72) #[] #[.pointer (some ⟨w.heap.size, 0, none⟩)]) ∧ w' = w.alloc (.cells #[.slice A n c] 22) := by
  go_enter Try.func61, Try.ntmps61
  go_wp2_with fail
  go_ret
  exact ⟨rfl, rfl⟩
theorem walk1_any (B lb : Nat) (l : List Ec) (key : ByteArray) (w : World) (h : WkAt w B lb l) (hl : l.length ≤ 1099511627776) (hB : B ≤ w.heap.size) :
    Calls Try.prog 72 #[.string key, .pointer (some ⟨lb, 0, none⟩)] w fun r w' => r = .returned (eV (headE key l)) ∧ WkAt w' B lb (dropE key l) ∧ Kept (fun k => k ≠ lb) w w' := by
  have hlb : lb < w.heap.size := by obtain ⟨A, c, h1, _⟩ := h; exact h1.lt
  have H0 : Hid (WkAt w B lb l ∧ lb < w.heap.size ∧ B ≤ w.heap.size ∧ l.length ≤ 1099511627776) := ⟨h, hlb, hB, hl⟩
  unfold headE
  obtain ⟨d, hd⟩ : ∃ d, d = dropE key l := ⟨_, rfl⟩
  rw [← hd]
  have Hd := Lib.hid hd
  clear h hlb hB hl hd
  go_enter Try.func72, Try.ntmps72
  go_wp2_with fail
  go_loopw [] (fun wr => Hid (∃ r, WkAt wr B lb r ∧ r.length ≤ 1099511627776 ∧ d = dropE key r ∧ Cells wr w.heap.size 32 [.string ⟨#[]⟩, .string ⟨#[]⟩, .int .u64 0] ∧ Kept (fun k => k ≠ lb) w wr)) (fun wr => lenAt wr lb)
  case atStart =>
    have hk : Kept (fun k => k ≠ lb) w (w.alloc (.cells #[.string ⟨#[]⟩, .string ⟨#[]⟩, .int .u64 0] 32)) := (Kept.refl _ _).alloc _
    obtain ⟨A, c, h1, h2, h3, h4⟩ := H0.out.1
    exact ⟨l, ⟨A, c, h1.alloc _, h2.below ((Below.refl _ _).alloc H0.out.2.2.1 _), h3, h4⟩, H0.out.2.2.2, Hd.out, Cells.new w _ _, hk⟩
  case round =>
    obtain ⟨r, ⟨A, c, hc, hre, hlc, hBl⟩, hrl, hdr, hC, hK⟩ := hrel.out
    have hH := hrel
    clear hrel
    have c0 := hc.cell (i := 0) rfl
    have y0 := hC.cell (i := 0) rfl
    have y1 := hC.cell (i := 1) rfl
    have y2 := hC.cell (i := 2) rfl
    have z0 := hC.frozen 0
    have z1 := hC.frozen 1
    have z2 := hC.frozen 2
    have lz := hc.frozen 0
    rcases r with _ | ⟨x, r⟩
    · have Hf : Hid (d = [] ∧ WkAt wr B lb [] ∧ Cells wr w.heap.size 32 [.string ⟨#[]⟩, .string ⟨#[]⟩, .int .u64 0] ∧ Kept (fun k => k ≠ lb) w wr ∧ w.heap.size ≠ lb) := ⟨hdr, ⟨A, c, hc, hre, hlc, hBl⟩, hC, hK, by have := H0.out.2.1; omega⟩
      clear hc hre hlc hBl hrl hdr hC hK hH
      go_wp2_with fail
      rw [Hf.out.1]
      have hsz := Hf.out.2.2.2.1.size
      refine bodyPost_ret (v := eV zeroE) (res_cell rfl _ _ _ _ rfl (load_el _ _ _ ?_)) rfl ⟨rfl, ?_, ?_⟩
      · exact set3 Hf.out.2.2.1 zeroE
      · exact Hf.out.2.1.set3 (Ne.symm Hf.out.2.2.2.2) H0.out.2.2.1 (by have := H0.out.2.2.1; omega) _ _ _
      · exact kept_new3 Hf.out.2.2.2.1 (Nat.le_refl _) _ _ _
    · obtain ⟨b, o, rfl, hblt, x0, x1, x2⟩ := hre 0 x rfl
      rw [Nat.zero_mul, Nat.add_zero] at x0 x1 x2
      obtain ⟨n, hn⟩ : ∃ n, n = (x :: r).length := ⟨_, rfl⟩
      have hn1 : r.length = n - 1 := by rw [hn]; simp
      have hn2 : (n : Int) > 0 := by rw [hn]; simp
      have hn3 : ((n : Int) == 0) = false := by rw [beq_eq_false_iff_ne]; omega
      have hn4 : (0 : Int) < (n : Int) := by omega
      have hn5 : ¬ n = 0 := by omega
      obtain ⟨q, hq⟩ : ∃ q, Op.bytesLess key.toList x.2.1.toList = q := ⟨_, rfl⟩
      cases q with
      | true =>
        have hdx : d = x :: r := by rw [hdr, dropE, if_pos hq]
        have hq2 := less_asymm hq
        have hq3 : (x.2.1.toList == key.toList) = false := by
          rw [beq_eq_false_iff_ne]
          intro e
          rw [e, less_irrefl] at hq
          cases hq
        subst hdx
        rw [← hn] at c0
        have hk9 : Kept (fun k => k ≠ lb) w (wr.alloc (.cells #[.string (maxK x.1 key), .string x.2.1, .int .u64 (x.2.2 : Int)] 32)) := hK.alloc _
        have hC9 := hC.alloc (.cells #[.string (maxK x.1 key), .string x.2.1, .int .u64 (x.2.2 : Int)] 32)
        have hW9 : WkAt (wr.alloc (.cells #[.string (maxK x.1 key), .string x.2.1, .int .u64 (x.2.2 : Int)] 32)) B lb (x :: r) :=
          WkAt.kept (K := fun _ => True) ⟨some ⟨b, o, none⟩, c, hc, hre, hlc, hBl⟩ ((Kept.refl _ _).alloc _) trivial (fun _ _ => trivial) (Nat.le_trans H0.out.2.2.1 hK.size)
        have v0 := hC9.cell (i := 0) rfl
        have v1 := hC9.cell (i := 1) rfl
        have v2 := hC9.cell (i := 2) rfl
        have u0 := hC9.frozen 0
        have u1 := hC9.frozen 1
        have u2 := hC9.frozen 2
        have Hf : Hid (WkAt (wr.alloc (.cells #[.string (maxK x.1 key), .string x.2.1, .int .u64 (x.2.2 : Int)] 32)) B lb (x :: r) ∧ Cells (wr.alloc (.cells #[.string (maxK x.1 key), .string x.2.1, .int .u64 (x.2.2 : Int)] 32)) w.heap.size 32 [.string ⟨#[]⟩, .string ⟨#[]⟩, .int .u64 0] ∧ Kept (fun k => k ≠ lb) w (wr.alloc (.cells #[.string (maxK x.1 key), .string x.2.1, .int .u64 (x.2.2 : Int)] 32)) ∧ w.heap.size ≠ lb ∧ B ≤ w.heap.size ∧ w.heap.size ≤ (wr.alloc (.cells #[.string (maxK x.1 key), .string x.2.1, .int .u64 (x.2.2 : Int)] 32)).heap.size) := ⟨hW9, hC9, hk9, by have := H0.out.2.1; omega, H0.out.2.2.1, hk9.size⟩
        clear hc hre hlc hBl hrl hC hK hH hn hn1 hk9 hC9 hW9 hdr
        go_wp2_with fail
        refine bodyPost_ret (v := eV (maxK x.1 key, x.2.1, x.2.2)) (res_cell rfl _ _ _ _ rfl (load_el _ _ _ ?_)) rfl ⟨rfl, ?_, ?_⟩
        · exact set3 Hf.out.2.1 (maxK x.1 key, x.2.1, x.2.2)
        · exact Hf.out.1.set3 (Ne.symm Hf.out.2.2.2.1) Hf.out.2.2.2.2.1 (Nat.le_trans Hf.out.2.2.2.2.1 Hf.out.2.2.2.2.2) _ _ _
        · exact kept_new3 Hf.out.2.2.1 (Nat.le_refl _) _ _ _
      | false =>
        have hlc' : n ≤ c := by rw [hn]; exact hlc
        obtain ⟨A', hrun, hA1, hA2⟩ := tailE_run b o n c (by omega) hlc'
        have Hs : Hid (WkAt (wr.setCell ⟨lb, 0, none⟩ (.slice A' (n - 1) (c - 1))) B lb r ∧ r.length ≤ 1099511627776 ∧ d = dropE key r ∧ Cells (wr.setCell ⟨lb, 0, none⟩ (.slice A' (n - 1) (c - 1))) w.heap.size 32 [.string ⟨#[]⟩, .string ⟨#[]⟩, .int .u64 0] ∧ Kept (fun k => k ≠ lb) w (wr.setCell ⟨lb, 0, none⟩ (.slice A' (n - 1) (c - 1)))) := by
          refine ⟨⟨A', c - 1, by rw [hn1]; exact hc.set 0 _, ?_, by rw [hn1]; rw [← hn] at hlc; omega, hBl⟩, by simp at hrl; omega, by rw [hdr, dropE, if_neg (by rw [hq]; simp)], cells_other hC (by have := H0.out.2.1; show w.heap.size ≠ lb; omega) _, hK.setCell (fun q => q rfl) _⟩
          rcases r with _ | ⟨x', r'⟩
          · exact RE.nil _ _ _
          · rw [hA1 (by simp at hn; omega)]
            have h9 := hre.cut 1
            rw [Nat.one_mul, List.drop_one, List.tail_cons] at h9
            exact h9.below ((Below.refl _ _).setCell hBl _)
        have Hm : Hid (lenAt (wr.setCell ⟨lb, 0, none⟩ (.slice A' (n - 1) (c - 1))) lb < lenAt wr lb) := by
          show _ < _
          rw [lenAt_of (hc.set 0 _), lenAt_of hc, ← hn]
          omega
        rw [← hn] at c0
        have hq4 : ((Op.bytesLess x.2.1.toList key.toList || x.2.1.toList == key.toList) = true) := by
          rcases less_total x.2.1.toList key.toList with h | h | h
          · rw [h]; rfl
          · rw [h, less_irrefl]; simp
          · rw [hq] at h; cases h
        generalize x.2.1 = hi at *
        cases hq5 : Op.bytesLess hi.toList key.toList with
        | true =>
          clear hc hre hlc hBl hrl hdr hC hK hH hq hq4 hn hn1 hA1 hA2
          go_wp2_with fail
          go_roundw
          case rel => exact ⟨r, Hs.out⟩
          case measure => exact Hm.out
        | false =>
          rw [hq5, Bool.false_or] at hq4
          clear hc hre hlc hBl hrl hdr hC hK hH hq hn hn1 hA1 hA2
          go_wp2_with fail
          go_roundw
          case rel => exact ⟨r, Hs.out⟩
          case measure => exact Hm.out
end
end Go.Proofs.Ytghcfmkmndldoaa
