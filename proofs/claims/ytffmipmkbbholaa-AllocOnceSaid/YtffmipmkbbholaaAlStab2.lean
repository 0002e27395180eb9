/-
  slices' stableCmpFunc, SortStableFunc at fewer than 40 ints that ascend.
-/
import Derived.Test.YtffmipmkbbholaaAlStable
namespace Go.Proofs.Ytffmipmkbbholaa
open Go.RowKit Go.Maps Go.Shelf Go.Lib Go.Sort

section
set_option maxRecDepth 100000
set_option maxHeartbeats 8000000
variable {F : Int → Nat}
theorem stable_any (w0 : World) (blk off cap z g : Nat) (cb : Array Value) (l : List Int) (R0 : Row1 eI w0 blk off l.toArray) (hz : z = l.length) (hn : z < 40)
    (eg : ∀ args w, (callFunc g args).run Try.prog w = .ok (.enter g args) w) (hcmp : CmpLays1 Try.prog g cb eI (cfF F) blk off l.toArray.size w0) (hl : l.Pairwise (· < ·)) :
    Calls Try.prog 58 #[.slice (some ⟨blk, off, none⟩) z cap, .int .i64 (z : Int), .func (.func g) #[] cb] w0 fun e w' => e = .returned (.tuple #[]) ∧ ∃ M, M.Perm l ∧ Asc F M ∧ SW eI w0 blk off M.toArray w' := by
  have mixed : Try.prog.follows Departure.mixedOrders = true := by kernel_rfl
  have S0 : SW eI w0 blk off l.toArray w0 := SW.start R0.hH
  have hsz : l.toArray.size ≤ 1000000 := by simp; omega
  have hz' : z = l.toArray.size := by simpa using hz
  have Hins : Hid (∀ (W : World) (a b : Nat) (pre x post : List Int), (pre ++ x ++ post).length = l.toArray.size → a = pre.length → b = a + x.length → x.Pairwise (· < ·) → SW eI w0 blk off (pre ++ x ++ post).toArray W →
      Calls Try.prog 79 #[.slice (some ⟨blk, off, none⟩) z cap, .int .i64 (a : Int), .int .i64 (b : Int), .func (.func g) #[] cb] W fun e w' => e = .returned (.tuple #[]) ∧ ∃ M, M.Perm x ∧ Asc F M ∧ SW eI w0 blk off (pre ++ M ++ post).toArray w') :=
    fun W a b pre x post h1 h2 h3 h4 h5 => insInt_any w0 W blk off cap a b z g cb l.toArray R0 pre x post hz' hsz h1 h2 h3 eg hcmp h4 h5
  have Hsym := Lib.hid (sym_any w0 blk off cap z g cb l.toArray R0 hz' hsz eg hcmp)
  have Hz := Lib.hid hz
  have Hl := Lib.hid hl
  by_cases q1 : z < 20
  · have Hi : Hid (Calls Try.prog 79 #[.slice (some ⟨blk, off, none⟩) z cap, .int .i64 0, .int .i64 (z : Int), .func (.func g) #[] cb] w0 fun e w' => e = .returned (.tuple #[]) ∧ ∃ M, M.Perm l ∧ Asc F M ∧ SW eI w0 blk off M.toArray w') := by
      have h := Hins.out w0 0 z [] l [] (by simp) rfl (by simp [hz]) hl (by simpa using S0)
      exact (show Calls _ _ _ _ _ from by simpa using h)
    have c1 : ¬ (20 : Int) ≤ (z : Int) := by omega
    have c2 : ¬ (20 : Int) < (z : Int) := by omega
    clear S0 hsz hz' Hins Hsym hcmp R0 hz hl q1 hn
    go_enter Try.func58, Try.ntmps58
    go_wp2_with fail
    refine wp_loop_rounds 1 ?_
    rw [rounds_succ]
    go_wp2_with fail
    refine Hi.out.mono ?_
    rintro e w1 ⟨rfl, h1⟩
    have H1 := Lib.hid h1
    clear h1 Hi
    go_wp2_with fail
    refine wp_loop_rounds 1 ?_
    rw [rounds_succ]
    go_wp2_with fail
    go_end0
    exact ⟨rfl, H1.out⟩
  · have e20 : l = l.take 20 ++ l.drop 20 := (List.take_append_drop _ _).symm
    have n1 : (l.take 20).length = 20 := by simp; omega
    have n2 : (l.drop 20).length = z - 20 := by simp; omega
    have hl' := hl
    rw [e20] at hl'
    have hp := List.pairwise_append.1 hl'
    have Hi : Hid (Calls Try.prog 79 #[.slice (some ⟨blk, off, none⟩) z cap, .int .i64 0, .int .i64 20, .func (.func g) #[] cb] w0 fun e w' => e = .returned (.tuple #[]) ∧ ∃ M, M.Perm (l.take 20) ∧ Asc F M ∧ SW eI w0 blk off (M ++ l.drop 20).toArray w') := by
      have h := Hins.out w0 0 20 [] (l.take 20) (l.drop 20) (by simp) rfl (by simp; omega) hp.1 (by simpa using S0)
      exact (show Calls _ _ _ _ _ from by simpa using h)
    have Hi2 : Hid (∀ W M, M.Perm (l.take 20) → SW eI w0 blk off (M ++ l.drop 20).toArray W → Calls Try.prog 79 #[.slice (some ⟨blk, off, none⟩) z cap, .int .i64 20, .int .i64 (z : Int), .func (.func g) #[] cb] W fun e w' => e = .returned (.tuple #[]) ∧ ∃ M2, M2.Perm (l.drop 20) ∧ Asc F M2 ∧ SW eI w0 blk off (M ++ M2).toArray w') := by
      intro W M hM hS
      have hMl := hM.length_eq
      rw [n1] at hMl
      have h := Hins.out W 20 z M (l.drop 20) [] (by simp; omega) hMl.symm (by omega) hp.2.1 (by simpa using hS)
      simpa using h
    have Hm : Hid (∀ W M M2, 20 < z → M.Perm (l.take 20) → M2.Perm (l.drop 20) → Asc F M → Asc F M2 → SW eI w0 blk off (M ++ M2).toArray W → Calls Try.prog 80 #[.slice (some ⟨blk, off, none⟩) z cap, .int .i64 0, .int .i64 20, .int .i64 (z : Int), .func (.func g) #[] cb] W fun e w' => e = .returned (.tuple #[]) ∧ ∃ M3, M3.Perm l ∧ Asc F M3 ∧ SW eI w0 blk off M3.toArray w') := by
      intro W M M2 hzz hM hM2 a1 a2 hS
      have hMl := hM.length_eq
      have hMl2 := hM2.length_eq
      rw [n1] at hMl
      rw [n2] at hMl2
      have h := Hsym.out _ W 0 20 z [] M M2 [] rfl rfl (by omega) (by omega) (by omega) (by omega) (by simp; omega) a1 a2 (fun x hx y hy => hp.2.2 x (hM.mem_iff.1 hx) y (hM2.mem_iff.1 hy)) (by simpa using hS)
      refine h.mono ?_
      rintro e w' ⟨rfl, M3, h1, h2, h3⟩
      refine ⟨rfl, M3, ?_, h2, by simpa using h3⟩
      refine h1.trans ((hM.append hM2).trans ?_)
      rw [List.take_append_drop]
    have Hone : Hid (∀ W M M2, z = 20 → M.Perm (l.take 20) → M2.Perm (l.drop 20) → Asc F M → SW eI w0 blk off (M ++ M2).toArray W → ∃ M3, M3.Perm l ∧ Asc F M3 ∧ SW eI w0 blk off M3.toArray W) := by
      intro W M M2 hzz hM hM2 a1 hS
      have hMl2 := hM2.length_eq
      rw [n2] at hMl2
      have e0 : M2 = [] := List.length_eq_zero_iff.1 (by omega)
      refine ⟨M, ?_, a1, by rw [e0] at hS; simpa using hS⟩
      rw [List.take_of_length_le (by omega)] at hM
      exact hM
    have c1 : (20 : Int) ≤ (z : Int) := by omega
    have c2 : ¬ (40 : Int) ≤ (z : Int) := by omega
    have c4 : ¬ (40 : Int) < (z : Int) := by omega
    clear S0 hsz hz' Hins Hsym hcmp R0 hl hl' hp e20 n1 n2 hz q1
    by_cases q2 : z = 20
    · have c3 : ¬ (20 : Int) < (z : Int) := by omega
      have Q2 := Lib.hid q2
      clear Hm q2
      go_enter Try.func58, Try.ntmps58
      go_wp2_with fail
      refine wp_loop_rounds 2 ?_
      rw [rounds_succ]
      go_wp2_with fail
      refine Hi.out.mono ?_
      rintro e w1 ⟨rfl, M, p1, a1, h1⟩
      have H1 := Lib.hid (And.intro p1 (And.intro a1 h1))
      have Hi3 := Lib.hid (Hi2.out _ M p1 h1)
      clear p1 a1 h1 Hi Hi2
      go_wp2_with fail
      rw [rounds_succ]
      go_wp2_with fail
      refine Hi3.out.mono ?_
      rintro e w2 ⟨rfl, M2, p2, a2, h2⟩
      have H2 := Lib.hid (Hone.out w2 M M2 Q2.out H1.out.1 p2 H1.out.2.1 h2)
      clear p2 a2 h2 Hi3 H1
      go_wp2_with fail
      refine wp_loop_rounds 1 ?_
      rw [rounds_succ]
      go_wp2_with fail
      go_end0
      exact ⟨rfl, H2.out⟩
    · have c3 : (20 : Int) < (z : Int) := by omega
      have C5 : Hid (20 < z) := (show _ < _ from by omega)
      clear Hone q2
      go_enter Try.func58, Try.ntmps58
      go_wp2_with fail
      refine wp_loop_rounds 2 ?_
      rw [rounds_succ]
      go_wp2_with fail
      refine Hi.out.mono ?_
      rintro e w1 ⟨rfl, M, p1, a1, h1⟩
      have H1 := Lib.hid (And.intro p1 (And.intro a1 h1))
      have Hi3 := Lib.hid (Hi2.out _ M p1 h1)
      clear p1 a1 h1 Hi Hi2
      go_wp2_with fail
      rw [rounds_succ]
      go_wp2_with fail
      refine Hi3.out.mono ?_
      rintro e w2 ⟨rfl, M2, p2, a2, h2⟩
      have H2 := Lib.hid (Hm.out w2 M M2 C5.out H1.out.1 p2 H1.out.2.1 a2 h2)
      clear p2 a2 h2 Hi3 H1 Hm
      go_wp2_with fail
      refine wp_loop_rounds 2 ?_
      rw [rounds_succ]
      go_wp2_with fail
      refine wp_loop_rounds 1 ?_
      rw [rounds_succ]
      go_wp2_with fail
      refine H2.out.mono ?_
      rintro e w3 ⟨rfl, h3⟩
      have H3 := Lib.hid h3
      clear h3 H2
      go_wp2_with fail
      rw [rounds_succ]
      go_wp2_with fail
      go_end0
      exact ⟨rfl, H3.out⟩
theorem sortStable_any (w0 : World) (blk off cap z g : Nat) (cb : Array Value) (l : List Int) (R0 : Row1 eI w0 blk off l.toArray) (hz : z = l.length) (hn : z < 40)
    (eg : ∀ args w, (callFunc g args).run Try.prog w = .ok (.enter g args) w) (hcmp : CmpLays1 Try.prog g cb eI (cfF F) blk off l.toArray.size w0) (hl : l.Pairwise (· < ·)) :
    Calls Try.prog 47 #[.slice (some ⟨blk, off, none⟩) z cap, .func (.func g) #[] cb] w0 fun e w' => e = .returned (.tuple #[]) ∧ ∃ M, M.Perm l ∧ Asc F M ∧ SW eI w0 blk off M.toArray w' := by
  have H := Lib.hid (stable_any w0 blk off cap z g cb l R0 hz hn eg hcmp hl)
  clear R0 hz hcmp hl
  go_enter Try.func47, Try.ntmps47
  go_wp2_with fail
  refine H.out.mono ?_
  rintro e w1 ⟨rfl, h1⟩
  have H1 := Lib.hid h1
  clear h1 H
  go_wp2_with fail
  go_end0
  exact ⟨rfl, H1.out⟩
/-- .. of no element -/
theorem stable_none (w0 : World) (A : Option Addr) (cap : Nat) (fv : Value) :
    Calls Try.prog 58 #[.slice A 0 cap, .int .i64 0, fv] w0 fun e w' => e = .returned (.tuple #[]) ∧ w' = w0 := by
  have Hi := Lib.hid (AnyF.insertionSortCmpFunc_none (ρ := layInsI_ren) { layInsI with } A cap fv w0)
  go_enter Try.func58, Try.ntmps58
  go_wp2_with fail
  refine wp_loop_rounds 1 ?_
  rw [rounds_succ]
  go_wp2_with fail
  refine Calls.mono Hi.out ?_
  rintro e w1 ⟨rfl, rfl⟩
  go_wp2_with fail
  refine wp_loop_rounds 1 ?_
  rw [rounds_succ]
  go_wp2_with fail
  go_end0
  exact ⟨rfl, rfl⟩
theorem sortStable_none (w0 : World) (A : Option Addr) (cap : Nat) (fv : Value) :
    Calls Try.prog 47 #[.slice A 0 cap, fv] w0 fun e w' => e = .returned (.tuple #[]) ∧ w' = w0 := by
  have H := Lib.hid (stable_none w0 A cap fv)
  go_enter Try.func47, Try.ntmps47
  go_wp2_with fail
  refine H.out.mono ?_
  rintro e w1 ⟨rfl, rfl⟩
  go_wp2_with fail
  go_end0
  exact ⟨rfl, rfl⟩
end
end Go.Proofs.Ytffmipmkbbholaa
