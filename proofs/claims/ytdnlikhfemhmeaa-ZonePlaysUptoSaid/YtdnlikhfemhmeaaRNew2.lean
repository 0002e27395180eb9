/-
  The second saying's New with numbers out of bounds; a drive that is cut by hand; the power is on.
-/
import Derived.Test.YtdnlikhfemhmeaaRNew
namespace Go.Proofs.Ytdnlikhfemhmeaa
open Go.RowKit

set_option maxRecDepth 20000 in
set_option maxHeartbeats 1000000 in
theorem rnew_bad (pw : Value) (zones cap size : Int) (w : World) (h : zones < 1 ∨ 4096 < zones ∨ cap < 1 ∨ 4096 < cap ∨ size < 32 ∨ 65536 < size) :
    Calls Try.prog 10 #[pw, .int .i64 zones, .int .i64 cap, .int .i64 size] w fun e w' => e = .returned (.tuple #[.pointer none, .int .i64 1]) ∧ w = w' := by
  by_cases h1 : zones < 1
  · go_enter Try.func10, Try.ntmps10
    go_wp2_with fail
    go_ret2
    exact ⟨rfl, rfl⟩
  have g1 : 1 ≤ zones := by omega
  by_cases h2 : 4096 < zones
  · clear h1
    go_enter Try.func10, Try.ntmps10
    go_wp2_with fail
    go_ret2
    exact ⟨rfl, rfl⟩
  have g2 : zones ≤ 4096 := by omega
  by_cases h3 : cap < 1
  · clear h1 h2
    go_enter Try.func10, Try.ntmps10
    go_wp2_with fail
    go_ret2
    exact ⟨rfl, rfl⟩
  have g3 : 1 ≤ cap := by omega
  by_cases h4 : 4096 < cap
  · clear h1 h2 h3
    go_enter Try.func10, Try.ntmps10
    go_wp2_with fail
    go_ret2
    exact ⟨rfl, rfl⟩
  have g4 : cap ≤ 4096 := by omega
  by_cases h5 : size < 32
  · clear h1 h2 h3 h4
    go_enter Try.func10, Try.ntmps10
    go_wp2_with fail
    go_ret2
    exact ⟨rfl, rfl⟩
  have g5 : 32 ≤ size := by omega
  have h6 : 65536 < size := by omega
  clear h1 h2 h3 h4 h5 h
  go_enter Try.func10, Try.ntmps10
  go_wp2_with fail
  go_ret2
  exact ⟨rfl, rfl⟩

/-- a drive is cut by hand -/
theorem rcut_sys (pw i d : Nat) (P : Pow) (ds : List (Nat × Drv)) (D : Drv) (O : Nat → Option Tag) (A : Option Addr) (c : Nat) (picks : List Int) (w : World) (h : RSysAt w O pw P ds) (hi : ds[i]? = some (d, D))
    (hR : RI w w.heap.size A picks) (hA : picks ≠ [] → ∀ ad, A = some ad → O ad.block = none) (hc : picks.length ≤ c) (hpl : picks.length ≤ 1099511627776) :
    Calls Try.prog 36 #[.pointer (some ⟨d, 0, none⟩), .slice A picks.length c] w (RSysPost w O pw P (ds.set i (d, D.cut picks)) (.tuple #[])) := by
  obtain ⟨hD, hok⟩ := h.drv i d D hi
  refine (rcut_any i pw d A c picks D O w hok hD h.fresh hR (fun hn ad he e => by rw [hA hn ad he] at e; cases e) hc hpl).mono fun e w' ⟨he, O', q1, q2, q3, q4, q5⟩ => ⟨O', he, ?_⟩
  exact h.change (O' := O') hi q2 (fun b t hb ht e => ht (by rw [hb] at e; cases e; rfl)) (fun b hb e => by rw [hb] at e; cases e) q3 q4 q1 (hok.cut picks)

/-- the power is on: its first cell -/
theorem ron_sys {pw : Nat} {P : Pow} {ds : List (Nat × Drv)} {O : Nat → Option Tag} {w : World} (h : RSysAt w O pw P ds) : RSysAt (w.setCell ⟨pw, 0, none⟩ (.bool false)) O pw { P with off := false } ds ∧ Ext w O (w.setCell ⟨pw, 0, none⟩ (.bool false)) O :=
  h.pow_set ((Kept.refl _ w).setCell (fun h => h rfl) _) (fun dv x hc => hc.set 0 (.bool false)) (fun hl => ⟨hl, rfl⟩)

/-- the second saying's power, made -/
theorem rpower_new (w : World) : RSysAt (w.alloc (.cells #[.bool false, .int .i64 0, .slice none 0 0, .int .i64 0, .slice none 0 0] 32)) (fun b => if b = w.heap.size then some .pw else none) w.heap.size Pow.new [] := by
  refine ⟨fun b hb => ?_, fun i d D hi => by simp at hi, ?_⟩
  · by_cases e : b = w.heap.size
    · subst e; simp
    · simp [e] at hb
  · exact ⟨.slice none 0 0, none, 0, 0, Cells.new w _ _, if_pos rfl, OwnV.nil _ _ _, (fun g hg => by cases hg), fun hl => absurd rfl hl⟩
end Go.Proofs.Ytdnlikhfemhmeaa
