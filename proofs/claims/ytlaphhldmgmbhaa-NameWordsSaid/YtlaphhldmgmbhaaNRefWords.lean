/-
  The second saying's words and folding.
-/
import Derived.Test.YtlaphhldmgmbhaaNWords
import Derived.Test.YtlaphhldmgmbhaaNFold
namespace Go.Proofs.Ytlaphhldmgmbhaa
open Go.RowKit

theorem fold_at (l : List UInt8) (k : Nat) (h : k < l.length) :
    (65 ≤ l[k].toNat ∧ l[k].toNat ≤ 90 → (foldL (l.take k) ++ l.drop k).set k (l[k] + 32) = foldL (l.take (k + 1)) ++ l.drop (k + 1)) ∧
    (¬ (65 ≤ l[k].toNat ∧ l[k].toNat ≤ 90) → foldL (l.take k) ++ l.drop k = foldL (l.take (k + 1)) ++ l.drop (k + 1)) ∧
    ∃ h2 : k < (foldL (l.take k) ++ l.drop k).length, (foldL (l.take k) ++ l.drop k)[k] = l[k] := by
  have hcons : l.drop k = l[k] :: l.drop (k + 1) := List.drop_eq_getElem_cons h
  have htk : l.take (k + 1) = l.take k ++ [l[k]] := List.take_succ_eq_append_getElem h
  have hlen : (foldL (l.take k)).length = k := by simp [foldL]; omega
  have hf : foldL (l.take k ++ [l[k]]) = foldL (l.take k) ++ [foldB l[k]] := by unfold foldL; rw [List.map_append]; rfl
  refine ⟨fun hr => ?_, fun hr => ?_, by simp [foldL]; omega, ?_⟩
  · rw [htk, hf, hcons, List.set_append_right _ _ (by omega), hlen, Nat.sub_self, show foldB l[k] = l[k] + 32 by unfold foldB; rw [if_pos hr], List.append_assoc]
    rfl
  · rw [htk, hf, hcons, show foldB l[k] = l[k] by unfold foldB; rw [if_neg hr], List.append_assoc]
    rfl
  · rw [List.getElem_append_right (by omega)]
    simp [hlen]

set_option maxRecDepth 20000 in
set_option maxHeartbeats 400000 in
theorem refFold_any (s : ByteArray) (w : World) (hs : s.size ≤ 1099511627776) :
    Calls Try.prog 18 #[.string s] w fun e w' => e = .returned (.string ⟨(foldL s.data.toList).toArray⟩) ∧ Below w.heap.size w w' := by
  have hcv := fun (W : World) => run_bytes_of_string (P := Try.prog) W 9 32 5 s Try.underlying9 Try.underlying32 Try.underlying5
  obtain ⟨l, hl⟩ : ∃ l, l = s.data.toList := ⟨_, rfl⟩
  have Hl := Lib.hid hl
  have Hsl : Hid (l.length = s.size) := by show _ = _; rw [hl]; rfl
  rw [← hl]
  clear hl
  go_enter Try.func18, Try.ntmps18
  go_wp2_with fail
  clear hcv
  have hcap := grownCap_ge w s.size 0 5
  generalize grownCap w s.size 0 5 = cap at hcap ⊢
  go_loopw [4] (fun i wr => ∃ k : Nat, k ≤ s.size ∧ i = .int .i64 (k : Int) ∧ Hid (TB wr w.heap.size (foldL (l.take k) ++ l.drop k)) ∧ Hid (Below w.heap.size w wr)) (fun i _ => (s.size - intOf i).toNat)
  case atStart =>
    have h1 := TB.made w s cap hcap
    rw [← Hl.out] at h1
    exact ⟨0, Nat.zero_le _, rfl, h1, ((Below.refl _ w).alloc (Nat.le_refl _) _).drew⟩
  case round =>
    obtain ⟨k, hk, rfl, htb, hbel⟩ := hrel
    by_cases hp : k < s.size
    · have hpl : k < l.length := by rw [Hsl.out]; exact hp
      obtain ⟨st1, st2, hlen, hat⟩ := fold_at l k hpl
      have hc := htb.out.cell hlen
      rw [hat] at hc
      have hf := htb.out.frozen hlen
      have hp' : (k : Int) < (s.size : Int) := by omega
      by_cases hr : 65 ≤ l[k].toNat ∧ l[k].toNat ≤ 90
      · have Hset : Hid (TB (wr.setCell ⟨w.heap.size, k, none⟩ (.int .u8 ((l[k].toNat : Int) + 32))) w.heap.size (foldL (l.take (k + 1)) ++ l.drop (k + 1))) := by
          show TB _ _ _
          have := htb.out.set k hlen (l[k] + 32)
          rw [st1 hr] at this
          have e : ((l[k] + 32).toNat : Int) = (l[k].toNat : Int) + 32 := by
            rw [UInt8.toNat_add]
            show (((l[k].toNat + 32) % 256 : Nat) : Int) = _
            omega
          rw [e] at this
          exact this
        obtain ⟨h1, h2⟩ := hr
        have h1' : (65 : Int) ≤ (l[k].toNat : Int) := by omega
        have h2' : (l[k].toNat : Int) ≤ 90 := by omega
        generalize l[k].toNat = x at hc Hset h1' h2'
        clear st1 st2 hat hlen h1 h2
        go_wp2_with fail
        go_roundw
        case rel => exact ⟨k + 1, by omega, by go_num, Hset.out, hbel.out.setCell (Nat.le_refl _) _⟩
        case measure => simp [intOf]; omega
      · have Hn := Lib.hid (st2 hr)
        have hd : decide ((65 : Int) ≤ (l[k].toNat : Int)) = false ∨ (decide ((65 : Int) ≤ (l[k].toNat : Int)) = true ∧ decide ((l[k].toNat : Int) ≤ 90) = false) := by simp; omega
        generalize l[k].toNat = x at hc hd
        clear st1 st2 hat hlen hr
        rcases hd with hd | ⟨hd, hd2⟩
        all_goals
          go_wp2_with fail
          go_roundw
          case rel => exact ⟨k + 1, by omega, by go_num, by show TB _ _ _; rw [← Hn.out]; exact htb.out, hbel.out⟩
          case measure => simp [intOf]; omega
    · obtain rfl : k = s.size := by omega
      have Hfin : Hid (foldL (l.take s.size) ++ l.drop s.size = foldL l) := by
        show _ = _
        rw [← Hsl.out, List.take_length, List.drop_length, List.append_nil]
      have hcv := run_convert_bytes_back (P := Try.prog) wr 32 9 5 ⟨w.heap.size, 0, none⟩ cap (foldL l) Try.underlying32 Try.underlying5 Try.underlying9 (fun j hj => by
        have := htb.out
        rw [Hfin.out] at this
        have := this.cell hj
        rw [add_flat, Nat.zero_add]
        exact this)
      have hfl : (foldL l).length = s.size := by rw [← Hsl.out]; simp [foldL]
      rw [hfl] at hcv
      go_wp2_with fail
      go_ret
      exact ⟨rfl, hbel.out⟩

set_option maxRecDepth 20000 in
set_option maxHeartbeats 400000 in
theorem refBlank_any (x : UInt8) (w : World) :
    Calls Try.prog 31 #[.int .u8 (x.toNat : Int)] w fun e w' => e = .returned (.bool (blankB x)) ∧ w = w' := by
  have hb : blankB x = decide (x.toNat = 32 ∨ x.toNat = 9 ∨ x.toNat = 10 ∨ x.toNat = 13) := by unfold blankB; rw [Bool.eq_iff_iff]; simp; omega
  rw [hb]
  clear hb
  generalize x.toNat = n
  go_enter Try.func31, Try.ntmps31
  go_wp2_with fail
  all_goals
    go_ret
    refine ⟨ret_bool ?_, rfl⟩
    rw [Bool.eq_iff_iff]
    simp at *
    omega
end Go.Proofs.Ytlaphhldmgmbhaa
