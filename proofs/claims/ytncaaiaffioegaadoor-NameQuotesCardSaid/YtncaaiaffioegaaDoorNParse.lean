/-
  Two digits of sixteen, read by the library's reader of numbers.
-/
import Derived.Test.YtncaaiaffioegaaDoorNFold
import Derived.Test.YtncaaiaffioegaaDoorNLib
namespace Go.Proofs.YtncaaiaffioegaaDoor
open Go.RowKit

theorem nil_text' (s : ByteArray) (h : s.size = 0) : s = ⟨#[]⟩ := ByteArray.ext (Array.eq_empty_of_size_eq_zero h)
theorem text_nonempty' (s : ByteArray) (h : 0 < s.size) : s.toList.isEmpty = false := by
  rw [Lib.toList_data]
  cases hl : s.data.toList with
  | nil =>
    have : s.data.toList.length = s.size := rfl
    rw [hl] at this
    simp at this
    omega
  | cons x r => rfl
/-- a digit's value, as the library reads it -/
def hval (c : Nat) : Option Nat := if 48 ≤ c ∧ c ≤ 57 then some (c - 48) else if 97 ≤ (c ||| 32) ∧ (c ||| 32) ≤ 102 then some ((c ||| 32) - 87) else none

set_option maxRecDepth 20000 in
set_option maxHeartbeats 400000 in
theorem lower_any (c : Nat) (hc : c < 256) (w : World) :
    Calls Tryd.prog 40 #[.int .u8 (c : Int)] w fun e w' => e = .returned (.int .u8 ((c ||| 32 : Nat) : Int)) ∧ w = w' := by
  have h := u8_or_nat c 32 hc (by omega)
  go_enter Tryd.func40, Tryd.ntmps40
  go_wp2_with fail
  go_ret
  exact ⟨by rw [← h]; rfl, rfl⟩

theorem hval_lt {c x : Nat} (h : hval c = some x) : x < 16 := by
  unfold hval at h
  split at h
  · simp at h; omega
  · split at h
    · simp at h; omega
    · simp at h
/-- what two bytes tell -/
def hval2 (c d : Nat) : Option Nat := (hval c).bind fun x => (hval d).map fun y => 16 * x + y
/-- the reader's answer -/
def parseVal (r : Option Nat) : Value := match r with
  | some x => .tuple #[.int .u64 (x : Int), .nilIface]
  | none => .tuple #[.int .u64 0, .iface 64 (.int .i64 2)]
/-- how far the reader has come -/
def parseAt (c d k : Nat) (n : Nat) : Prop := (k = 0 ∧ n = 0) ∨ (k = 1 ∧ hval c = some n) ∨ (k = 2 ∧ ∃ x y, hval c = some x ∧ hval d = some y ∧ n = 16 * x + y)

/-- what a byte may be for the reader -/
theorem digit_cases (c : Nat) (hc : c < 256) : (∃ d : Nat, d < 16 ∧ hval c = some d ∧ decide ((48 : Int) ≤ (c : Int)) = true ∧ decide ((c : Int) ≤ 57) = true ∧ IntKind.u8.wrap ((c : Int) - 48) = (d : Int) ∧ ¬ ((c : Int) = 95)) ∨
    ((decide ((48 : Int) ≤ (c : Int)) = false ∨ decide ((48 : Int) ≤ (c : Int)) = true ∧ decide ((c : Int) ≤ 57) = false) ∧ ∃ m : Nat, (c ||| 32) = m ∧
      ((∃ d : Nat, d < 16 ∧ hval c = some d ∧ decide ((97 : Int) ≤ (m : Int)) = true ∧ decide ((m : Int) ≤ 122) = true ∧ ((m : Int) - 97 + 10) % 256 = (d : Int) ∧ ¬ ((c : Int) = 95)) ∨
       (∃ d : Nat, 16 ≤ d ∧ hval c = none ∧ decide ((97 : Int) ≤ (m : Int)) = true ∧ decide ((m : Int) ≤ 122) = true ∧ ((m : Int) - 97 + 10) % 256 = (d : Int) ∧ ¬ ((c : Int) = 95)) ∨
       (hval c = none ∧ (decide ((97 : Int) ≤ (m : Int)) = false ∨ decide ((97 : Int) ≤ (m : Int)) = true ∧ decide ((m : Int) ≤ 122) = false)))) := by
  by_cases h : 48 ≤ c ∧ c ≤ 57
  · refine .inl ⟨c - 48, by omega, by unfold hval; rw [if_pos h], by simp; omega, by simp; omega, ?_⟩
    exact ⟨by rw [IntKind.wrap_u8]; omega, by omega⟩
  · refine .inr ⟨by simp; omega, _, rfl, ?_⟩
    generalize hm : (c ||| 32) = m
    have hv : hval c = if 97 ≤ m ∧ m ≤ 102 then some (m - 87) else none := by unfold hval; rw [if_neg h, hm]
    have h95 : m ≤ 122 → ¬ ((c : Int) = 95) := fun a b => by
      obtain rfl : c = 95 := by omega
      rw [show (95 ||| 32 : Nat) = 127 from rfl] at hm
      omega
    by_cases h1 : 97 ≤ m ∧ m ≤ 102
    · refine .inl ⟨m - 87, by omega, by rw [hv, if_pos h1], by simp; omega, by simp; omega, ?_⟩
      exact ⟨by omega, h95 (by omega)⟩
    · by_cases h2 : 97 ≤ m ∧ m ≤ 122
      · refine .inr (.inl ⟨m - 87, by omega, by rw [hv, if_neg h1], by simp; omega, by simp; omega, ?_⟩)
        exact ⟨by omega, h95 (by omega)⟩
      · exact .inr (.inr ⟨by rw [hv, if_neg h1], by simp; omega⟩)

theorem parse_facts (x z : Nat) (hx : x < 16) (hz : z < 16) : (z : Int) < 16 ∧ ∃ q : Nat, Hid (q = 16 * x + z) ∧ ∃ p : Nat,
    decide ((1152921504606846976 : Int) ≤ (x : Int)) = false ∧ IntKind.u64.wrap ((x : Int) * 16) = (p : Int) ∧ IntKind.u64.wrap (z : Int) = (z : Int) ∧ IntKind.u64.wrap ((p : Int) + (z : Int)) = (q : Int) ∧ (p : Int) ≤ (q : Int) ∧ (q : Int) ≤ 255 := by
  refine ⟨by omega, _, rfl, 16 * x, by simp; omega, ?_, ?_, ?_, by omega, by omega⟩
  all_goals
    rw [IntKind.wrap_u64]; omega

set_option maxRecDepth 20000 in
set_option maxHeartbeats 400000 in
theorem parseIn_any (s : ByteArray) (c d : UInt8) (w : World) (hs : s.data.toList = [c, d]) :
    Calls Tryd.prog 38 #[.string s, .int .i64 16, .int .i64 8] w fun e w' => e = .returned (parseVal (hval2 c.toNat d.toNat)) ∧ Below w.heap.size w w' := by
  have hcv := fun (W : World) => run_bytes_of_string (P := Tryd.prog) W 9 36 5 s Tryd.underlying9 Tryd.underlying36 Tryd.underlying5
  have Hs := Lib.hid hs
  have hsz : s.size = 2 := by show s.data.toList.length = 2; rw [hs]; rfl
  have hne : s.toList.isEmpty = false := by
    exact text_nonempty' s (by omega)
  rw [hsz] at hcv
  have hl := fun (x : Nat) (h : x < 256) (W : World) => lower_any x h W
  have hcl := c.toNat_lt
  have hdl := d.toNat_lt
  generalize hcn : c.toNat = cn at hcl ⊢
  generalize hdn : d.toNat = dn at hdl ⊢
  have Hcn := Lib.hid hcn
  have Hdn := Lib.hid hdn
  clear hs hcn hdn
  go_enter Tryd.func38, Tryd.ntmps38
  go_wp2_with fail
  clear hcv
  have hcap := grownCap_ge w 2 0 5
  generalize grownCap w 2 0 5 = cap at hcap ⊢
  have htb : Hid (TB ((w.alloc (.cells (bytesRow s cap) 5 ((bytesRow s cap).size, (bytesRow s cap).size + 1))).drew) w.heap.size [c, d]) := by
    have h1 := TB.made w s cap (by rw [hsz]; exact hcap)
    rw [Hs.out] at h1
    exact h1.other rfl
  have Hbel : Hid (Below w.heap.size w ((w.alloc (.cells (bytesRow s cap) 5 ((bytesRow s cap).size, (bytesRow s cap).size + 1))).drew)) := ((Below.refl _ w).alloc (Nat.le_refl _) _).drew
  generalize (w.alloc (.cells (bytesRow s cap) 5 ((bytesRow s cap).size, (bytesRow s cap).size + 1))).drew = w1 at htb Hbel ⊢
  have hc0 := htb.out.cell (i := 0) (by simp)
  have hc1 := htb.out.cell (i := 1) (by simp)
  simp only [List.getElem_cons_zero, List.getElem_cons_succ] at hc0 hc1
  rw [Hcn.out] at hc0
  rw [Hdn.out] at hc1
  go_loop [12, 13, 101] (fun u n i => u = .bool false ∧ ∃ k : Nat, i = .int .i64 (k : Int) ∧ ∃ x : Nat, n = .int .u64 (x : Int) ∧ Hid (parseAt cn dn k x)) (fun _ _ i => (2 - intOf i).toNat)
  case atStart => exact ⟨rfl, 0, rfl, 0, rfl, .inl ⟨rfl, rfl⟩⟩
  case round =>
    obtain ⟨rfl, k, rfl, x, rfl, hat⟩ := hrel
    by_cases hk2 : k = 2
    · subst hk2
      obtain ⟨h, _⟩ | ⟨h, _⟩ | ⟨_, y1, y2, e1, e2, e3⟩ := hat.out
      · omega
      · omega
      have Hv : Hid (hval2 cn dn = some x) := by show _ = _; unfold hval2; rw [e1, e2, e3]; rfl
      clear hat hc0 hc1 e1 e2 e3
      go_wp2_with fail
      go_ret2
      exact ⟨by rw [Hv.out]; rfl, Hbel.out⟩
    · have hstep : ∃ y : Nat, y < 256 ∧ w1.cell? ⟨w.heap.size, k, none⟩ = some (.int .u8 (y : Int)) ∧ x < 16 ∧ k < 2 ∧ (hval y = none → hval2 cn dn = none) ∧ (∀ z, hval y = some z → parseAt cn dn (k + 1) (16 * x + z)) := by
        obtain ⟨rfl, rfl⟩ | ⟨rfl, e⟩ | ⟨h, _⟩ := hat.out
        · exact ⟨cn, hcl, hc0, by omega, by omega, fun h => by unfold hval2; rw [h]; rfl, fun z h => .inr (.inl ⟨rfl, by rw [h]; simp⟩)⟩
        · exact ⟨dn, hdl, hc1, hval_lt e, by omega, fun h => by unfold hval2; rw [e, h]; rfl, fun z h => .inr (.inr ⟨rfl, x, z, e, h, rfl⟩)⟩
        · omega
      obtain ⟨y, hy, hcell, hx, hk, hnone, hsome⟩ := hstep
      have Hnone := Lib.hid hnone
      have Hsome := Lib.hid hsome
      have hk' : (k : Int) < 2 := by omega
      have Hlow := Lib.hid (fun W => lower_any y hy W)
      have hdc := digit_cases y hy
      have Hl95 : Hid (∀ W, Calls Tryd.prog 40 #[.int .u8 95] W fun e w' => e = .returned (.int .u8 127) ∧ W = w') := fun W => lower_any 95 (by omega) W
      have Hx := Lib.hid hx
      clear hat hc0 hc1 hnone hsome hk2 hx hy hcl hdl
      have Hk := Lib.hid hk
      clear hk
      obtain ⟨z, hz, hv, d1, d2, d3, d4⟩ | ⟨dl, m, hm, ⟨z, hz, hv, d1, d2, d3, d4⟩ | ⟨z, hz, hv, d1, d2, d3, d4⟩ | ⟨hv, dm⟩⟩ := hdc
      · have Hat := Lib.hid (Hsome.out z hv)
        obtain ⟨f1, q, Hq, p, f2, f3, f4, f5, f6, f7⟩ := parse_facts x z Hx.out hz
        rw [← Hq.out] at Hat
        clear hv Hnone Hsome hz Hl95
        go_wp2_with fail
        exact ⟨⟨rfl, k + 1, by go_num, q, rfl, Hat.out⟩, by have := Hk.out; simp [intOf]; omega⟩
      · have Hat := Lib.hid (Hsome.out z hv)
        obtain ⟨f1, q, Hq, p, f2, f3, f4, f5, f6, f7⟩ := parse_facts x z Hx.out hz
        rw [← Hq.out] at Hat
        rw [hm] at Hlow
        clear hv Hnone Hsome hz Hl95 hm
        rcases dl with dl | ⟨dl, dl2⟩
        all_goals
          go_wp2_with (go_at_call 40; refine (Hlow.out _).mono ?_; rintro e w' ⟨rfl, rfl⟩)
          exact ⟨⟨rfl, k + 1, by go_num, q, rfl, Hat.out⟩, by have := Hk.out; simp [intOf]; omega⟩
      · have Hn := Lib.hid (Hnone.out hv)
        have hge : decide ((16 : Int) ≤ (z : Int)) = true := by simp; omega
        rw [hm] at Hlow
        clear hv Hnone Hsome hz Hl95 hm
        rcases dl with dl | ⟨dl, dl2⟩
        all_goals
          go_wp2_with (go_at_call 40; refine (Hlow.out _).mono ?_; rintro e w' ⟨rfl, rfl⟩)
          go_ret2
          exact ⟨by rw [Hn.out]; rfl, Hbel.out⟩
      · have Hn := Lib.hid (Hnone.out hv)
        rw [hm] at Hlow
        clear hv Hnone Hsome hm
        rcases dl with dl | ⟨dl, dl2⟩ <;> rcases dm with dm | ⟨dm, dm2⟩
        all_goals
          go_wp2_with (first | (go_at_call 40; refine (Hlow.out _).mono ?_; rintro e w' ⟨rfl, rfl⟩) | (go_at_call 40; refine (Hl95.out _).mono ?_; rintro e w' ⟨rfl, rfl⟩))
          all_goals
            go_ret2
            exact ⟨by rw [Hn.out]; rfl, Hbel.out⟩
end Go.Proofs.YtncaaiaffioegaaDoor
