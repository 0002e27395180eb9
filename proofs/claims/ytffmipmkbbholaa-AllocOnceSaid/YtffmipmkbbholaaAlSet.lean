/-
  Set: units that are there get a state.
-/
import Derived.Test.YtffmipmkbbholaaAlTake
namespace Go.Proofs.Ytffmipmkbbholaa
open Go.RowKit Go.Maps

/-- THE SLICE AT A READS AS the units us, and lies below block B -/
def RU (w : World) (B : Nat) (A : Option Addr) (us : List (Int × Int)) : Prop :=
  ∀ k u, us[k]? = some u → ∃ b o, A = some ⟨b, o, none⟩ ∧ b < B ∧ w.cell? ⟨b, o + k * 2, none⟩ = some (.int .i64 u.1) ∧ w.cell? ⟨b, o + k * 2 + 1, none⟩ = some (.int .i64 u.2)
theorem RU.below {w w' : World} {B : Nat} {A : Option Addr} {us : List (Int × Int)} (h : RU w B A us) (hb : Below B w w') : RU w' B A us := fun k u hk => by
  obtain ⟨b, o, e, hlt, h0, h1⟩ := h k u hk
  exact ⟨b, o, e, hlt, (hb.cell hlt).trans h0, (hb.cell hlt).trans h1⟩
theorem RU.move {w w' : World} {B : Nat} {A : Option Addr} {us : List (Int × Int)} (h : RU w B A us) (hk : ∀ b o, A = some ⟨b, o, none⟩ → w'.heap[b]? = w.heap[b]?) : RU w' B A us := fun k u hk' => by
  obtain ⟨b, o, e, hlt, h0, h1⟩ := h k u hk'
  exact ⟨b, o, e, hlt, (World.cell?_of_block (hk b o e)).trans h0, (World.cell?_of_block (hk b o e)).trans h1⟩
/-- are all of them there? -/
def allUnits (D Z : Nat) (us : List (Int × Int)) : Bool := us.all fun u => isUnit D Z u.1 u.2
/-- all of them get a state -/
def setAll (g : St) (k : Nat) : List (Int × Int) → St
  | [] => g
  | u :: us => setAll (upd g u.1.toNat u.2.toNat k) k us
theorem setAll_snoc (k : Nat) (u : Int × Int) : ∀ (us : List (Int × Int)) (g : St), setAll g k (us ++ [u]) = upd (setAll g k us) u.1.toNat u.2.toNat k
  | [], _ => rfl
  | v :: us, g => setAll_snoc k u us _
def setG (g : St) (D Z : Nat) (x : Int) (us : List (Int × Int)) : St := if (0 ≤ x ∧ x ≤ 3) ∧ allUnits D Z us = true then setAll g x.toNat us else g
def setE (D Z : Nat) (x : Int) (us : List (Int × Int)) : Int := if (0 ≤ x ∧ x ≤ 3) ∧ allUnits D Z us = true then 0 else 1
section
variable {w w' : World} {tb db mb cap D Z : Nat} {g : St}
set_option maxRecDepth 20000
set_option maxHeartbeats 1600000
/-- the first that is not there -/
def idxU (D Z : Nat) (us : List (Int × Int)) : Int := match us.findIdx? (fun u => !isUnit D Z u.1 u.2) with | some i => (i : Int) | none => -1
theorem index_any (A : Option Addr) (c : Nat) (us : List (Int × Int)) (hl : us.length ≤ 1099511627776) (hr : RU w w.heap.size A us) (h : TabAt w tb db mb cap D Z g) :
    Calls Try.prog 52 #[.slice A us.length c, .func (.func 37) #[.pointer (some ⟨tb, 0, none⟩)] #[]] w fun e w' => ∃ i : Int, e = .returned (.int .i64 i) ∧ (i < 0 ↔ allUnits D Z us = true) ∧ Below w.heap.size w w' := by
  have H0 := Lib.hid h
  have Hr := Lib.hid hr
  have hl' : ((us.length : Nat) : Int) ≤ 1099511627776 := by omega
  have Hlen : Hid (∀ k : Nat, k < us.length → ∃ u, us[k]? = some u) := fun k hk => ⟨_, List.getElem?_eq_getElem hk⟩
  obtain ⟨n, hn⟩ : ∃ n, n = us.length := ⟨_, rfl⟩
  rw [← hn] at hl' Hlen ⊢
  have Hn := Lib.hid hn
  clear h hr hl hn
  go_enter Try.func52, Try.ntmps52
  go_wp2_with fail
  go_loopw [8] (fun iv wr => ∃ i : Nat, iv = .int .i64 (i : Int) ∧ i ≤ n ∧ Hid (allUnits D Z (us.take i) = true) ∧ Hid (Below w.heap.size w wr)) (fun iv _ => n - (intOf iv).toNat)
  case atStart => exact ⟨0, rfl, Nat.zero_le _, rfl, Below.refl _ _⟩
  case round =>
    obtain ⟨i, rfl, hi, hall, hb⟩ := hrel
    by_cases hlt : i < n
    · obtain ⟨u, hu⟩ := Hlen.out i hlt
      obtain ⟨b, o, rfl, hblt, c0, c1⟩ := (Hr.out.below hb.out) i u hu
      have hlt' : (i : Int) < (n : Int) := by omega
      have Hlk := Lib.hid (lacks_any u.1 u.2 (H0.out.below hb.out))
      unfold uV at Hlk
      have Hb2 : Hid (∀ w', (∃ q, w' = (wr.alloc (.cells #[.int .i64 u.1, .int .i64 u.2] 24)).drewN q) → Below w.heap.size w w') := by
        rintro w' ⟨q, rfl⟩
        exact drewN_below (hb.out.alloc hb.out.size _) q
      have Hall : Hid (isUnit D Z u.1 u.2 = true → allUnits D Z (us.take (i + 1)) = true) := fun hq => by
        rw [List.take_add_one, hu]
        unfold allUnits
        rw [List.all_append]
        have := hall.out
        unfold allUnits at this
        rw [this]
        simp [hq]
      have Hno : Hid (isUnit D Z u.1 u.2 = false → allUnits D Z us = false) := fun hq => by
        unfold allUnits
        rw [List.all_eq_false]
        exact ⟨u, List.mem_of_getElem? hu, by simp [hq]⟩
      generalize u.1 = x at *
      generalize u.2 = y at *
      clear hu hall hb hlt Hlen
      by_cases hq : isUnit D Z x y = true
      · rw [hq] at Hlk
        have Ha := Lib.hid (Hall.out hq)
        clear hq Hall Hno
        go_wp2_with fail
        refine Hlk.out.mono ?_
        rintro e w1 ⟨rfl, hw1⟩
        have Hb3 := Lib.hid (Hb2.out w1 hw1)
        clear hw1 Hb2 Hlk c0 c1
        go_wp2_with fail
        go_roundw
        case rel => exact ⟨i + 1, by go_num, by omega, Ha.out, Hb3.out⟩
        case measure => simp [intOf]; omega
      · rw [Bool.not_eq_true] at hq
        rw [hq] at Hlk
        have Ha := Lib.hid (Hno.out hq)
        clear hq Hall Hno
        go_wp2_with fail
        refine Hlk.out.mono ?_
        rintro e w1 ⟨rfl, hw1⟩
        have Hb3 := Lib.hid (Hb2.out w1 hw1)
        clear hw1 Hb2 Hlk c0 c1
        go_wp2_with fail
        go_ret
        exact ⟨i, rfl, ⟨fun q => by omega, fun q => by rw [Ha.out] at q; cases q⟩, Hb3.out⟩
    · obtain rfl : i = n := by omega
      have Ha : Hid (allUnits D Z us = true) := by
        have := hall.out
        rw [Hn.out, List.take_of_length_le (Nat.le_refl _)] at this
        exact this
      have Hb := hb
      clear hall hb hlt
      go_wp2_with fail
      go_ret
      exact ⟨-1, rfl, ⟨fun _ => Ha.out, fun _ => by omega⟩, Hb.out⟩
theorem contains_any (A : Option Addr) (c : Nat) (us : List (Int × Int)) (hl : us.length ≤ 1099511627776) (hr : RU w w.heap.size A us) (h : TabAt w tb db mb cap D Z g) :
    Calls Try.prog 36 #[.slice A us.length c, .func (.func 37) #[.pointer (some ⟨tb, 0, none⟩)] #[]] w fun e w' => e = .returned (.bool (!allUnits D Z us)) ∧ Below w.heap.size w w' := by
  have Hi := Lib.hid (index_any A c us hl hr h)
  clear hr h
  go_enter Try.func36, Try.ntmps36
  go_wp2_with fail
  refine Hi.out.mono ?_
  rintro e w1 ⟨i, rfl, hiff, hb⟩
  have Hb := Lib.hid hb
  cases hA : allUnits D Z us with
  | true =>
    have hi : i < 0 := hiff.2 hA
    have HA := Lib.hid hA
    clear hb hiff hA Hi
    go_wp2_with fail
    go_ret
    refine ⟨?_, Hb.out⟩
    show Ending.returned (.bool (decide (0 ≤ i))) = _
    rw [HA.out, decide_eq_false (by omega)]
    rfl
  | false =>
    have hi : ¬ i < 0 := fun q => by rw [hiff.1 q] at hA; cases hA
    have HA := Lib.hid hA
    clear hb hiff hA Hi
    go_wp2_with fail
    go_ret
    refine ⟨?_, Hb.out⟩
    rw [HA.out]
    rfl
theorem set_any (x : Int) (A : Option Addr) (c : Nat) (us : List (Int × Int)) (hl : us.length ≤ 1099511627776) (hr : RU w w.heap.size A us) (hA : ∀ b o, A = some ⟨b, o, none⟩ → us ≠ [] → b ≠ db ∧ b ≠ mb) (h : TabAt w tb db mb cap D Z g) :
    Calls Try.prog 15 #[.pointer (some ⟨tb, 0, none⟩), .int .i64 x, .slice A us.length c] w fun e w' => e = .returned (.int .i64 (setE D Z x us)) ∧ TabAt w' tb db mb cap D Z (setG g D Z x us) ∧ Kept (fun y => y ≠ db ∧ y ≠ mb) w w' := by
  have Hs := Lib.hid (isState_any x w)
  have Hc := Lib.hid (contains_any A c us hl hr h)
  have H0 := Lib.hid h
  by_cases hx : 0 ≤ x ∧ x ≤ 3
  case neg =>
    rw [decide_eq_false hx] at Hs
    rw [show setE D Z x us = 1 from if_neg (fun q => hx q.1), show setG g D Z x us = g from if_neg (fun q => hx q.1)]
    clear hr h hx Hc
    go_enter Try.func15, Try.ntmps15
    go_wp2_with fail
    refine Hs.out.mono ?_
    rintro e w1 ⟨rfl, rfl⟩
    go_wp2_with fail
    go_ret
    exact ⟨rfl, H0.out, Kept.refl _ _⟩
  rw [decide_eq_true hx] at Hs
  by_cases ha : allUnits D Z us = true
  case neg =>
    rw [show setE D Z x us = 1 from if_neg (fun q => ha q.2), show setG g D Z x us = g from if_neg (fun q => ha q.2)]
    rw [Bool.not_eq_true] at ha
    rw [ha] at Hc
    clear hr h hx
    go_enter Try.func15, Try.ntmps15
    go_wp2_with fail
    refine Hs.out.mono ?_
    rintro e w1 ⟨rfl, rfl⟩
    go_wp2_with fail
    refine Hc.out.mono ?_
    rintro e w2 ⟨rfl, hb⟩
    have Hb := Lib.hid hb
    clear hb Hs Hc
    go_wp2_with fail
    go_ret
    exact ⟨rfl, H0.out.below Hb.out, (Kept.refl _ w1).below Hb.out⟩
  obtain ⟨k, rfl⟩ : ∃ k : Nat, x = (k : Int) := ⟨x.toNat, by omega⟩
  have hk : k < 4 := by omega
  rw [show setE D Z k us = 0 from if_pos ⟨hx, ha⟩, show setG g D Z k us = setAll g k us from by unfold setG; rw [if_pos ⟨hx, ha⟩]; simp]
  rw [ha] at Hc
  have Hr := Lib.hid hr
  have HA := Lib.hid hA
  have hl' : ((us.length : Nat) : Int) ≤ 1099511627776 := by omega
  have Hall : Hid (∀ (i : Nat) u, us[i]? = some u → ∃ d z : Nat, u = ((d : Int), (z : Int)) ∧ d < D ∧ z < Z) := by
    intro i u hu
    have := List.all_eq_true.1 ha u (List.mem_of_getElem? hu)
    have hq := of_decide_eq_true this
    exact ⟨u.1.toNat, u.2.toNat, by ext <;> simp <;> omega, by omega, by omega⟩
  have Hlen : Hid (∀ k : Nat, k < us.length → ∃ u, us[k]? = some u) := fun k hk => ⟨_, List.getElem?_eq_getElem hk⟩
  obtain ⟨n, hn⟩ : ∃ n, n = us.length := ⟨_, rfl⟩
  rw [← hn] at hl' Hlen Hc ⊢
  have Hn := Lib.hid hn
  clear h hr hl hn hA ha hx
  go_enter Try.func15, Try.ntmps15
  go_wp2_with fail
  refine Hs.out.mono ?_
  rintro e w1 ⟨rfl, rfl⟩
  go_wp2_with fail
  refine Hc.out.mono ?_
  rintro e w2 ⟨rfl, hb⟩
  have H2 := Lib.hid (H0.out.below hb)
  have Hk2 : Hid (Kept (fun y => y ≠ db ∧ y ≠ mb) w1 w2) := (Kept.refl _ w1).below hb
  clear hb Hs Hc
  go_wp2_with fail
  go_loopw [20] (fun iv wr => ∃ i : Nat, iv = .int .i64 (i : Int) ∧ i ≤ n ∧ Hid (TabAt wr tb db mb cap D Z (setAll g k (us.take i))) ∧ Hid (Kept (fun y => y ≠ db ∧ y ≠ mb) w1 wr)) (fun iv _ => n - (intOf iv).toNat)
  case atStart => exact ⟨0, rfl, Nat.zero_le _, H2.out, Hk2.out⟩
  case round =>
    obtain ⟨i, rfl, hi, ht, hkp⟩ := hrel
    by_cases hlt : i < n
    · obtain ⟨u, hu⟩ := Hlen.out i hlt
      obtain ⟨d, z, rfl, hd, hz⟩ := Hall.out i u hu
      obtain ⟨b, o, rfl, hblt, c0, c1⟩ := (Hr.out.move (w' := wr) (fun b o e => hkp.out.block b (by
        obtain ⟨b', o', e', hlt', _⟩ := Hr.out i _ hu
        rw [e'] at e; cases e; exact hlt') (HA.out b o e (by intro q; rw [q] at hu; simp at hu)))) i _ hu
      simp only [] at c0 c1
      have hlt' : (i : Int) < (n : Int) := by omega
      have Hput := Lib.hid fun o => put_any d z k hd hz hk (ht.out.alloc o)
      unfold uV at Hput
      have Hnx : Hid (upd (setAll g k (us.take i)) d z k = setAll g k (us.take (i + 1))) := by
        rw [List.take_add_one, hu]
        show _ = setAll g k (us.take i ++ [((d : Int), (z : Int))])
        rw [setAll_snoc]
        simp
      clear hu hlt Hlen ht
      go_wp2_with fail
      refine (Hput.out _).mono ?_
      rintro e w3 ⟨rfl, h3⟩
      have H3 : Hid (TabAt w3 tb db mb cap D Z (setAll g k (us.take (i + 1))) ∧ Kept (fun y => y ≠ db ∧ y ≠ mb) w1 w3) := ⟨Hnx.out ▸ h3.1, (hkp.out.alloc _).trans h3.2⟩
      clear h3 hkp Hput c0 c1
      go_wp2_with fail
      go_roundw
      case rel => exact ⟨i + 1, by go_num, by omega, H3.out.1, H3.out.2⟩
      case measure => simp [intOf]; omega
    · obtain rfl : i = n := by omega
      have Hfin : Hid (TabAt wr tb db mb cap D Z (setAll g k us) ∧ Kept (fun y => y ≠ db ∧ y ≠ mb) w1 wr) := by
        have := ht.out
        rw [Hn.out, List.take_of_length_le (Nat.le_refl _)] at this
        exact ⟨this, hkp.out⟩
      clear ht hkp hlt
      go_wp2_with fail
      go_ret
      exact ⟨rfl, Hfin.out⟩
end
end Go.Proofs.Ytffmipmkbbholaa
