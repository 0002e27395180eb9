/-
  What NvlogForged needs besides: the power, the image, the sums.
-/
import Derived.Test.YtkjogkmdldplgaaDoorLgKnown
import Derived.Test.YtkjogkmdldplgaaDoorLgAppCut
import Derived.Test.YtkjogkmdldplgaaDoorLgRM
import Derived.BigQuiet
import Derived.Deep.QuietTactic
namespace Go.Proofs.YtkjogkmdldplgaaDoor
open Go.RowKit

section
variable {w : World} {M : Nat → Prop} {pw nv lb N n : Nat} {P P' : Pow} {b : Bd} {rs : List (List UInt8)}
theorem LG.power (h : LG w M pw nv lb P N b rs) {f : FuncId} {args : Array Value} {v : Value} (hc : ∀ O m, SysAt w O pw P nv ⟨m, [], 0⟩ → Calls Tryd.prog f args w (SysPost w O pw P' nv ⟨m, [], 0⟩ v)) :
    Calls Tryd.prog f args w fun e w' => e = .returned v ∧ ∃ M', LG w' M' pw nv lb P' N b rs ∧ ExtM w M w' M' := by
  obtain ⟨O, m, h1, h2, h3, h4, h5, h6⟩ := h
  refine (hc O m h1).mono ?_
  rintro e w' ⟨O', he, s1, s2⟩
  exact ⟨he, LG.of_ext h3 h6 h2 s2.toL s1 (h3.move (s2.1.block lb h3.lt h2)) h4 h5⟩
theorem LG.arm (h : LG w M pw nv lb (Pk n) N b rs) (A : Option Addr) (c : Nat) (k : Int) (hr : RI w w.heap.size A [k]) :
    Calls Tryd.prog 15 #[.pointer (some ⟨pw, 0, none⟩), .int .i64 1, .slice A 1 c] w fun e w' => e = .returned (.tuple #[]) ∧ ∃ M', LG w' M' pw nv lb (PArm n [k]) N b rs ∧ ExtM w M w' M' :=
  h.power fun O m hs => arm_any pw (Pk n) nv _ O 1 A c [k] w hs hr (by simp)
theorem LG.on (h : LG w M pw nv lb (POff n) N b rs) :
    Calls Tryd.prog 16 #[.pointer (some ⟨pw, 0, none⟩)] w fun e w' => e = .returned (.tuple #[]) ∧ ∃ M', LG w' M' pw nv lb (Pk n) N b rs ∧ ExtM w M w' M' :=
  h.power fun O m hs => sysOn hs
theorem LG.image (h : LG w M pw nv lb (Pk n) N b rs) :
    Calls Tryd.prog 14 #[.pointer (some ⟨nv, 0, none⟩), .int .i64 0, .int .i64 (N : Int)] w fun e w' => ∃ A c im, e = .returned (.tuple #[.slice A N c, .int .i64 0]) ∧ im.length = N ∧ RB w' w'.heap.size A im ∧ Below w.heap.size w w' := by
  obtain ⟨O, m, h1, h2, h3, h4, h5, h6⟩ := h
  refine (read_ok pw nv (Pk n) ⟨m, [], 0⟩ O 0 N w h1 rfl (by show 0 + N ≤ m.length; omega)).mono ?_
  rintro e w' ⟨A, c, he, hr, _, _, hb⟩
  exact ⟨A, c, m, he, h4, by rw [List.drop_zero, List.take_of_length_le (by show m.length ≤ N; omega)] at hr; exact hr, hb⟩
end

def tot (ls : List (List UInt8)) : Nat := (ls.map List.length).sum
theorem tot_nil : tot [] = 0 := rfl
theorem tot_append (a b : List (List UInt8)) : tot (a ++ b) = tot a + tot b := by
  unfold tot
  rw [List.map_append, List.sum_append]
theorem tot_cons (x : List UInt8) (ls : List (List UInt8)) : tot (x :: ls) = x.length + tot ls := by
  unfold tot
  rw [List.map_cons, List.sum_cons]
theorem tot_take (ls : List (List UInt8)) (k : Nat) (h : k < ls.length) : tot (ls.take (k + 1)) = tot (ls.take k) + ls[k].length := by
  rw [List.take_succ_eq_append_getElem h, tot_append, tot_cons, tot_nil, Nat.add_zero]
theorem tot_take_le (ls : List (List UInt8)) (k : Nat) : tot (ls.take k) ≤ tot ls := by
  have h := tot_append (ls.take k) (ls.drop k)
  rw [List.take_append_drop] at h
  omega
theorem tot_bound (B : Nat) : ∀ ls : List (List UInt8), (∀ (k : Nat) (l : List UInt8), ls[k]? = some l → l.length ≤ B) → tot ls ≤ ls.length * B
  | [], _ => Nat.zero_le _
  | x :: ls, h => by
    have h1 := tot_bound B ls (fun k l hk => h (k + 1) l hk)
    have h2 := h 0 x rfl
    rw [tot_cons, List.length_cons, Nat.add_mul]
    omega
/-- how much of a ring records take -/
theorem enc_tot : ∀ ls : List (List UInt8), (∀ l ∈ ls, l.length ≤ 16000) → (enc ls).length ≤ tot ls + 2 * ls.length
  | [], _ => Nat.zero_le _
  | x :: ls, h => by
    have h1 := enc_tot ls (fun l hl => h l (by simp [hl]))
    have h2 : (numBytes x.length).length ≤ 2 := numBytes_len 1 x.length (by have := h x (by simp); have h128 : 128 ^ 2 = 16384 := (by decide); omega)
    rw [enc_cons, List.length_append, encR_length]
    rw [tot_cons, List.length_cons]
    omega
/-- the first log, k records having been appended -/
structure ForgeSt (W w : World) (pw nv lb : Nat) (ls : List (List UInt8)) (k : Nat) (M : Nat → Prop) (nn : Nat) (b : Bd) : Prop where
  lg : LG w M pw nv lb (Pk nn) 4096 b (ls.take k)
  fr : Fresh W w M
  next : b.next ≤ k + 1
  writes : nn ≤ 4 + 10 * k + tot (ls.take k)
theorem ForgeSt.app {W0 W w : World} {pw nv lb k nn : Nat} {ls : List (List UInt8)} {M : Nat → Prop} {b : Bd} (h : ForgeSt W w pw nv lb ls k M nn b) (hk : k < ls.length) (hT : tot ls ≤ 2000) (hn : ls.length ≤ 20)
    {A : Option Addr} {c : Nat} (hr : RB W0 W0.heap.size A ls[k]) (hc : ls[k].length ≤ c) (hb0 : Below W0.heap.size W0 W) :
    Calls Tryd.prog 12 #[.pointer (some ⟨lb, 0, none⟩), .slice A ls[k].length c] w fun e w' => ∃ v, e = .returned v ∧ ∃ M' nn' b', ForgeSt W w' pw nv lb ls (k + 1) M' nn' b' := by
  have h1 := tot_take ls k hk
  have h2 := tot_take_le ls (k + 1)
  have hbw : Below W0.heap.size W0 w := hb0.trans (h.fr.2.mono hb0.size)
  obtain ⟨O, m, _, _, _, hm, hh, _⟩ := h.lg
  have hus := hh.used_eq
  have hen := enc_tot (ls.take k) (fun l hl => by
    obtain ⟨j, hj⟩ := List.getElem?_of_mem hl
    have hjl : j < (ls.take k).length := (List.getElem?_eq_some_iff.1 hj).1
    have hjk : j < ls.length := by simp at hjl; omega
    have e : l = ls[j] := by
      rw [List.getElem?_take] at hj
      split at hj
      · rw [List.getElem?_eq_getElem hjk] at hj; exact (Option.some.inj hj).symm
      · cases hj
    have := tot_take ls j hjk
    have := tot_take_le ls (j + 1)
    rw [e]
    omega)
  rw [List.length_take] at hen
  refine (h.lg.append (l := ls[k]) (c := c) ((hr.below hbw).wide hbw.size) (fun hne ad e q => ?_) hc (by omega) ?_ (by have := h.next; omega) (by have := h.writes; omega)).mono ?_
  · obtain ⟨ad', e', hlt, _⟩ := hr 0 _ (List.getElem?_eq_getElem (List.length_pos_iff.2 hne))
    rw [e] at e'
    cases e'
    exact h.fr.1 _ (Nat.lt_of_lt_of_le hlt hb0.size) q
  · unfold roomV
    omega
  · rintro e w' ⟨he, M', n', hn', q1, q2⟩
    rw [← List.take_succ_eq_append_getElem hk] at q1
    exact ⟨_, he, M', n', _, q1, h.fr.step q2, by show b.next + 1 ≤ _; have := h.next; omega, by rw [h1]; have := h.writes; omega⟩
/-- a record in a slice that the caller made just now -/
theorem LG.append_own {w w9 : World} {M : Nat → Prop} {pw nv lb N n L : Nat} {b : Bd} {rs : List (List UInt8)} {A : Option Addr} {c : Nat} {l : List UInt8} (h : LG w M pw nv lb (Pk n) N b rs) (hb : Below w.heap.size w w9) (ho : Own w9 w.heap.size (.slice A l.length c) l) (hL : L = l.length) (hl6 : l.length ≤ 65536) (hl : (l.length : Int) ≤ roomV (N - 57) b.used) (hnx : b.next ≤ 1000000) (hn : n ≤ 100000) :
    Calls Tryd.prog 12 #[.pointer (some ⟨lb, 0, none⟩), .slice A L c] w9 fun e w' => e = .returned (.tuple #[.int .u64 (b.next : Int), .int .i64 0]) ∧ ∃ M' n', n' ≤ n + 65544 ∧ LG w' M' pw nv lb (Pk n') N (longerB b (encR l).length) (rs ++ [l]) ∧ ExtM w M w' M' := by
  subst hL
  obtain ⟨A', c', hv, hc, hr, _⟩ := ho.rb
  cases hv
  refine ((h.below hb).append hr (fun _ ad e q => ?_) hc hl6 hl (by omega) (by omega)).mono ?_
  · have h1 := ho.lt ad.block (by rw [e]; rfl)
    have h2 := h.fresh _ q
    omega
  · rintro e w' ⟨he, M', n', hn', q1, q2⟩
    exact ⟨he, M', n', by omega, q1, (ExtM.below hb).trans q2⟩
theorem LG.append_own_cut {w w9 : World} {M : Nat → Prop} {pw nv lb N n L : Nat} {picks : List Int} {b : Bd} {rs : List (List UInt8)} {A : Option Addr} {c : Nat} {l : List UInt8} (h : LG w M pw nv lb (PArm n picks) N b rs) (hb : Below w.heap.size w w9) (ho : Own w9 w.heap.size (.slice A l.length c) l) (hL : L = l.length) (hl6 : l.length ≤ 65536) (hl : (l.length : Int) ≤ roomV (N - 57) b.used) (hn : n ≤ 900000) (hg : ErrType w) (hM0 : ¬ M 0) :
    Calls Tryd.prog 12 #[.pointer (some ⟨lb, 0, none⟩), .slice A L c] w9 fun e w' => e = .returned (.tuple #[.int .u64 0, .int .i64 8]) ∧ ∃ M', LG w' M' pw nv lb (POff n) N b rs ∧ ExtM w M w' M' := by
  subst hL
  obtain ⟨A', c', hv, hc, hr, _⟩ := ho.rb
  cases hv
  have hglt : 0 < w.heap.size := World.block_lt_of_cell? w ⟨0, 0, none⟩ hg
  have hg9 : ErrType w9 := (World.cell?_of_block (w := w) (hb.block _ hglt)).trans hg
  refine ((h.below hb).append_cut hr (fun _ ad e q => ?_) hc hl6 hl hn hg9 hM0).mono ?_
  · have h1 := ho.lt ad.block (by rw [e]; rfl)
    have h2 := h.fresh _ q
    omega
  · rintro e w' ⟨he, M', q1, q2⟩
    exact ⟨he, M', q1, (ExtM.below hb).trans q2⟩
theorem roomV_of {u : Nat} {x : Nat} (h : x + u ≤ 19939) : (x : Int) ≤ roomV 19943 u := by
  unfold roomV
  omega
end Go.Proofs.YtkjogkmdldplgaaDoor

/-
  NvlogForged, walked.
-/
namespace Go.Proofs.YtkjogkmdldplgaaDoor
open Go.RowKit

section
set_option maxRecDepth 20000
set_option maxHeartbeats 8000000
theorem forged_any (A0 A1 A2 : Option Addr) (c0 c1 c2 : Nat) (ls : List (List UInt8)) (l1 l2 : List UInt8) (kp : Int) (W : World) (hg : ErrType W) (h0 : RM W W.heap.size A0 ls) (h1 : RB W W.heap.size A1 l1) (h2 : RB W W.heap.size A2 l2) (hc1 : l1.length ≤ c1) (hc2 : l2.length ≤ c2)
    (b0 : ls.length ≤ 1048576) (b0' : ∀ (k : Nat) (l : List UInt8), ls[k]? = some l → l.length ≤ 1048576) (b1 : l1.length ≤ 1048576) (b2 : l2.length ≤ 1048576) :
    Calls Tryd.prog 4 #[.slice A0 ls.length c0, .slice A1 l1.length c1, .slice A2 l2.length c2, .int .i64 kp] W fun e w' => e = .returned (.bool true) ∧ Below W.heap.size W w' := by
  have Hk := Lib.hid (known_any W)
  have H0 := Lib.hid h0
  have H1 := Lib.hid h1
  have H2 := Lib.hid h2
  have Hg := Lib.hid hg
  have Htb := Lib.hid (tot_bound 1048576 ls b0')
  have Hb := Lib.hid (And.intro b0 (And.intro b1 b2))
  have Hcc := Lib.hid (And.intro hc1 hc2)
  obtain ⟨n1, hn1⟩ : ∃ n1, n1 = l1.length := ⟨_, rfl⟩
  obtain ⟨n2, hn2⟩ : ∃ n2, n2 = l2.length := ⟨_, rfl⟩
  obtain ⟨n0, hn0⟩ : ∃ n0, n0 = ls.length := ⟨_, rfl⟩
  have i0 : (n0 : Int) ≤ 1048576 := by omega
  have i1 : (n1 : Int) ≤ 1048576 := by omega
  have i2 : (n2 : Int) ≤ 1048576 := by omega
  rw [← hn0, ← hn1, ← hn2]
  have HN : Hid (n0 = ls.length ∧ n1 = l1.length ∧ n2 = l2.length) := ⟨hn0, hn1, hn2⟩
  clear hn0 hn1 hn2 h0 h1 h2 hg b0 b0' b1 b2 hc1 hc2
  go_enter Tryd.func4, Tryd.ntmps4
  go_wp2_with fail
  refine Hk.out.mono ?_
  rintro e w0 ⟨rfl, hb0⟩
  have Hb0 := Lib.hid hb0
  have Hrow : Hid (∀ k, (hk : k < ls.length) → ∃ b o A' c', A0 = some ⟨b, o, none⟩ ∧ RB W W.heap.size A' ls[k] ∧ ls[k].length ≤ c' ∧ ∀ w', Below W.heap.size W w' → w'.cell? ⟨b, o + k, none⟩ = some (.slice A' ls[k].length c')) := fun k hk => by
    obtain ⟨b, o, A', c', e, hlt, hc, hr, hcap⟩ := H0.out k _ (List.getElem?_eq_getElem hk)
    exact ⟨b, o, A', c', e, hr, hcap, fun w' hw => (hw.cell (p := ⟨b, o + k, none⟩) hlt).trans hc⟩
  clear hb0 Hk H0
  go_wp2_with fail
  go_loop [9, 10] (fun nv iv => ∃ k t : Nat, nv = .int .i64 (t : Int) ∧ iv = .int .i64 (k : Int) ∧ k ≤ n0 ∧ Hid (t = n1 + n2 + tot (ls.take k))) (fun _ iv => n0 - (intOf iv).toNat)
  case atStart => exact ⟨0, n1 + n2, by go_num, rfl, Nat.zero_le _, by show _ = _; rw [List.take_zero, tot_nil, Nat.add_zero]⟩
  case round =>
    obtain ⟨k, t, rfl, rfl, hk, ht⟩ := hrel
    have htle : (t : Int) ≤ 1099514707968 := by
      have h1 := tot_take_le ls k
      have h2 := Htb.out
      have h3 := Hb.out
      have h4 := ht.out
      have h5 := HN.out
      have h6 : ls.length * 1048576 ≤ 1048576 * 1048576 := Nat.mul_le_mul_right _ h3.1
      omega
    by_cases hkn : k < n0
    · have hkl : k < ls.length := by have := HN.out.1; omega
      obtain ⟨b, o, A', c', rfl, _, _, hcell⟩ := Hrow.out k hkl
      have cc := hcell w0 Hb0.out
      have hkn' : (k : Int) < (n0 : Int) := by omega
      have Hnx : Hid (t + ls[k].length = n1 + n2 + tot (ls.take (k + 1))) := by
        show _ = _
        rw [tot_take ls k hkl, ht.out, Nat.add_assoc]
      have hxl : (ls[k].length : Int) ≤ 1099514707968 := by
        have h1 := tot_take ls k hkl
        have h2 := tot_take_le ls (k + 1)
        have h3 := Htb.out
        have h4 : ls.length * 1048576 ≤ 1048576 * 1048576 := Nat.mul_le_mul_right _ Hb.out.1
        omega
      generalize ls[k].length = x at *
      clear hcell
      go_wp2_with fail
      exact ⟨⟨k + 1, t + x, by go_num, by go_num, by omega, Hnx.out⟩, by simp [intOf]; omega⟩
    · obtain rfl : k = n0 := by omega
      have HT : Hid (t = n1 + n2 + tot ls) := by
        show _ = _
        have := ht.out
        rw [HN.out.1, List.take_length] at this
        rw [this]
      clear ht hkn hk
      by_cases hT : 2000 < t
      · have hT' : (2000 : Int) < (t : Int) := by omega
        clear hT
        go_wp2_with fail
        go_ret
        exact ⟨rfl, Hb0.out⟩
      by_cases hK : 20 < k
      · have hK' : (20 : Int) < (k : Int) := by omega
        have hT' : (t : Int) ≤ 2000 := by omega
        clear hT hK
        go_wp2_with fail
        go_ret
        exact ⟨rfl, Hb0.out⟩
      have d1 : decide ((2000 : Int) < (t : Int)) = false := by simp; omega
      have d2 : decide ((20 : Int) < (k : Int)) = false := by simp; omega
      have HTK : Hid (tot ls ≤ 2000 ∧ ls.length ≤ 20 ∧ l1.length ≤ 2000 ∧ l2.length ≤ 2000) := by
        have h1 := HT.out
        have h2 := HN.out
        show _ ∧ _
        omega
      clear hT hK htle HT
      go_wp2_with fail
      clear d1 d2
      refine (newPower_any w0).mono ?_
      rintro e w1 ⟨rfl, hp1, hb1⟩
      have Hn : Hid (Calls Tryd.prog 6 #[.pointer (some ⟨w0.heap.size, 0, none⟩), .int .i64 4096] w1 _) := begin_dev w0 w1 4096 hp1 hb1 (by decide) (by decide)
      clear hp1 hb1
      go_wp2_with fail
      refine Hn.out.mono ?_
      rintro e w2 ⟨O, nv, rfl, s1, s2, s3⟩
      have Hf := Lib.hid (begin_log w0 w2 4096 nv O s1 s2 s3 (by decide))
      clear s1 s2 s3 Hn
      go_wp2_with fail
      refine Hf.out.mono ?_
      rintro e w3 ⟨lb, rfl, M3, l3, f3⟩
      clear Hf
      have H3 : Hid (∃ M nn b, ForgeSt w0 w3 w0.heap.size nv lb ls 0 M nn b) := ⟨M3, 4, _, by rw [List.take_zero]; exact l3, f3, Nat.le_refl _, by omega⟩
      clear l3 f3
      go_wp2_with fail
      go_loopw [15] (fun iv wr => ∃ k2 : Nat, iv = .int .i64 (k2 : Int) ∧ k2 ≤ k ∧ Hid (∃ M nn b, ForgeSt w0 wr w0.heap.size nv lb ls k2 M nn b)) (fun iv _ => k - (intOf iv).toNat)
      case atStart => exact ⟨0, rfl, Nat.zero_le _, H3.out⟩
      case round =>
        obtain ⟨k2, rfl, hk2, hst⟩ := hrel
        by_cases hkn : k2 < k
        · have hkl : k2 < ls.length := by have := HN.out.1; omega
          obtain ⟨b, o, A', c', rfl, hr, hcap, hcell⟩ := Hrow.out k2 hkl
          have hkn' : (k2 : Int) < (k : Int) := by omega
          have Hap : Hid (wr.cell? ⟨b, o + k2, none⟩ = some (.slice A' ls[k2].length c') ∧ Calls Tryd.prog 12 #[.pointer (some ⟨lb, 0, none⟩), .slice A' ls[k2].length c'] wr fun e w' => ∃ v, e = .returned v ∧ ∃ M' nn' b', ForgeSt w0 w' w0.heap.size nv lb ls (k2 + 1) M' nn' b') := by
            obtain ⟨M, nn, bb, hs⟩ := hst.out
            exact ⟨hcell wr (Hb0.out.trans (hs.fr.2.mono Hb0.out.size)), hs.app hkl HTK.out.1 HTK.out.2.1 hr hcap Hb0.out⟩
          have cc := Hap.out.1
          clear hr hcap hcell hst
          generalize ls[k2].length = x at *
          go_wp2_with fail
          refine Hap.out.2.mono ?_
          rintro e w4 ⟨v, rfl, h4⟩
          have H4 := Lib.hid h4
          clear h4 cc
          go_wp2_with fail
          go_roundw
          case rel => exact ⟨k2 + 1, by go_num, by omega, H4.out⟩
          case measure => simp [intOf]; omega
        · obtain rfl : k2 = k := by omega
          obtain ⟨wa, rfl⟩ : ∃ wa : World, wa = wr := ⟨_, rfl⟩
          have HI : Hid (Below W.heap.size W wa ∧ Calls Tryd.prog 14 #[.pointer (some ⟨nv, 0, none⟩), .int .i64 0, .int .i64 4096] wa fun e w' => ∃ A c im, e = .returned (.tuple #[.slice A 4096 c, .int .i64 0]) ∧ im.length = 4096 ∧ RB w' w'.heap.size A im ∧ Below wa.heap.size wa w') := by
            obtain ⟨M, nn, bb, hs⟩ := hst.out
            exact ⟨Hb0.out.trans (hs.fr.2.mono Hb0.out.size), hs.lg.image⟩
          clear hst hkn hk2 H3 Hrow
          go_wp2_with fail
          refine HI.out.2.mono ?_
          rintro e w4 ⟨A4, c4, im, rfl, him, hrim, hb4⟩
          have Hw4 : Hid (Below W.heap.size W w4) := HI.out.1.trans (hb4.mono HI.out.1.size)
          have Him := Lib.hid (And.intro him hrim)
          clear HI him hrim hb4
          go_wp2_with fail
          refine (newPower_any w4).mono ?_
          rintro e w5 ⟨rfl, hp5, hb5⟩
          have Hn : Hid (Calls Tryd.prog 6 #[.pointer (some ⟨w4.heap.size, 0, none⟩), .int .i64 20000] w5 _) := begin_dev w4 w5 20000 hp5 hb5 (by decide) (by decide)
          clear hp5 hb5
          go_wp2_with fail
          refine Hn.out.mono ?_
          rintro e w6 ⟨O6, nw, rfl, s1, s2, s3⟩
          have Hf := Lib.hid (begin_log w4 w6 20000 nw O6 s1 s2 s3 (by decide))
          clear s1 s2 s3 Hn
          go_wp2_with fail
          refine Hf.out.mono ?_
          rintro e w7 ⟨lc, rfl, M7, l7, f7⟩
          have H7 := Lib.hid (And.intro l7 f7)
          clear Hf l7 f7
          have Hrl : Hid (∀ w', Below w4.heap.size w4 w' → RB w' w'.heap.size A1 l1 ∧ RB w' w'.heap.size A2 l2 ∧ RB w' w'.heap.size A4 im) := fun w' hb => by
            have hW := Hw4.out.trans (hb.mono Hw4.out.size)
            exact ⟨(H1.out.below hW).wide hW.size, (H2.out.below hW).wide hW.size, (Him.out.2.below hb).wide hb.size⟩
          have Hlen : Hid (([] : List UInt8).length + l1.length ≤ 140737488355327 ∧ l1.length + im.length ≤ 140737488355327 ∧ ([] : List UInt8).length + im.length ≤ 140737488355327 ∧ im.length + l1.length ≤ 140737488355327) := by
            have h1 := HTK.out
            have h2 := Him.out.1
            simp only [List.length_nil]
            show _ ∧ _
            omega
          have Hmade : Hid (∀ w' : World, Own (w'.alloc (.cells #[] 5)) w'.heap.size (.slice (some ⟨w'.heap.size, 0, none⟩) 0 0) [] ∧ w'.heap.size ≤ (w'.alloc (.cells #[] 5)).heap.size ∧ (∀ w0', Below w0'.heap.size w0' w' → Below w0'.heap.size w0' (w'.alloc (.cells #[] 5)))) := fun w' => ⟨Own.made _ _ (Nat.le_refl _), by simp, fun w0' h => h.alloc h.size _⟩
          go_wp2_with (first
            | (at_builtin; refine app_bytes rfl (.tmp 106) (.tmp 107) rfl w7.heap.size _ [] rfl (Hmade.out w7).1 _ A1 n1 c1 l1 rfl HN.out.2.1 (Hrl.out _ ((Hmade.out w7).2.2 _ H7.out.2.2)).1 Hlen.out.1 (Hmade.out w7).2.1 ?_; intro v8 w8 hown8 hbel8 _; have Hbel8 := Lib.hid (Below.trans ((Below.refl w7.heap.size w7).alloc (Nat.le_refl _) (.cells #[] 5)) hbel8); have Hown8 : Hid (Own w8 w7.heap.size v8 l1) := hown8; obtain ⟨A8, c8, rfl, _, _, _⟩ := Hown8.out.rb; clear hown8 hbel8)
            | (at_builtin; refine app_bytes rfl (.tmp 108) (.tmp 109) rfl w7.heap.size _ l1 rfl Hown8.out _ A4 4096 c4 im rfl Him.out.1.symm (Hrl.out _ (H7.out.2.2.trans (Hbel8.out.mono H7.out.2.2.size))).2.2 Hlen.out.2.1 Hbel8.out.size ?_; intro v9 w9 hown9 hbel9 _; have Hbel9 := Lib.hid (Hbel8.out.trans hbel9); have Hown9 := Lib.hid hown9; obtain ⟨A9, c9, rfl, _, _, _⟩ := Hown9.out.rb; clear hown9 hbel9))
          have HA1 : Hid (Calls Tryd.prog 12 #[.pointer (some ⟨lc, 0, none⟩), .slice A9 (l1.length + im.length) c9] w9 fun e w' => e = .returned (.tuple #[.int .u64 1, .int .i64 0]) ∧ ∃ M' n', n' ≤ 4 + 65544 ∧ LG w' M' w4.heap.size nw lc (Pk n') 20000 (longerB ⟨1, 1, 0, 0⟩ (encR (l1 ++ im)).length) ([] ++ [l1 ++ im]) ∧ ExtM w7 M7 w' M') := by
            have h1 := HTK.out
            have h2 := Him.out.1
            exact H7.out.1.append_own Hbel9.out Hown9.out List.length_append.symm (by rw [List.length_append]; omega) (roomV_of (by rw [List.length_append]; show _ + 0 ≤ _; omega)) (by decide) (by decide)
          refine HA1.out.mono ?_
          rintro e w10 ⟨rfl, M10, n10, hn10, l10, x10⟩
          have H10 : Hid (n10 ≤ 65548 ∧ LG w10 M10 w4.heap.size nw lc (Pk n10) 20000 (longerB ⟨1, 1, 0, 0⟩ (encR (l1 ++ im)).length) ((l1 ++ im) :: []) ∧ Fresh w4 w10 M10) := ⟨hn10, l10, H7.out.2.step x10⟩
          clear hn10 l10 x10 HA1 Hown9 Hbel9 Hown8 Hbel8 H7
          go_wp2_with fail
          have HT1 : Hid (Calls Tryd.prog 11 #[.pointer (some ⟨lc, 0, none⟩), .int .u64 1] w10 fun e w' => e = .returned (.int .i64 0) ∧ ∃ M', LG w' M' w4.heap.size nw lc (Pk (n10 + 4)) 20000 (shorterB (longerB ⟨1, 1, 0, 0⟩ (encR (l1 ++ im)).length) (encR (l1 ++ im)).length 19943) [] ∧ ExtM w10 M10 w' M') := H10.out.2.1.truncate (by have := H10.out.1; omega)
          refine HT1.out.mono ?_
          rintro e w11 ⟨rfl, M11, l11, x11⟩
          obtain ⟨bt, hbt⟩ : ∃ bt, bt = shorterB (longerB ⟨1, 1, 0, 0⟩ (encR (l1 ++ im)).length) (encR (l1 ++ im)).length 19943 := ⟨_, rfl⟩
          have hbu : bt.used = 0 ∧ bt.next = 2 := by
            rw [hbt]
            exact ⟨by show 0 + _ - _ = 0; omega, rfl⟩
          rw [← hbt] at l11
          have H11 : Hid (n10 ≤ 65548 ∧ LG w11 M11 w4.heap.size nw lc (Pk (n10 + 4)) 20000 bt [] ∧ Fresh w4 w11 M11 ∧ bt.used = 0 ∧ bt.next = 2) := ⟨H10.out.1, l11, H10.out.2.2.step x11, hbu⟩
          clear l11 x11 HT1 H10 hbt hbu
          go_wp2_with fail
          have HAr : Hid (Calls Tryd.prog 15 #[.pointer (some ⟨w4.heap.size, 0, none⟩), .int .i64 1, .slice (some ⟨w11.heap.size, 0, none⟩) 1 1] (w11.alloc (.cells #[.int .i64 kp] 3)) fun e w' => e = .returned (.tuple #[]) ∧ ∃ M', LG w' M' w4.heap.size nw lc (PArm (n10 + 4) [kp]) 20000 bt [] ∧ Fresh w4 w' M') := by
            have hbA : Below w11.heap.size w11 (w11.alloc (.cells #[.int .i64 kp] 3)) := (Below.refl _ w11).alloc (Nat.le_refl _) _
            refine ((H11.out.2.1.below hbA).arm (some ⟨w11.heap.size, 0, none⟩) 1 kp (fun j x hx => ?_)).mono ?_
            · match j, hx with
              | 0, hx => cases hx; exact ⟨_, rfl, by simp, (Cells.new w11 #[.int .i64 kp] 3).cell (i := 0) rfl⟩
              | j + 1, hx => simp at hx
            · rintro e w' ⟨he, M', q1, q2⟩
              exact ⟨he, M', q1, (H11.out.2.2.1.below hbA).step q2⟩
          refine HAr.out.mono ?_
          rintro e w12 ⟨rfl, M12, l12, f12⟩
          have H12 := Lib.hid (And.intro l12 f12)
          clear l12 f12 HAr
          go_wp2_with (first
            | (at_builtin; refine app_bytes rfl (.tmp 128) (.tmp 129) rfl w12.heap.size _ [] rfl (Hmade.out w12).1 _ A4 4096 c4 im rfl Him.out.1.symm (Hrl.out _ ((Hmade.out w12).2.2 _ H12.out.2.2)).2.2 Hlen.out.2.2.1 (Hmade.out w12).2.1 ?_; intro v13 w13 hown13 hbel13 _; have Hbel13 := Lib.hid (Below.trans ((Below.refl w12.heap.size w12).alloc (Nat.le_refl _) (.cells #[] 5)) hbel13); have Hown13 : Hid (Own w13 w12.heap.size v13 im) := hown13; obtain ⟨A13, c13, rfl, _, _, _⟩ := Hown13.out.rb; clear hown13 hbel13)
            | (at_builtin; refine app_bytes rfl (.tmp 130) (.tmp 131) rfl w12.heap.size _ im rfl Hown13.out _ A1 n1 c1 l1 rfl HN.out.2.1 (Hrl.out _ (H12.out.2.2.trans (Hbel13.out.mono H12.out.2.2.size))).1 Hlen.out.2.2.2 Hbel13.out.size ?_; intro v14 w14 hown14 hbel14 _; have Hbel14 := Lib.hid (Hbel13.out.trans hbel14); have Hown14 := Lib.hid hown14; obtain ⟨A14, c14, rfl, _, _, _⟩ := Hown14.out.rb; clear hown14 hbel14))
          have HC : Hid (Calls Tryd.prog 12 #[.pointer (some ⟨lc, 0, none⟩), .slice A14 (im.length + l1.length) c14] w14 fun e w' => e = .returned (.tuple #[.int .u64 0, .int .i64 8]) ∧ ∃ M', LG w' M' w4.heap.size nw lc (POff (n10 + 4)) 20000 bt [] ∧ ExtM w12 M12 w' M') := by
            have h1 := HTK.out
            have h2 := Him.out.1
            have hglt : 0 < W.heap.size := World.block_lt_of_cell? W ⟨0, 0, none⟩ Hg.out
            have hW12 : Below W.heap.size W w12 := Hw4.out.trans (H12.out.2.2.mono Hw4.out.size)
            have hg12 : ErrType w12 := (World.cell?_of_block (w := W) (hW12.block _ hglt)).trans Hg.out
            exact H12.out.1.append_own_cut Hbel14.out Hown14.out List.length_append.symm (by rw [List.length_append]; omega) (roomV_of (by rw [List.length_append, H11.out.2.2.2.1]; omega)) (by have := H11.out.1; omega) hg12 (H12.out.2.1 _ (Nat.lt_of_lt_of_le hglt Hw4.out.size))
          refine HC.out.mono ?_
          rintro e w15 ⟨rfl, M15, l15, x15⟩
          have H15 := Lib.hid (And.intro l15 (H12.out.2.step x15))
          clear l15 x15 HC Hown14 Hbel14 Hown13 Hbel13 H12
          go_wp2_with fail
          have HO : Hid (Calls Tryd.prog 16 #[.pointer (some ⟨w4.heap.size, 0, none⟩)] w15 fun e w' => e = .returned (.tuple #[]) ∧ ∃ M', LG w' M' w4.heap.size nw lc (Pk (n10 + 4)) 20000 bt [] ∧ Fresh w4 w' M') := H15.out.1.on.mono fun e w' ⟨he, M', q1, q2⟩ => ⟨he, M', q1, H15.out.2.step q2⟩
          refine HO.out.mono ?_
          rintro e w16 ⟨rfl, M16, l16, f16⟩
          have HOp : Hid (Calls Tryd.prog 13 #[.pointer (some ⟨nw, 0, none⟩)] w16 fun e w' => ∃ ld A c, e = .returned (.tuple #[.pointer (some ⟨ld, 0, none⟩), .slice A 0 c, .nilIface]) ∧ ∃ M', LG w' M' w4.heap.size nw ld (Pk (n10 + 4)) 20000 bt [] ∧ Fresh w4 w' M') := by
            refine (l16.opened rfl).mono ?_
            rintro e w' ⟨ld, v, he, _, ⟨M', q1, q2⟩, q3, _⟩
            obtain ⟨A, c, rfl⟩ := q3.slice
            exact ⟨ld, A, c, he, M', q1, f16.step q2⟩
          clear l16 f16 HO H15
          go_wp2_with fail
          refine HOp.out.mono ?_
          rintro e w17 ⟨ld, A17, c17, rfl, M17, l17, f17⟩
          have H17 := Lib.hid (And.intro l17 f17)
          clear l17 f17 HOp
          go_wp2_with fail
          go_quiet (fail)
          have HS : Hid (Calls Tryd.prog 12 #[.pointer (some ⟨ld, 0, none⟩), .slice A2 n2 c2] (w17.drewN nq) fun e w' => e = .returned (.tuple #[.int .u64 2, .int .i64 0]) ∧ ∃ M' n' b', LG w' M' w4.heap.size nw ld (Pk n') 20000 b' [l2] ∧ Fresh w4 w' M') := by
            have hb17 : Below w17.heap.size w17 (w17.drewN nq) := drewN_below (Below.refl _ _) nq
            have f17 := H17.out.2.below hb17
            have h1 := HTK.out
            have h2 := H11.out
            have := (H17.out.1.below hb17).append (l := l2) (c := c2) (Hrl.out _ f17.2).2.1 (fun hne ad e q => by
              obtain ⟨ad', e', hlt, _⟩ := H2.out 0 _ (List.getElem?_eq_getElem (List.length_pos_iff.2 hne))
              rw [e] at e'
              cases e'
              exact f17.1 _ (Nat.lt_of_lt_of_le hlt Hw4.out.size) q) Hcc.out.2 (by omega) (roomV_of (by rw [h2.2.2.2.1]; omega)) (by rw [h2.2.2.2.2]; omega) (by omega)
            rw [← HN.out.2.2, h2.2.2.2.2] at this
            refine this.mono ?_
            rintro e w' ⟨he, M', n', _, q1, q2⟩
            exact ⟨he, M', n', _, q1, f17.step q2⟩
          go_wp2_with fail
          refine HS.out.mono ?_
          rintro e w18 ⟨rfl, M18, n18, b18, l18, f18⟩
          have HQ : Hid (Calls Tryd.prog 13 #[.pointer (some ⟨nw, 0, none⟩)] w18 fun e w' => ∃ le g c x A cx, e = .returned (.tuple #[.pointer (some ⟨le, 0, none⟩), .slice (some ⟨g, 0, none⟩) 1 c, .nilIface]) ∧ w'.cell? ⟨g, 0, none⟩ = some (.int .u64 x) ∧ w'.cell? ⟨g, 1, none⟩ = some (.slice A l2.length cx) ∧
              (∀ w2, (convert 35 9 (.slice A l2.length cx)).run Tryd.prog (w'.drewN w2) = .ok (.string ⟨l2.toArray⟩) (w'.drewN w2)) ∧ (∀ w2, (convert 35 9 (.slice A2 l2.length c2)).run Tryd.prog (w'.drewN w2) = .ok (.string ⟨l2.toArray⟩) (w'.drewN w2)) ∧ Below W.heap.size W w') := by
            refine (l18.opened rfl).mono ?_
            rintro e w' ⟨le, v, he, _, ⟨M', q1, q2⟩, ⟨cs, r1, r2⟩, _⟩
            have f19 := f18.step q2
            obtain ⟨x, p1, p2, p3⟩ := r2 0 l2 rfl
            obtain ⟨A, cx, rfl, _, hrb, _⟩ := p3.rb
            rcases r1.2 with ⟨_, h0⟩ | ⟨g, c, cur, rfl, _⟩
            · simp at h0
            have cc := World.ownsRow.cells r1 (g := g) rfl
            have z0 := cc 0 _ p1
            have z1 := cc 1 _ p2
            rw [add_flat] at z0 z1
            exact ⟨le, g, c, _, A, cx, he, z0, z1, fun z => text_run (w'.drewN z) _ A l2 cx (hrb.drewN z), fun z => text_run (w'.drewN z) _ A2 l2 c2 ((Hrl.out _ f19.2).2.1.drewN z), Hw4.out.trans (f19.2.mono Hw4.out.size)⟩
          clear l18 f18 HS H17 H11
          rw [← HN.out.2.2] at HQ
          go_wp2_with fail
          refine HQ.out.mono ?_
          rintro e w19 ⟨le, g, c, x, A, cx, rfl, g0, g1, htx, htx2, hb19⟩
          have Hb19 := Lib.hid hb19
          clear hb19 HQ
          go_upto_region 43 with fail
          go_quiet (fail)
          go_wp2_with fail
          go_ret
          exact ⟨rfl, drewN_below Hb19.out _⟩
end
end Go.Proofs.YtkjogkmdldplgaaDoor
