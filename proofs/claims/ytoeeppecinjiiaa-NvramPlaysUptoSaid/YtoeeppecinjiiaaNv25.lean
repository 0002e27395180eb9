/-
  NvramPlays, walked.
-/
import Derived.Test.YtoeeppecinjiiaaNv24
import Derived.Test.YtoeeppecinjiiaaNv18
import Derived.Deep.CutBlock
import Derived.Deep.RegionWith
import Derived.Deep.RegionHeld3
namespace Go.Proofs.Ytoeeppecinjiiaa
open Go.RowKit

set_option maxRecDepth 20000 in
set_option maxHeartbeats 40000000 in
theorem plays_any (size : Int) (A : Option Addr) (c : Nat) (l : List PAct) (at_ n : Int) (w : World) (h : ActsAt w A l) (hl : l.length ≤ 1048576)
    (hb : ∀ (k : Nat) (x : PAct), l[k]? = some x → x.bytes.length ≤ 1048576 ∧ x.picks.length ≤ 1048576)
    (hnm : ∀ (k : Nat) (x : PAct), l[k]? = some x → x.place ≤ 9223372036854775807 ∧ x.num ≤ 9223372036854775807) (hat : at_ ≤ 9223372036854775807) :
    Calls Try.prog 3 #[.int .i64 size, .slice A l.length c, .int .i64 at_, .int .i64 n] w fun e w' => e = .returned (.bool true) ∧ Below w.heap.size w w' := by
  have Hkn := Lib.hid (known_any w)
  have HF1 : Hid (∀ w1, Below w.heap.size w w1 → Calls Try.prog 6 #[.slice A l.length c] w1 fun e w' => e = .returned (.bool (fewB l)) ∧ ∃ q, w' = w1.drewN q) := fun w1 hb1 => few_any A c l w1 (h.below hb1) hl hb
  have Hdr : Hid (∀ (w1 : World) (q : Nat), Below w.heap.size w w1 → Below w.heap.size w (w1.drewN q)) := fun w1 q hb => ⟨hb.os, hb.tape, hb.output, hb.size, hb.block⟩
  have HA : Hid (∀ w3, Below w.heap.size w w3 → ActsAt w3 A l) := fun w3 hb => h.below hb
  have Hnm := Lib.hid hnm
  have Hat := Lib.hid hat
  obtain ⟨L, hL⟩ : ∃ L, L = l.length := ⟨_, rfl⟩
  have HL := Lib.hid hL
  rw [← hL] at HF1 ⊢
  clear h hl hb hnm hL hat
  rcases hf1 : fewB l with _ | _
  · rw [hf1] at HF1
    clear hf1
    go_enter Try.func3, Try.ntmps3
    go_wp2_with fail
    refine Hkn.out.mono ?_
    rintro e w1 ⟨rfl, hb1⟩
    have Hb1 := Lib.hid hb1
    have Hf := Lib.hid (HF1.out w1 hb1)
    clear hb1
    go_wp2_with fail
    refine Hf.out.mono ?_
    rintro e w2 ⟨rfl, q, rfl⟩
    go_wp2_with fail
    go_ret
    exact ⟨rfl, Hdr.out _ _ Hb1.out⟩
  rw [hf1] at HF1
  obtain ⟨hm1, hmx⟩ := few_facts hf1
  have Hmx := Lib.hid hmx
  have hL3 : L ≤ 300 := by have := HL.out; omega
  have hL3' : (L : Int) ≤ 300 := by omega
  clear hf1 hm1 hmx
  by_cases hmid : 4096 < size ∧ size ≤ 67108864
  · obtain ⟨m1, m2⟩ := hmid
    go_enter Try.func3, Try.ntmps3
    go_wp2_with fail
    refine Hkn.out.mono ?_
    rintro e w1 ⟨rfl, hb1⟩
    have Hb1 := Lib.hid hb1
    have Hf := Lib.hid (HF1.out w1 hb1)
    clear hb1
    go_wp2_with fail
    refine Hf.out.mono ?_
    rintro e w2 ⟨rfl, q, rfl⟩
    go_wp2_with fail
    go_ret
    exact ⟨rfl, Hdr.out _ _ Hb1.out⟩
  by_cases hsz : 64 ≤ size ∧ size ≤ 4096
  case neg =>
    have Hbad : Hid (size < 64 ∨ 67108864 < size) := by show _ ∨ _; omega
    have hs2 : size ≤ 4096 ∨ 67108864 < size := by omega
    clear hmid hsz
    rcases hs2 with hs2 | hs2
    all_goals
      go_enter Try.func3, Try.ntmps3
      go_wp2_with fail
      refine Hkn.out.mono ?_
      rintro e w1 ⟨rfl, hb1⟩
      have Hb1 := Lib.hid hb1
      have Hf := Lib.hid (HF1.out w1 hb1)
      clear hb1
      go_wp2_with fail
      refine Hf.out.mono ?_
      rintro e w2 ⟨rfl, q, rfl⟩
      have Hb3 := Lib.hid (Hdr.out _ q Hb1.out)
      generalize w1.drewN q = w3 at *
      have Hpn := Lib.hid (begin_solo w3)
      go_wp2_with fail
      refine Hpn.out.mono ?_
      rintro e w4 ⟨rfl, hp4, hb4⟩
      have Hb4 : Hid (Below w.heap.size w w4) := Hb3.out.trans (hb4.mono Hb3.out.size)
      have Hn := Lib.hid (new_bad (.pointer (some ⟨w3.heap.size, 0, none⟩)) size w4 Hbad.out)
      have Hm := Lib.hid (rnew_bad size w4 Hbad.out)
      clear hp4 hb4 Hpn
      go_wp2_with fail
      refine Hn.out.mono ?_
      rintro e w5 ⟨rfl, rfl⟩
      go_wp2_with fail
      refine Hm.out.mono ?_
      rintro e w5 ⟨rfl, rfl⟩
      go_wp2_with fail
      go_ret
      exact ⟨rfl, Hb4.out⟩
  obtain ⟨hs1, hs2⟩ := hsz
  obtain ⟨N, rfl⟩ : ∃ N : Nat, size = (N : Int) := ⟨size.toNat, by omega⟩
  have hN1 : 64 ≤ N := by omega
  have hN2 : N ≤ 4096 := by omega
  clear hmid
  go_enter Try.func3, Try.ntmps3
  go_wp2_with fail
  refine Hkn.out.mono ?_
  rintro e w1 ⟨rfl, hb1⟩
  have Hb1 := Lib.hid hb1
  have Hf := Lib.hid (HF1.out w1 hb1)
  clear hb1
  go_wp2_with fail
  refine Hf.out.mono ?_
  rintro e w2 ⟨rfl, q, rfl⟩
  have Hb3 := Lib.hid (Hdr.out _ q Hb1.out)
  generalize w1.drewN q = w3 at *
  have Hac := Lib.hid (HA.out w3 Hb3.out)
  clear Hf Hb1 HF1 Hkn HA
  have Hpn := Lib.hid (begin_solo w3)
  go_wp2_with fail
  refine Hpn.out.mono ?_
  rintro e w4 ⟨rfl, hp4, hb4⟩
  have Hn : Hid (Calls Try.prog 8 #[.pointer (some ⟨w3.heap.size, 0, none⟩), .int .i64 (N : Int)] w4 fun e w' => ∃ nv, e = .returned (.tuple #[.pointer (some ⟨nv, 0, none⟩), .int .i64 0]) ∧ Solo w3 w3.heap.size nv (Pk 0) (Dev.new N) w') := begin_nv w3 w4 N hp4 hb4 hN1 (by omega)
  clear hp4 hb4 Hpn
  go_wp2_with fail
  refine Hn.out.mono ?_
  rintro e w5 ⟨nv, rfl, hs5⟩
  have Hr : Hid (Calls Try.prog 9 #[.int .i64 (N : Int)] w5 fun e w' => ∃ rd, e = .returned (.tuple #[.pointer (some ⟨rd, 0, none⟩), .int .i64 0]) ∧ Rig w3 w3.heap.size nv rd (Pk 0) (Dev.new N) (Ref.new N) w') := rig_new hs5 hN1 (by omega)
  clear hs5 Hn
  go_wp2_with fail
  refine Hr.out.mono ?_
  rintro e w6 ⟨rd, rfl, hr6⟩
  have Hi0 : Hid (Head w3 w3.heap.size nv rd N 0 0 0 false none w6) := ⟨[], ⟨_, _, _, hr6, Alike.new N, Like.new, by show (List.replicate N _).length = N; rw [List.length_replicate], Nat.le_refl _, Nat.zero_le _⟩, rfl, fun k x hx => by simp at hx, by simp⟩
  clear hr6 Hr
  generalize w3.heap.size = pw at *
  go_wp2_with fail
  go_loopw [14, 15, 16, 17] (fun av pv ov iv wr => ∃ (a np k : Nat) (off : Bool) (Ap : Option Addr) (cp : Nat), av = .int .i64 (a : Int) ∧ pv = .slice Ap np cp ∧ ov = .bool off ∧ iv = .int .i64 (k : Int) ∧ k ≤ L ∧ a ≤ 9223372036854775807 ∧ Hid (Head w3 pw nv rd N k a np off Ap wr)) (fun _ _ _ iv _ => L - (intOf iv).toNat)
  case atStart => exact ⟨0, 0, 0, false, none, 0, rfl, rfl, rfl, rfl, Nat.zero_le _, Nat.zero_le _, Hi0.out⟩
  case round =>
    obtain ⟨a, np, k, off, Ap, cp, rfl, rfl, rfl, rfl, hk, ha, hrel⟩ := hrel
    have Hbw : Hid (Below w3.heap.size w3 wr) := by
      obtain ⟨picks, h1, _⟩ := hrel.out
      exact h1.bel
    by_cases hlt : k < L
    case neg => as_aux_lemma =>
      obtain rfl : k = L := by omega
      obtain ⟨picks, hpl, _⟩ := hrel.out
      have Hp := Lib.hid hpl
      have Hfin : Hid (∀ W, Below w3.heap.size w3 W → Below w.heap.size w W) := fun W hb => Hb3.out.trans (hb.mono Hb3.out.size)
      have hat := Hat.out
      clear hrel hlt hpl Hbw
      cases off
      case true =>
        have Hrd := Lib.hid (Hp.out.readOff at_ n hat)
        clear hat
        go_wp2_with fail
        refine Hrd.out.mono ?_
        rintro e w9 ⟨Ab, m9, cb, rfl, hp9⟩
        have Hb9 := Lib.hid (Hfin.out _ hp9.bel)
        clear hp9 Hrd
        go_wp2_with fail
        go_ret
        exact ⟨rfl, Hb9.out⟩
      rcases hh : hasB N at_ n with _ | _
      · have Hrd := Lib.hid (Hp.out.readBad at_ n hat hh)
        have Hff : Hid (∀ w9, Pl w3 pw nv rd N k false a picks w9 → Calls Try.prog 10 #[.pointer (some ⟨rd, 0, none⟩), .int .i64 at_, .int .i64 n] w9 fun e w' => e = .returned (.bool false) ∧ w9 = w') := fun w9 hp => by
          have := hp.fits at_ n
          rw [hh] at this
          exact this
        clear hat hh
        go_wp2_with fail
        refine Hrd.out.mono ?_
        rintro e w9 ⟨Ab, cb, rfl, hp9⟩
        have Hb9 := Lib.hid (Hfin.out _ hp9.bel)
        have Hf9 := Lib.hid (Hff.out _ hp9)
        clear hp9 Hrd
        go_wp2_with (go_at_call 10; refine Hf9.out.mono ?_; rintro e w8 ⟨rfl, rfl⟩)
        go_ret
        exact ⟨rfl, Hb9.out⟩
      · obtain ⟨b1, b2, b3⟩ := of_decide_eq_true hh
        obtain ⟨at1, rfl⟩ : ∃ at1 : Nat, at_ = (at1 : Int) := ⟨at_.toNat, by omega⟩
        obtain ⟨n1, rfl⟩ : ∃ n1 : Nat, n = (n1 : Int) := ⟨n.toNat, by omega⟩
        have Hrd := Lib.hid (Hp.out.readOk at1 n1 (by omega) hN2 (by omega))
        have Hff : Hid (∀ w9, Pl w3 pw nv rd N k false a picks w9 → Calls Try.prog 10 #[.pointer (some ⟨rd, 0, none⟩), .int .i64 (at1 : Int), .int .i64 (n1 : Int)] w9 fun e w' => e = .returned (.bool true) ∧ w9 = w') := fun w9 hp => by
          have := hp.fits (at1 : Int) (n1 : Int)
          rw [hh] at this
          exact this
        obtain ⟨s1, hs1'⟩ : ∃ s1, s1 = at1 + n1 := ⟨_, rfl⟩
        have Hs1 := Lib.hid hs1'
        have hwr : IntKind.i64.wrap ((at1 : Int) + (n1 : Int)) = (s1 : Int) := by rw [hs1']; exact IntWalk.i64_in _ (by omega)
        have Hle : Hid (at1 + n1 ≤ N) := by show _ ≤ _; omega
        have k1 : (at1 : Int) + (n1 : Int) ≤ 4096 := by omega
        clear hat hh b1 b2 b3 hs1'
        go_wp2_with fail
        refine Hrd.out.mono ?_
        rintro e w9 ⟨Ab, cb, rfl, hp9, X, tx, hall⟩
        have Hall := Lib.hid hall
        have Hf9 := Lib.hid (Hff.out _ hp9)
        have txd : (convert 35 9 (.slice Ab n1 cb)).run Try.prog w9.drew = .ok (.string X) w9.drew := tx 1
        clear hp9 Hrd hall tx
        go_upto_region 65 with (go_at_call 10; refine Hf9.out.mono ?_; rintro e w8 ⟨rfl, rfl⟩)
        refine wp_region_noPanic ?_
        refine wp_region_held_drew (S := (fun W => (convert 35 9 (.slice Ab n1 cb)).run Try.prog W = .ok (.string X) W)) (by kernel_rfl) ?_ (fun hHeld => ?_)
        · try dsimp only
          first | exact txd | exact tx1
        refine wpAnyH_take (i := 0) (v := ?_) rfl (by kernel_rfl) (by kernel_rfl) (by kernel_rfl) (fun _ _ _ h => h) (Or.inl ⟨by rfl, ?_⟩) (by assumption) ?_
        rotate_left
        · intro w hSw
          try dsimp only at hSw
          simp only [List.getElem_toArray, List.getElem_cons_succ, List.getElem_cons_zero]
          go_simp
          try with_reducible rfl
        simp only [List.getElem_toArray, List.getElem_cons_succ, List.getElem_cons_zero]
        try simp only [Act.put, List.setIfInBounds_toArray, List.set_cons_zero, List.set_cons_succ]
        refine wpAnyH_take (i := 1) (v := ?_) rfl (by kernel_rfl) (by kernel_rfl) (by kernel_rfl) (fun _ _ _ h => h) (Or.inl ⟨by rfl, ?_⟩) (by assumption) ?_
        rotate_left
        · intro w hSw
          try dsimp only at hSw
          simp only [List.getElem_toArray, List.getElem_cons_succ, List.getElem_cons_zero]
          go_simp
          try with_reducible rfl
        simp only [List.getElem_toArray, List.getElem_cons_succ, List.getElem_cons_zero]
        try simp only [Act.put, List.setIfInBounds_toArray, List.set_cons_zero, List.set_cons_succ]
        refine wpAnyH_take (i := 2) (v := ?_) rfl (by kernel_rfl) (by kernel_rfl) (by kernel_rfl) (fun _ _ _ h => h) (Or.inl ⟨by rfl, ?_⟩) (by assumption) ?_
        rotate_left
        · intro w hSw
          try dsimp only at hSw
          simp only [List.getElem_toArray, List.getElem_cons_succ, List.getElem_cons_zero]
          go_simp
          try with_reducible rfl
        simp only [List.getElem_toArray, List.getElem_cons_succ, List.getElem_cons_zero]
        try simp only [Act.put, List.setIfInBounds_toArray, List.set_cons_zero, List.set_cons_succ]
        refine wpAnyH_take (i := 3) (v := ?_) rfl (by kernel_rfl) (by kernel_rfl) (by kernel_rfl) (fun _ _ _ h => h) (Or.inl ⟨by rfl, ?_⟩) (by assumption) ?_
        rotate_left
        · intro w hSw
          try dsimp only at hSw
          simp only [List.getElem_toArray, List.getElem_cons_succ, List.getElem_cons_zero]
          go_simp
          try with_reducible rfl
        simp only [List.getElem_toArray, List.getElem_cons_succ, List.getElem_cons_zero]
        try simp only [Act.put, List.setIfInBounds_toArray, List.set_cons_zero, List.set_cons_succ]
        refine wpAnyH_take (i := 4) (v := ?_) rfl (by kernel_rfl) (by kernel_rfl) (by kernel_rfl) (fun _ _ _ h => h) (Or.inl ⟨by rfl, ?_⟩) (by assumption) ?_
        rotate_left
        · intro w hSw
          try dsimp only at hSw
          simp only [List.getElem_toArray, List.getElem_cons_succ, List.getElem_cons_zero]
          go_simp
          try with_reducible rfl
        simp only [List.getElem_toArray, List.getElem_cons_succ, List.getElem_cons_zero]
        try simp only [Act.put, List.setIfInBounds_toArray, List.set_cons_zero, List.set_cons_succ]
        refine wpAnyH_take (i := 5) (v := ?_) rfl (by kernel_rfl) (by kernel_rfl) (by kernel_rfl) (fun _ _ _ h => h) (Or.inl ⟨by rfl, ?_⟩) (by assumption) ?_
        rotate_left
        · intro w hSw
          try dsimp only at hSw
          simp only [List.getElem_toArray, List.getElem_cons_succ, List.getElem_cons_zero]
          go_simp
          try with_reducible rfl
        simp only [List.getElem_toArray, List.getElem_cons_succ, List.getElem_cons_zero]
        try simp only [Act.put, List.setIfInBounds_toArray, List.set_cons_zero, List.set_cons_succ]
        refine wpAnyH_take (i := 7) (v := ?_) rfl (by kernel_rfl) (by kernel_rfl) (by kernel_rfl) (fun _ _ _ h => h) (Or.inl ⟨by rfl, ?_⟩) (by assumption) ?_
        rotate_left
        · intro w hSw
          try dsimp only at hSw
          simp only [List.getElem_toArray, List.getElem_cons_succ, List.getElem_cons_zero]
          go_simp
          try with_reducible rfl
        simp only [List.getElem_toArray, List.getElem_cons_succ, List.getElem_cons_zero]
        try simp only [Act.put, List.setIfInBounds_toArray, List.set_cons_zero, List.set_cons_succ]
        refine wpAnyH_take (i := 8) (v := ?_) rfl (by kernel_rfl) (by kernel_rfl) (by kernel_rfl) (fun _ _ _ h => h) (Or.inl ⟨by rfl, ?_⟩) (by assumption) ?_
        rotate_left
        · intro w hSw
          try dsimp only at hSw
          simp only [List.getElem_toArray, List.getElem_cons_succ, List.getElem_cons_zero]
          go_simp
          try with_reducible rfl
        simp only [List.getElem_toArray, List.getElem_cons_succ, List.getElem_cons_zero]
        try simp only [Act.put, List.setIfInBounds_toArray, List.set_cons_zero, List.set_cons_succ]
        refine wpAnyH_take (i := 9) (v := ?_) rfl (by kernel_rfl) (by kernel_rfl) (by kernel_rfl) (fun _ _ _ h => h) (Or.inl ⟨by rfl, ?_⟩) (by assumption) ?_
        rotate_left
        · intro w hSw
          try dsimp only at hSw
          simp only [List.getElem_toArray, List.getElem_cons_succ, List.getElem_cons_zero]
          go_simp
          try with_reducible rfl
        simp only [List.getElem_toArray, List.getElem_cons_succ, List.getElem_cons_zero]
        try simp only [Act.put, List.setIfInBounds_toArray, List.set_cons_zero, List.set_cons_succ]
        refine wpAnyH_take (i := 10) (v := ?_) rfl (by kernel_rfl) (by kernel_rfl) (by kernel_rfl) (fun _ _ _ h => h) (Or.inl ⟨by rfl, ?_⟩) (by assumption) ?_
        rotate_left
        · intro w hSw
          try dsimp only at hSw
          simp only [List.getElem_toArray, List.getElem_cons_succ, List.getElem_cons_zero]
          go_simp
          try with_reducible rfl
        simp only [List.getElem_toArray, List.getElem_cons_succ, List.getElem_cons_zero]
        try simp only [Act.put, List.setIfInBounds_toArray, List.set_cons_zero, List.set_cons_succ]
        refine wpAnyH_ready (rs := [6]) (by kernel_rfl) (by simp) ?_
        refine AllReadyH.cons rfl (fun K hK => ?_) ?_
        · skip
          simp only [List.getElem_toArray, List.getElem_cons_succ, List.getElem_cons_zero]
          go_simp
          (go_at_call 22; refine (Hall.out 1).mono ?_; rintro e w8 ⟨A8, c8, rfl, hc8, tx1, tx2, hp8⟩; have hsl := fun W => slice_mid A8 N c8 at1 s1 n1 Hs1.out (Nat.le_trans Hle.out hc8) W; have Hb8 := Lib.hid (Hfin.out _ hp8.bel); have Hp8 := Lib.hid hp8; clear hp8)
          refine hK.out _ _ ?_ (fun hHeld => ?_)
          · try dsimp only
            first | exact txd | exact tx1
          clear hK K
          try simp only [List.getElem_toArray, List.getElem_cons_succ, List.getElem_cons_zero]
          try simp only [Act.put, List.setIfInBounds_toArray, List.set_cons_zero, List.set_cons_succ]
          refine wpAnyH_take (i := 11) (v := ?_) rfl (by kernel_rfl) (by kernel_rfl) (by kernel_rfl) (fun _ _ _ h => h) (Or.inl ⟨by rfl, ?_⟩) (by assumption) ?_
          rotate_left
          · intro w hSw
            try dsimp only at hSw
            simp only [List.getElem_toArray, List.getElem_cons_succ, List.getElem_cons_zero]
            go_simp
            try with_reducible rfl
          simp only [List.getElem_toArray, List.getElem_cons_succ, List.getElem_cons_zero]
          try simp only [Act.put, List.setIfInBounds_toArray, List.set_cons_zero, List.set_cons_succ]
          refine wpAnyH_ready (rs := [12]) (by kernel_rfl) (by simp) ?_
          refine AllReadyH.cons rfl (fun K hK => ?_) ?_
          · skip
            simp only [List.getElem_toArray, List.getElem_cons_succ, List.getElem_cons_zero]
            go_simp
            refine hK.out _ _ ?_ (fun hHeld => ?_)
            · try dsimp only
              first | exact txd | exact tx1
            clear hK K
            try simp only [List.getElem_toArray, List.getElem_cons_succ, List.getElem_cons_zero]
            try simp only [Act.put, List.setIfInBounds_toArray, List.set_cons_zero, List.set_cons_succ]
            refine wpAnyH_take (i := 13) (v := ?_) rfl (by kernel_rfl) (by kernel_rfl) (by kernel_rfl) (fun _ _ _ h => h) (Or.inl ⟨by rfl, ?_⟩) (by assumption) ?_
            rotate_left
            · intro w hSw
              try dsimp only at hSw
              simp only [List.getElem_toArray, List.getElem_cons_succ, List.getElem_cons_zero]
              go_simp
              try with_reducible rfl
            simp only [List.getElem_toArray, List.getElem_cons_succ, List.getElem_cons_zero]
            try simp only [Act.put, List.setIfInBounds_toArray, List.set_cons_zero, List.set_cons_succ]
            refine wpAnyH_take (i := 14) (v := ?_) rfl (by kernel_rfl) (by kernel_rfl) (by kernel_rfl) (fun _ _ _ h => h) (Or.inl ⟨by rfl, ?_⟩) (by assumption) ?_
            rotate_left
            · intro w hSw
              try dsimp only at hSw
              simp only [List.getElem_toArray, List.getElem_cons_succ, List.getElem_cons_zero]
              go_simp
              try with_reducible rfl
            simp only [List.getElem_toArray, List.getElem_cons_succ, List.getElem_cons_zero]
            try simp only [Act.put, List.setIfInBounds_toArray, List.set_cons_zero, List.set_cons_succ]
            refine wpAnyH_take (i := 15) (v := ?_) rfl (by kernel_rfl) (by kernel_rfl) (by kernel_rfl) (fun _ _ _ h => h) (Or.inl ⟨by rfl, ?_⟩) (by assumption) ?_
            rotate_left
            · intro w hSw
              try dsimp only at hSw
              simp only [List.getElem_toArray, List.getElem_cons_succ, List.getElem_cons_zero]
              go_simp
              try with_reducible rfl
            simp only [List.getElem_toArray, List.getElem_cons_succ, List.getElem_cons_zero]
            try simp only [Act.put, List.setIfInBounds_toArray, List.set_cons_zero, List.set_cons_succ]
            refine wpAnyH_done (by kernel_rfl) ?_ _
            refine NoPanic.normal ?_
            go_wp2_with fail
            go_ret
            exact ⟨by first | rfl | simp, Hb8.out⟩
          exact AllReadyH.nil
        exact AllReadyH.nil
    obtain ⟨x, hx⟩ : ∃ x, l[k]? = some x := ⟨_, List.getElem?_eq_getElem (by rw [← HL.out]; exact hlt)⟩
    obtain ⟨b, o, rfl, hbl, q0, q1, q2, ⟨A1, c1, q3, r3, s3, t3⟩, ⟨A2, c2, q4, r4, s4, t4⟩⟩ := Hac.out k x hx
    have mv : ∀ {i : Nat} {v : Value}, w3.cell? ⟨b, i, none⟩ = some v → wr.cell? ⟨b, i, none⟩ = some v := fun hv => (Hbw.out.cell (p := ⟨b, _, none⟩) hbl).trans hv
    have p0 := mv q0
    have p1 := mv q1
    have p2 := mv q2
    have p3 := mv q3
    have p4 := mv q4
    obtain ⟨u1, u2⟩ := Hmx.out k x hx
    obtain ⟨u3, u4⟩ := Hnm.out k x hx
    obtain ⟨picks, hpl, hnp, hri, hpk⟩ := hrel.out
    have Hp := Lib.hid hpl
    have Hnp : Hid (np = picks.length ∧ RI w3 w3.heap.size Ap picks ∧ picks.length ≤ 1048576) := ⟨hnp, hri, hpk⟩
    have Hx : Hid (RB w3 w3.heap.size A1 x.bytes ∧ x.bytes.length ≤ c1 ∧ c1 ≤ maxLen ∧ RI w3 w3.heap.size A2 x.picks ∧ x.picks.length ≤ c2 ∧ c2 ≤ maxLen ∧ x.bytes.length ≤ 5000 ∧ x.picks.length ≤ 5000 ∧ x.place ≤ 9223372036854775807 ∧ x.num ≤ 9223372036854775807) := ⟨r3, s3, t3, r4, s4, t4, u1, u2, u3, u4⟩
    have hk' : (k : Int) < (L : Int) := by omega
    have hk3 : k ≤ 300 := by omega
    clear hx mv q0 q1 q2 q3 q4 r3 s3 t3 r4 s4 t4 u1 u2 u3 u4 hpl hnp hri hpk hlt hrel
    have HW := Lib.hid (Hp.out.boxed (.cells #[.int .i64 x.op, .int .i64 x.place, .int .i64 x.num, .slice A1 x.bytes.length c1, .slice A2 x.picks.length c2] 37))
    obtain ⟨wo, rfl⟩ : ∃ wo : World, wo = wr := ⟨_, rfl⟩
    go_upto_region 19 with fail
    clear p0 p1 p2 p3 p4
    obtain ⟨z0, z1, z2, z3, z4⟩ : _ ∧ _ ∧ _ ∧ _ ∧ _ := ⟨(Cells.new wo #[.int .i64 x.op, .int .i64 x.place, .int .i64 x.num, .slice A1 x.bytes.length c1, .slice A2 x.picks.length c2] 37).cell (i := 0) rfl, (Cells.new wo #[.int .i64 x.op, .int .i64 x.place, .int .i64 x.num, .slice A1 x.bytes.length c1, .slice A2 x.picks.length c2] 37).cell (i := 1) rfl, (Cells.new wo #[.int .i64 x.op, .int .i64 x.place, .int .i64 x.num, .slice A1 x.bytes.length c1, .slice A2 x.picks.length c2] 37).cell (i := 2) rfl, (Cells.new wo #[.int .i64 x.op, .int .i64 x.place, .int .i64 x.num, .slice A1 x.bytes.length c1, .slice A2 x.picks.length c2] 37).cell (i := 3) rfl, (Cells.new wo #[.int .i64 x.op, .int .i64 x.place, .int .i64 x.num, .slice A1 x.bytes.length c1, .slice A2 x.picks.length c2] 37).cell (i := 4) rfl⟩
    generalize wo.alloc (.cells #[.int .i64 x.op, .int .i64 x.place, .int .i64 x.num, .slice A1 x.bytes.length c1, .slice A2 x.picks.length c2] 37) = W0 at *
    generalize wo.heap.size = bx at *
    have Hz : Hid (W0.cell? ⟨bx, 0, none⟩ = some (.int .i64 x.op) ∧ W0.cell? ⟨bx, 1, none⟩ = some (.int .i64 x.place) ∧ W0.cell? ⟨bx, 2, none⟩ = some (.int .i64 x.num) ∧ W0.cell? ⟨bx, 3, none⟩ = some (.slice A1 x.bytes.length c1) ∧ W0.cell? ⟨bx, 4, none⟩ = some (.slice A2 x.picks.length c2)) := ⟨z0, z1, z2, z3, z4⟩
    go_upto_if 72 with fail
    go_cut [19] (fun v wx => W0 = wx ∧ v = .int .i64 ((w8 off : Nat) : Int))
    case first => as_aux_lemma =>
      clear z0 z1 z2 z3 z4
      cases off
      · go_wp2_with fail
        go_meet
        exact ⟨rfl, rfl⟩
      · go_wp2_with fail
        go_meet
        exact ⟨rfl, rfl⟩
    case rest =>
    obtain ⟨rfl, rfl⟩ := hcut
    have Hfit := Lib.hid (HW.out.fits x.place (x.bytes.length : Int))
    go_upto_region 22 with fail
    go_cut [89] (fun v wx => W0 = wx ∧ v = .bool (bad1 x.op off (hasB N x.place (x.bytes.length : Int))))
    case first => as_aux_lemma =>
      generalize hasB N x.place (x.bytes.length : Int) = fb at *
      clear z2 z4
      by_cases h1 : x.op = 1
      · have h1' : (x.op == 1) = true := by simpa using h1
        have Hb : Hid (∀ o f, bad1 x.op o f = (!o && !f)) := fun o f => by simp [bad1, h1]
        clear h1
        cases off
        · cases fb
          all_goals
            have hbb := Hb.out false
            go_wp2_with (go_at_call 10; refine Hfit.out.mono ?_; rintro e w7 ⟨rfl, rfl⟩)
            go_meet
            exact ⟨rfl, by rw [Hb.out]; rfl⟩
        · go_wp2_with fail
          go_meet
          exact ⟨rfl, by rw [Hb.out]; rfl⟩
      · have h1' : (x.op == 1) = false := by simpa using h1
        have Hb : Hid (∀ o f, bad1 x.op o f = false) := fun o f => by simp [bad1, h1]
        clear h1
        go_wp2_with fail
        go_meet
        exact ⟨rfl, by rw [Hb.out]⟩
    case rest =>
    obtain ⟨rfl, rfl⟩ := hcut
    clear Hfit
    go_upto_if 89 with fail
    go_cut [19] (fun v wx => W0 = wx ∧ v = .int .i64 ((wa1 (bad1 x.op off (hasB N x.place (x.bytes.length : Int))) off : Nat) : Int))
    case first => as_aux_lemma =>
      clear z0 z1 z2 z3 z4
      rcases hbb : bad1 x.op off (hasB N x.place (x.bytes.length : Int)) with _ | _
      · have Hbb := Lib.hid hbb
        clear hbb
        go_wp2_with fail
        go_meet
        exact ⟨rfl, by rw [Hbb.out]; rfl⟩
      · have Hbb := Lib.hid hbb
        clear hbb
        go_wp2_with fail
        go_meet
        exact ⟨rfl, by rw [Hbb.out]; rfl⟩
    case rest =>
    obtain ⟨rfl, rfl⟩ := hcut
    have Hpl := Lib.hid (@mids_plain w3 W0 W0 bx pw nv rd N k a off picks x HW.out ha)
    have Hhf := Lib.hid (@hit_facts N x off a)
    generalize wa1 (bad1 x.op off (hasB N x.place (x.bytes.length : Int))) off = wn at *
    go_upto_region 24 with fail
    go_cut [105] (fun v wx => W0 = wx ∧ v = .bool (hit1 x.op wn a))
    case first => as_aux_lemma =>
      clear z1 z2 z3 z4
      by_cases h12 : x.op = 1 ∨ x.op = 2
      · have hop : Hid (hit1 x.op wn a = (decide (wn = 0) && decide (0 < a))) := by
          show _ = _
          unfold hit1
          rcases h12 with h12 | h12 <;> simp [h12]
        rcases h12 with h1 | h2
        · have h1' : (x.op == 1) = true := by simpa using h1
          clear h1
          by_cases hw0 : wn = 0
          · have hw0' : ((wn : Int) == 0) = true := by simp [hw0]
            have hop2 : Hid (hit1 x.op wn a = decide (0 < a)) := by
              show _ = _
              rw [hop.out]; simp [hw0]
            clear hw0
            go_wp2_with fail
            go_meet
            exact ⟨rfl, by rw [hop2.out]⟩
          · have hw0' : ((wn : Int) == 0) = false := by simp [hw0]
            have hop2 : Hid (hit1 x.op wn a = false) := by
              show _ = _
              rw [hop.out]; simp [hw0]
            clear hw0
            go_wp2_with fail
            go_meet
            exact ⟨rfl, by rw [hop2.out]⟩
        · have h1' : (x.op == 1) = false := by simp [h2]
          have h2' : (x.op == 2) = true := by simpa using h2
          clear h2
          by_cases hw0 : wn = 0
          · have hw0' : ((wn : Int) == 0) = true := by simp [hw0]
            have hop2 : Hid (hit1 x.op wn a = decide (0 < a)) := by
              show _ = _
              rw [hop.out]; simp [hw0]
            clear hw0
            go_wp2_with fail
            go_meet
            exact ⟨rfl, by rw [hop2.out]⟩
          · have hw0' : ((wn : Int) == 0) = false := by simp [hw0]
            have hop2 : Hid (hit1 x.op wn a = false) := by
              show _ = _
              rw [hop.out]; simp [hw0]
            clear hw0
            go_wp2_with fail
            go_meet
            exact ⟨rfl, by rw [hop2.out]⟩
      · have h1' : (x.op == 1) = false := by simp; omega
        have h2' : (x.op == 2) = false := by simp; omega
        have hop2 : Hid (hit1 x.op wn a = false) := by
          show _ = _
          unfold hit1
          have e1 : ¬ x.op = 1 := by omega
          have e2 : ¬ x.op = 2 := by omega
          simp [e1, e2]
        clear h12
        go_wp2_with fail
        go_meet
        exact ⟨rfl, by rw [hop2.out]⟩
    case rest =>
    obtain ⟨rfl, rfl⟩ := hcut
    have Hst : Hid (∀ h : off = false, a = 1 → (x.op = 1 ∧ hasB N x.place (x.bytes.length : Int) = true ∨ x.op = 2) → Calls Try.prog 11 #[.pointer (some ⟨rd, 0, none⟩), .slice Ap np cp] W0 fun e w' => e = .returned (.tuple #[]) ∧ MidX w3 W0 bx pw nv rd N k x 8 true 0 picks w') := by
      intro h0 h1 h2
      subst h0
      subst h1
      obtain ⟨n1, n2, n3⟩ := Hnp.out
      rw [n1]
      exact HW.out.strike h2 hk3 n2 n3
    have Hgo : Hid (∀ h : off = false, a ≠ 1 → (x.op = 1 ∧ hasB N x.place (x.bytes.length : Int) = true ∨ x.op = 2) → MidX w3 W0 bx pw nv rd N k x 0 false (a - 1) picks W0) := by
      intro h0 h1 h2
      subst h0
      exact HW.out.goes ha h2 h1
    go_upto_if 105 with fail
    go_cut [14, 16, 19] (fun av ov v wx => ∃ (a' want : Nat) (off' : Bool), av = .int .i64 (a' : Int) ∧ ov = .bool off' ∧ v = .int .i64 (want : Int) ∧ Hid (MidS w3 W0 bx pw nv rd N k x picks a' want off' wx))
    case first => as_aux_lemma =>
      clear z0 z1 z2 z3 z4
      cases hh : hit1 x.op wn a
      · have Hm := Lib.hid (Hpl.out hh)
        clear hh
        go_wp2_with fail
        go_meet
        exact ⟨a, wn, off, rfl, rfl, rfl, Hm.out⟩
      · obtain ⟨f1, f2, f3, f4⟩ := Hhf.out hh
        clear hh
        by_cases h1 : a = 1
        · have Hc := Lib.hid (Hst.out f1 h1 f4)
          subst h1
          clear f1 f2 f3 f4 Hpl Hhf
          go_wp2_with (go_at_call 11; refine Hc.out.mono ?_; rintro e w7 ⟨rfl, hm7⟩; have Hm7 := Lib.hid hm7; clear hm7)
          go_meet
          exact ⟨0, 8, true, by go_num, rfl, rfl, Hm7.out, Nat.zero_le _⟩
        · have Hm := Lib.hid (Hgo.out f1 h1 f4)
          have hb1 : ((a : Int) - 1 == 0) = false := by simp; omega
          have f3' := Lib.hid f3
          have f1' := Lib.hid f1
          have ha1 : (1 : Int) ≤ (a : Int) := by omega
          have ha2 : (a : Int) ≤ 9223372036854775807 := by omega
          clear f1 f3 f4 Hpl Hhf h1
          go_wp2_with fail
          go_meet
          exact ⟨a - 1, 0, false, by go_num, by rw [f1'.out], by rw [f3'.out], Hm.out, by omega⟩
    case rest =>
    obtain ⟨a', want, off', rfl, rfl, rfl, hmid⟩ := hcut
    clear HW Hst Hgo Hpl Hhf
    obtain ⟨wm, rfl⟩ : ∃ wm : World, wm = wc := ⟨_, rfl⟩
    obtain ⟨hmm, ha'⟩ := hmid.out
    have Hmm := Lib.hid hmm
    obtain ⟨g0, g1, g2, g3, g4⟩ := Hz.out
    have y0 := hmm.cellx g0
    have y1 := hmm.cellx g1
    have y2 := hmm.cellx g2
    have y3 := hmm.cellx g3
    have y4 := hmm.cellx g4
    clear hmm g0 g1 g2 g3 g4 z0 z1 z2 z3 z4 hmid
    go_upto_block 2 with fail
    go_cut [14, 15, 16, 20] (fun av pv ov gv wx => ∃ (a2 np2 got : Nat) (off2 : Bool) (A9 : Option Addr) (c9 : Nat), av = .int .i64 (a2 : Int) ∧ pv = .slice A9 np2 c9 ∧ ov = .bool off2 ∧ gv = .int .i64 (got : Int) ∧ Hid (End w3 W0 bx pw nv rd N k x want got a2 np2 off2 A9 wx))
    case first => as_aux_lemma =>
      by_cases h1 : x.op = 1
      · have Hgot : Hid (want = if act12 x.op then want else 0) := by show _ = _; rw [if_pos (by simp [act12, h1])]
        have h1' : (x.op == 1) = true := by simpa using h1
        obtain ⟨hf, hhf⟩ : ∃ hf, hf = x.bytes.length / 2 := ⟨_, rfl⟩
        obtain ⟨i1, i2, i3, i4, i5, i6, i7, i8, i9, i10⟩ := Hx.out
        have hs1 : ∀ W, (Instr.slice 35 (.slice A1 x.bytes.length c1) none (some (.int .i64 (hf : Int))) none).run Try.prog W = .ok (.slice A1 hf c1) W := fun W => slice_front A1 _ c1 hf (by omega) W
        have hs2 : ∀ W, (Instr.slice 35 (.slice A1 x.bytes.length c1) (some (.int .i64 (hf : Int))) none none).run Try.prog W = .ok (.slice (cutAt A1 c1 hf) (x.bytes.length - hf) (c1 - hf)) W := fun W => slice_back A1 _ c1 hf (by omega) W
        have hq : (x.bytes.length : Int) / 2 = (hf : Int) := by omega
        have HWr : Hid (∀ q, Calls Try.prog 12 #[.pointer (some ⟨nv, 0, none⟩), .int .i64 x.place, .slice (some ⟨wm.heap.size, 0, none⟩) 2 2] ((wm.drewN q).alloc (.cells #[.slice A1 hf c1, .slice (cutAt A1 c1 hf) (x.bytes.length - hf) (c1 - hf)] 35)) fun e w' => e = .returned (.int .i64 (want : Int)) ∧ (w'.cell? ⟨bx, 1, none⟩ = some (.int .i64 x.place) ∧ w'.cell? ⟨bx, 3, none⟩ = some (.slice A1 x.bytes.length c1)) ∧
            Hid (want = 0 → Calls Try.prog 13 #[.pointer (some ⟨rd, 0, none⟩), .int .i64 x.place, .slice A1 x.bytes.length c1] w' fun e w2 => e = .returned (.tuple #[]) ∧ PlX w3 W0 bx pw nv rd N (k + 1) off' a' picks w2) ∧ Hid (want ≠ 0 → PlX w3 W0 bx pw nv rd N (k + 1) off' a' picks w')) := by
          intro q
          rw [hhf]
          refine (Hmm.out.write h1 hk3 i1 i2 i7 i9 q).mono fun e w' ⟨he, g, gf⟩ => ⟨he, ⟨g.cellx Hz.out.2.1, g.cellx Hz.out.2.2.2.1⟩, fun h0 => ?_, fun h0 => g.plx h0⟩
          subst h0
          exact g.rwrite (gf rfl) hk3 i1 i7
        have hLc : (x.bytes.length : Int) ≤ (c1 : Int) := by omega
        have HZ : Hid (∀ o9 : Obj, (wm.alloc o9).cell? ⟨bx, 1, none⟩ = some (.int .i64 x.place) ∧ (wm.alloc o9).cell? ⟨bx, 3, none⟩ = some (.slice A1 x.bytes.length c1)) := fun o9 => ⟨(World.cell?_alloc_lt wm o9 ⟨bx, _, none⟩ (cell_lt y1)).trans y1, (World.cell?_alloc_lt wm o9 ⟨bx, _, none⟩ (cell_lt y3)).trans y3⟩
        generalize hm2 : x.bytes.length - hf = m2 at *
        generalize hm3 : c1 - hf = c2' at *
        generalize hm4 : cutAt A1 c1 hf = A1' at *
        generalize x.bytes.length = Lb at *
        have hLb : (Lb : Int) ≤ 5000 := by omega
        clear hm2 hm3 hm4 hhf i1 i2 i3 i4 i5 i6 i7 i8 i9 i10 h1 y2 y4 Hmm
        go_upto_region 34 with fail
        go_region_held3 (fun W => W.cell? ⟨bx, 1, none⟩ = some (.int .i64 x.place) ∧ W.cell? ⟨bx, 3, none⟩ = some (.slice A1 Lb c1)) (first | exact ⟨y1, y3⟩ | exact HZ.out _ | exact ⟨t1, t3⟩)
          (first | (go_at_call 12; refine (HWr.out _).mono ?_; rintro e w7 ⟨rfl, ⟨t1, t3⟩, Hn1, Hn2⟩))
        all_goals
          by_cases hw0 : want = 0
          · have Hn3 := Lib.hid (Hn1.out hw0)
            have hw0' : ((want : Int) == 0) = true := by simp [hw0]
            clear hw0 Hn1 Hn2
            go_wp2_with (go_at_call 13; refine Hn3.out.mono ?_; rintro e w8 ⟨rfl, hp8⟩; have Hp8 := Lib.hid hp8; clear hp8)
            go_meet
            exact ⟨a', np, want, off', Ap, cp, rfl, rfl, rfl, rfl, picks, Hp8.out, ha', Hnp.out.1, Hnp.out.2.1, Hnp.out.2.2, Hgot.out⟩
          · have Hn3 := Lib.hid (Hn2.out hw0)
            have hw0' : ((want : Int) == 0) = false := by simp [hw0]
            clear hw0 Hn1 Hn2
            go_wp2_with fail
            go_meet
            exact ⟨a', np, want, off', Ap, cp, rfl, rfl, rfl, rfl, picks, Hn3.out, ha', Hnp.out.1, Hnp.out.2.1, Hnp.out.2.2, Hgot.out⟩
      have h1' : (x.op == 1) = false := by simpa using h1
      by_cases h2 : x.op = 2
      · have Hgot : Hid (want = if act12 x.op then want else 0) := by show _ = _; rw [if_pos (by simp [act12, h2])]
        have h2' : (x.op == 2) = true := by simpa using h2
        have HPs := Lib.hid (Hmm.out.persist h2 hk3)
        clear h1 h2 y1 y2 y3 y4 Hmm
        by_cases hw0 : want = 0
        · have hw0' : ((want : Int) == 0) = true := by simp [hw0]
          have Hw0 := Lib.hid hw0
          clear hw0
          go_wp2_with (first
            | (go_at_call 14; refine HPs.out.mono ?_; rintro e w7 ⟨rfl, hg⟩; rw [Hw0.out] at hg; have Hrp := Lib.hid (hg.rpersist hk3); clear hg)
            | (go_at_call 15; refine Hrp.out.mono ?_; rintro e w8 ⟨rfl, hp8⟩; have Hp8 := Lib.hid hp8; clear hp8))
          go_meet
          exact ⟨a', np, want, off', Ap, cp, rfl, rfl, rfl, rfl, picks, Hp8.out, ha', Hnp.out.1, Hnp.out.2.1, Hnp.out.2.2, Hgot.out⟩
        · have hw0' : ((want : Int) == 0) = false := by simp [hw0]
          have Hw0 := Lib.hid hw0
          clear hw0
          go_wp2_with (first
            | (go_at_call 14; refine HPs.out.mono ?_; rintro e w7 ⟨rfl, hg⟩; have Hp8 := Lib.hid (hg.plx Hw0.out); clear hg))
          go_meet
          exact ⟨a', np, want, off', Ap, cp, rfl, rfl, rfl, rfl, picks, Hp8.out, ha', Hnp.out.1, Hnp.out.2.1, Hnp.out.2.2, Hgot.out⟩
      have h2' : (x.op == 2) = false := by simpa using h2
      have Hgot : Hid (0 = if act12 x.op then want else 0) := by show _ = _; rw [if_neg (by simp [act12, h1, h2])]
      have HP := Lib.hid (Hmm.out.plx h1 h2)
      obtain ⟨i1, i2, i3, i4, i5, i6, i7, i8, i9, i10⟩ := Hx.out
      clear h1 h2 Hmm
      by_cases h3 : x.op = 3
      · have h3' : (x.op == 3) = true := by simpa using h3
        have Hc := Lib.hid (HP.out.cut hk3 (c := c2) i4 (by omega))
        have hz4 := Lib.hid Hz.out.2.2.2.2
        clear h3 y1 y2 y3 i1 i2 i3 i4 i5 i6 i7 i8 i9 i10 HP
        generalize x.picks.length = Lp at *
        go_wp2_with (first
          | (go_at_call 16; refine Hc.out.mono ?_; rintro e w7 ⟨rfl, hcx, hrc⟩; have t4 := hcx 4 _ hz4.out; have Hrc := Lib.hid hrc; clear hcx hrc)
          | (go_at_call 11; refine Hrc.out.mono ?_; rintro e w8 ⟨rfl, hp8⟩; have Hp8 := Lib.hid hp8; clear hp8))
        go_meet
        exact ⟨a', np, 0, off', Ap, cp, rfl, rfl, rfl, rfl, picks, Hp8.out, ha', Hnp.out.1, Hnp.out.2.1, Hnp.out.2.2, Hgot.out⟩
      have h3' : (x.op == 3) = false := by simpa using h3
      clear h3
      by_cases h4 : x.op = 4
      · have h4' : (x.op == 4) = true := by simpa using h4
        have Hc := Lib.hid (HP.out.arm x.num (c := c2) i4 (by omega))
        have Hri : Hid (RI w3 w3.heap.size A2 x.picks ∧ x.picks.length ≤ 1048576) := ⟨i4, by omega⟩
        have Hzz : Hid (W0.cell? ⟨bx, 2, none⟩ = some (.int .i64 x.num) ∧ W0.cell? ⟨bx, 4, none⟩ = some (.slice A2 x.picks.length c2)) := ⟨Hz.out.2.2.1, Hz.out.2.2.2.2⟩
        have Hmax : Hid ((max x.num 1).toNat ≤ 9223372036854775807) := by show _ ≤ _; omega
        obtain ⟨Lp, hLp⟩ : ∃ Lp, Lp = x.picks.length := ⟨_, rfl⟩
        have HLp := Lib.hid hLp
        rw [← hLp] at Hc Hzz y4
        by_cases hn : x.num < 1
        · have Hm : Hid ((max x.num 1).toNat = 1) := by show _ = _; omega
          clear h4 y1 y3 i1 i2 i3 i4 i5 i6 i7 i8 i9 i10 HP hLp
          go_wp2_with (first
            | (go_at_call 17; refine Hc.out.mono ?_; rintro e w7 ⟨rfl, hp8⟩; have t2 := hp8.cellx Hzz.out.1; have t4 := hp8.cellx Hzz.out.2; have Hp8 := Lib.hid hp8; clear hp8))
          go_meet
          have Hp9 : Hid (PlX w3 W0 bx pw nv rd N (k + 1) off' 1 x.picks w7) := by
            have := Hp8.out
            rw [Hm.out] at this
            exact this
          exact ⟨1, Lp, 0, off', A2, c2, rfl, rfl, rfl, rfl, x.picks, Hp9.out, by omega, HLp.out, Hri.out.1, Hri.out.2, Hgot.out⟩
        · have Hm : Hid (((max x.num 1).toNat : Int) = x.num) := by show _ = _; omega
          have hn' : 1 ≤ x.num := by omega
          clear hn h4 y1 y3 i1 i2 i3 i4 i5 i6 i7 i8 i9 i10 HP hLp
          go_wp2_with (first
            | (go_at_call 17; refine Hc.out.mono ?_; rintro e w7 ⟨rfl, hp8⟩; have t2 := hp8.cellx Hzz.out.1; have t4 := hp8.cellx Hzz.out.2; have Hp8 := Lib.hid hp8; clear hp8))
          go_meet
          exact ⟨(max x.num 1).toNat, Lp, 0, off', A2, c2, congrArg (Value.int IntKind.i64) Hm.out.symm, rfl, rfl, rfl, x.picks, Hp8.out, Hmax.out, HLp.out, Hri.out.1, Hri.out.2, Hgot.out⟩
      have h4' : (x.op == 4) = false := by simpa using h4
      clear h4
      by_cases h5 : x.op = 5
      · have h5' : (x.op == 5) = true := by simpa using h5
        have Hc := Lib.hid HP.out.on
        clear h5 y1 y2 y3 y4 i1 i2 i3 i4 i5 i6 i7 i8 i9 i10 HP
        go_wp2_with (first
          | (go_at_call 18; refine Hc.out.mono ?_; rintro e w7 ⟨rfl, hp8⟩; have Hp8 := Lib.hid hp8; clear hp8))
        go_meet
        exact ⟨a', np, 0, false, Ap, cp, rfl, rfl, rfl, rfl, picks, Hp8.out, ha', Hnp.out.1, Hnp.out.2.1, Hnp.out.2.2, Hgot.out⟩
      have h5' : (x.op == 5) = false := by simpa using h5
      have Hp8 := Lib.hid HP.out.more
      clear h5 y1 y2 y3 y4 i1 i2 i3 i4 i5 i6 i7 i8 i9 i10 HP
      go_wp2_with fail
      go_meet
      exact ⟨a', np, 0, off', Ap, cp, rfl, rfl, rfl, rfl, picks, Hp8.out, ha', Hnp.out.1, Hnp.out.2.1, Hnp.out.2.2, Hgot.out⟩
    case rest =>
    obtain ⟨a2, np2, got, off2, A9, c9, rfl, rfl, rfl, rfl, hend⟩ := hcut
    clear Hmm y0 y1 y2 y3 y4
    obtain ⟨wq, rfl⟩ : ∃ wq : World, wq = wc := ⟨_, rfl⟩
    obtain ⟨picks2, e1, e2, e3, e4, e5, e6⟩ := hend.out
    have v0 := e1.cellx Hz.out.1
    have He1 := Lib.hid e1
    have He : Hid (np2 = picks2.length ∧ RI w3 w3.heap.size A9 picks2 ∧ picks2.length ≤ 1048576) := ⟨e3, e4, e5⟩
    have Hge := Lib.hid e6
    clear e1 e3 e4 e5 e6 hend Hnp Hp Hbw Hx
    go_upto_region 53 with fail
    go_cut [185] (fun v wx => wq = wx ∧ v = .bool (!act12 x.op))
    case first => as_aux_lemma =>
      by_cases h2 : 2 < x.op
      · have Hb : Hid (act12 x.op = false) := by
          show _ = _
          have q1 : ¬ x.op = 1 := by omega
          have q2 : ¬ x.op = 2 := by omega
          simp [act12, q1, q2]
        go_wp2_with fail
        go_meet
        exact ⟨rfl, by rw [Hb.out]; rfl⟩
      · have h2' : x.op ≤ 2 := by omega
        by_cases h1 : x.op < 1
        · have Hb : Hid (act12 x.op = false) := by
            show _ = _
            have q1 : ¬ x.op = 1 := by omega
            have q2 : ¬ x.op = 2 := by omega
            simp [act12, q1, q2]
          clear h2
          go_wp2_with fail
          go_meet
          exact ⟨rfl, by rw [Hb.out]; rfl⟩
        · have Hb : Hid (act12 x.op = true) := by
            show _ = _
            have q1 : x.op = 1 ∨ x.op = 2 := by omega
            rcases q1 with q1 | q1 <;> simp [act12, q1]
          have h1' : 1 ≤ x.op := by omega
          clear h2 h1
          go_wp2_with fail
          go_meet
          exact ⟨rfl, by
            rw [Hb.out]
            have q1 : ¬ 2 < x.op := by omega
            have q2 : ¬ x.op < 1 := by omega
            simp [q1, q2]⟩
    case rest =>
    obtain ⟨rfl, rfl⟩ := hcut
    go_upto_if 185 with fail
    go_cut [19] (fun v wx => wq = wx ∧ v = .int .i64 (got : Int))
    case first => as_aux_lemma =>
      rcases hb : act12 x.op with _ | _
      · have Hg : Hid (got = 0) := by
          show _ = _
          rw [Hge.out, hb]; rfl
        clear hb v0
        go_wp2_with fail
        go_meet
        exact ⟨rfl, by rw [Hg.out]; rfl⟩
      · have Hg : Hid (got = want) := by
          show _ = _
          rw [Hge.out, hb]; rfl
        clear hb v0
        go_wp2_with fail
        go_meet
        exact ⟨rfl, by rw [Hg.out]⟩
    case rest =>
    obtain ⟨rfl, rfl⟩ := hcut
    obtain ⟨pn, Al, cl, d1, hpe, hof⟩ := He1.out.pl.look
    have Hpe := Lib.hid hpe
    have Hof := Lib.hid hof
    clear hpe hof v0 Hge
    go_upto_region 55 with fail
    go_quiet ((first | (go_at_call 19; exact Calls.quiet_of_same (Hof.out _)) | (go_at_call 20; exact Calls.quiet_of_same (Hpe.out _))))
    have HP2 := Lib.hid (He1.out.pl.drewN nq)
    generalize wq.drewN nq = ws at *
    clear He1 Hpe Hof d1
    cases off2
    · as_aux_lemma =>
      have Hrd : Hid (Calls Try.prog 21 #[.pointer (some ⟨nv, 0, none⟩), .int .i64 0, .int .i64 (N : Int)] ws fun e w' => _) := HP2.out.readAll hN2 (by omega)
      go_wp2_with fail
      refine Hrd.out.mono ?_
      rintro e w9 ⟨Ab, cb, rfl, hp9, X, tx, hall⟩
      have Hall := Lib.hid hall
      have txd : (convert 35 9 (.slice Ab N cb)).run Try.prog w9.drew = .ok (.string X) w9.drew := tx 1
      clear hall hp9 Hrd HP2 tx
      go_upto_region 58 with fail
      refine wp_region_noPanic ?_
      refine wp_region_held_drew (S := (fun W => (convert 35 9 (.slice Ab N cb)).run Try.prog W = .ok (.string X) W)) (by kernel_rfl) ?_ (fun hHeld => ?_)
      · try dsimp only
        first | exact txd | exact tx1
      refine wpAnyH_take (i := 0) (v := ?_) rfl (by kernel_rfl) (by kernel_rfl) (by kernel_rfl) (fun _ _ _ h => h) (Or.inl ⟨by rfl, ?_⟩) (by assumption) ?_
      rotate_left
      · intro w hSw
        try dsimp only at hSw
        simp only [List.getElem_toArray, List.getElem_cons_succ, List.getElem_cons_zero]
        go_simp
        try with_reducible rfl
      simp only [List.getElem_toArray, List.getElem_cons_succ, List.getElem_cons_zero]
      try simp only [Act.put, List.setIfInBounds_toArray, List.set_cons_zero, List.set_cons_succ]
      refine wpAnyH_take (i := 1) (v := ?_) rfl (by kernel_rfl) (by kernel_rfl) (by kernel_rfl) (fun _ _ _ h => h) (Or.inl ⟨by rfl, ?_⟩) (by assumption) ?_
      rotate_left
      · intro w hSw
        try dsimp only at hSw
        simp only [List.getElem_toArray, List.getElem_cons_succ, List.getElem_cons_zero]
        go_simp
        try with_reducible rfl
      simp only [List.getElem_toArray, List.getElem_cons_succ, List.getElem_cons_zero]
      try simp only [Act.put, List.setIfInBounds_toArray, List.set_cons_zero, List.set_cons_succ]
      refine wpAnyH_take (i := 2) (v := undef) rfl (by kernel_rfl) (by kernel_rfl) (by kernel_rfl) (fun _ _ _ h => h) (Or.inr ⟨by rfl, rfl⟩) (by assumption) ?_
      try simp only [List.getElem_toArray, List.getElem_cons_succ, List.getElem_cons_zero]
      try simp only [Act.put, List.setIfInBounds_toArray, List.set_cons_zero, List.set_cons_succ]
      refine wpAnyH_take (i := 3) (v := undef) rfl (by kernel_rfl) (by kernel_rfl) (by kernel_rfl) (fun _ _ _ h => h) (Or.inr ⟨by rfl, rfl⟩) (by assumption) ?_
      try simp only [List.getElem_toArray, List.getElem_cons_succ, List.getElem_cons_zero]
      try simp only [Act.put, List.setIfInBounds_toArray, List.set_cons_zero, List.set_cons_succ]
      refine wpAnyH_take (i := 4) (v := ?_) rfl (by kernel_rfl) (by kernel_rfl) (by kernel_rfl) (fun _ _ _ h => h) (Or.inl ⟨by rfl, ?_⟩) (by assumption) ?_
      rotate_left
      · intro w hSw
        try dsimp only at hSw
        simp only [List.getElem_toArray, List.getElem_cons_succ, List.getElem_cons_zero]
        go_simp
        try with_reducible rfl
      simp only [List.getElem_toArray, List.getElem_cons_succ, List.getElem_cons_zero]
      try simp only [Act.put, List.setIfInBounds_toArray, List.set_cons_zero, List.set_cons_succ]
      refine wpAnyH_take (i := 5) (v := ?_) rfl (by kernel_rfl) (by kernel_rfl) (by kernel_rfl) (fun _ _ _ h => h) (Or.inl ⟨by rfl, ?_⟩) (by assumption) ?_
      rotate_left
      · intro w hSw
        try dsimp only at hSw
        simp only [List.getElem_toArray, List.getElem_cons_succ, List.getElem_cons_zero]
        go_simp
        try with_reducible rfl
      simp only [List.getElem_toArray, List.getElem_cons_succ, List.getElem_cons_zero]
      try simp only [Act.put, List.setIfInBounds_toArray, List.set_cons_zero, List.set_cons_succ]
      refine wpAnyH_take (i := 6) (v := ?_) rfl (by kernel_rfl) (by kernel_rfl) (by kernel_rfl) (fun _ _ _ h => h) (Or.inl ⟨by rfl, ?_⟩) (by assumption) ?_
      rotate_left
      · intro w hSw
        try dsimp only at hSw
        simp only [List.getElem_toArray, List.getElem_cons_succ, List.getElem_cons_zero]
        go_simp
        try with_reducible rfl
      simp only [List.getElem_toArray, List.getElem_cons_succ, List.getElem_cons_zero]
      try simp only [Act.put, List.setIfInBounds_toArray, List.set_cons_zero, List.set_cons_succ]
      refine wpAnyH_take (i := 7) (v := ?_) rfl (by kernel_rfl) (by kernel_rfl) (by kernel_rfl) (fun _ _ _ h => h) (Or.inl ⟨by rfl, ?_⟩) (by assumption) ?_
      rotate_left
      · intro w hSw
        try dsimp only at hSw
        simp only [List.getElem_toArray, List.getElem_cons_succ, List.getElem_cons_zero]
        go_simp
        try with_reducible rfl
      simp only [List.getElem_toArray, List.getElem_cons_succ, List.getElem_cons_zero]
      try simp only [Act.put, List.setIfInBounds_toArray, List.set_cons_zero, List.set_cons_succ]
      refine wpAnyH_take (i := 8) (v := ?_) rfl (by kernel_rfl) (by kernel_rfl) (by kernel_rfl) (fun _ _ _ h => h) (Or.inl ⟨by rfl, ?_⟩) (by assumption) ?_
      rotate_left
      · intro w hSw
        try dsimp only at hSw
        simp only [List.getElem_toArray, List.getElem_cons_succ, List.getElem_cons_zero]
        go_simp
        try with_reducible rfl
      simp only [List.getElem_toArray, List.getElem_cons_succ, List.getElem_cons_zero]
      try simp only [Act.put, List.setIfInBounds_toArray, List.set_cons_zero, List.set_cons_succ]
      refine wpAnyH_take (i := 9) (v := ?_) rfl (by kernel_rfl) (by kernel_rfl) (by kernel_rfl) (fun _ _ _ h => h) (Or.inl ⟨by rfl, ?_⟩) (by assumption) ?_
      rotate_left
      · intro w hSw
        try dsimp only at hSw
        simp only [List.getElem_toArray, List.getElem_cons_succ, List.getElem_cons_zero]
        go_simp
        try with_reducible rfl
      simp only [List.getElem_toArray, List.getElem_cons_succ, List.getElem_cons_zero]
      try simp only [Act.put, List.setIfInBounds_toArray, List.set_cons_zero, List.set_cons_succ]
      refine wpAnyH_take (i := 10) (v := ?_) rfl (by kernel_rfl) (by kernel_rfl) (by kernel_rfl) (fun _ _ _ h => h) (Or.inl ⟨by rfl, ?_⟩) (by assumption) ?_
      rotate_left
      · intro w hSw
        try dsimp only at hSw
        simp only [List.getElem_toArray, List.getElem_cons_succ, List.getElem_cons_zero]
        go_simp
        try with_reducible rfl
      simp only [List.getElem_toArray, List.getElem_cons_succ, List.getElem_cons_zero]
      try simp only [Act.put, List.setIfInBounds_toArray, List.set_cons_zero, List.set_cons_succ]
      refine wpAnyH_take (i := 11) (v := ?_) rfl (by kernel_rfl) (by kernel_rfl) (by kernel_rfl) (fun _ _ _ h => h) (Or.inl ⟨by rfl, ?_⟩) (by assumption) ?_
      rotate_left
      · intro w hSw
        try dsimp only at hSw
        simp only [List.getElem_toArray, List.getElem_cons_succ, List.getElem_cons_zero]
        go_simp
        try with_reducible rfl
      simp only [List.getElem_toArray, List.getElem_cons_succ, List.getElem_cons_zero]
      try simp only [Act.put, List.setIfInBounds_toArray, List.set_cons_zero, List.set_cons_succ]
      refine wpAnyH_take (i := 12) (v := ?_) rfl (by kernel_rfl) (by kernel_rfl) (by kernel_rfl) (fun _ _ _ h => h) (Or.inl ⟨by rfl, ?_⟩) (by assumption) ?_
      rotate_left
      · intro w hSw
        try dsimp only at hSw
        simp only [List.getElem_toArray, List.getElem_cons_succ, List.getElem_cons_zero]
        go_simp
        try with_reducible rfl
      simp only [List.getElem_toArray, List.getElem_cons_succ, List.getElem_cons_zero]
      try simp only [Act.put, List.setIfInBounds_toArray, List.set_cons_zero, List.set_cons_succ]
      refine wpAnyH_take (i := 13) (v := ?_) rfl (by kernel_rfl) (by kernel_rfl) (by kernel_rfl) (fun _ _ _ h => h) (Or.inl ⟨by rfl, ?_⟩) (by assumption) ?_
      rotate_left
      · intro w hSw
        try dsimp only at hSw
        simp only [List.getElem_toArray, List.getElem_cons_succ, List.getElem_cons_zero]
        go_simp
        try with_reducible rfl
      simp only [List.getElem_toArray, List.getElem_cons_succ, List.getElem_cons_zero]
      try simp only [Act.put, List.setIfInBounds_toArray, List.set_cons_zero, List.set_cons_succ]
      refine wpAnyH_take (i := 14) (v := ?_) rfl (by kernel_rfl) (by kernel_rfl) (by kernel_rfl) (fun _ _ _ h => h) (Or.inl ⟨by rfl, ?_⟩) (by assumption) ?_
      rotate_left
      · intro w hSw
        try dsimp only at hSw
        simp only [List.getElem_toArray, List.getElem_cons_succ, List.getElem_cons_zero]
        go_simp
        try with_reducible rfl
      simp only [List.getElem_toArray, List.getElem_cons_succ, List.getElem_cons_zero]
      try simp only [Act.put, List.setIfInBounds_toArray, List.set_cons_zero, List.set_cons_succ]
      refine wpAnyH_ready (rs := [15]) (by kernel_rfl) (by simp) ?_
      refine AllReadyH.cons rfl (fun K hK => ?_) ?_
      · skip
        simp only [List.getElem_toArray, List.getElem_cons_succ, List.getElem_cons_zero]
        go_simp
        (go_at_call 22; refine (Hall.out 1).mono ?_; rintro e w8 ⟨A8, c8, rfl, hc8, tx1, tx2, hp8⟩; have Hp8 := Lib.hid hp8; clear hp8)
        refine hK.out _ _ ?_ (fun hHeld => ?_)
        · try dsimp only
          first | exact txd | exact tx1
        clear hK K
        try simp only [List.getElem_toArray, List.getElem_cons_succ, List.getElem_cons_zero]
        try simp only [Act.put, List.setIfInBounds_toArray, List.set_cons_zero, List.set_cons_succ]
        refine wpAnyH_ready (rs := [16]) (by kernel_rfl) (by simp) ?_
        refine AllReadyH.cons rfl (fun K hK => ?_) ?_
        · skip
          simp only [List.getElem_toArray, List.getElem_cons_succ, List.getElem_cons_zero]
          go_simp
          refine hK.out _ _ ?_ (fun hHeld => ?_)
          · try dsimp only
            first | exact txd | exact tx1
          clear hK K
          try simp only [List.getElem_toArray, List.getElem_cons_succ, List.getElem_cons_zero]
          try simp only [Act.put, List.setIfInBounds_toArray, List.set_cons_zero, List.set_cons_succ]
          refine wpAnyH_take (i := 17) (v := ?_) rfl (by kernel_rfl) (by kernel_rfl) (by kernel_rfl) (fun _ _ _ h => h) (Or.inl ⟨by rfl, ?_⟩) (by assumption) ?_
          rotate_left
          · intro w hSw
            try dsimp only at hSw
            simp only [List.getElem_toArray, List.getElem_cons_succ, List.getElem_cons_zero]
            go_simp
            try with_reducible rfl
          simp only [List.getElem_toArray, List.getElem_cons_succ, List.getElem_cons_zero]
          try simp only [Act.put, List.setIfInBounds_toArray, List.set_cons_zero, List.set_cons_succ]
          refine wpAnyH_take (i := 18) (v := ?_) rfl (by kernel_rfl) (by kernel_rfl) (by kernel_rfl) (fun _ _ _ h => h) (Or.inl ⟨by rfl, ?_⟩) (by assumption) ?_
          rotate_left
          · intro w hSw
            try dsimp only at hSw
            simp only [List.getElem_toArray, List.getElem_cons_succ, List.getElem_cons_zero]
            go_simp
            try with_reducible rfl
          simp only [List.getElem_toArray, List.getElem_cons_succ, List.getElem_cons_zero]
          try simp only [Act.put, List.setIfInBounds_toArray, List.set_cons_zero, List.set_cons_succ]
          refine wpAnyH_take (i := 19) (v := ?_) rfl (by kernel_rfl) (by kernel_rfl) (by kernel_rfl) (fun _ _ _ h => h) (Or.inl ⟨by rfl, ?_⟩) (by assumption) ?_
          rotate_left
          · intro w hSw
            try dsimp only at hSw
            simp only [List.getElem_toArray, List.getElem_cons_succ, List.getElem_cons_zero]
            go_simp
            try with_reducible rfl
          simp only [List.getElem_toArray, List.getElem_cons_succ, List.getElem_cons_zero]
          try simp only [Act.put, List.setIfInBounds_toArray, List.set_cons_zero, List.set_cons_succ]
          refine wpAnyH_take (i := 20) (v := ?_) rfl (by kernel_rfl) (by kernel_rfl) (by kernel_rfl) (fun _ _ _ h => h) (Or.inl ⟨by rfl, ?_⟩) (by assumption) ?_
          rotate_left
          · intro w hSw
            try dsimp only at hSw
            simp only [List.getElem_toArray, List.getElem_cons_succ, List.getElem_cons_zero]
            go_simp
            try with_reducible rfl
          simp only [List.getElem_toArray, List.getElem_cons_succ, List.getElem_cons_zero]
          try simp only [Act.put, List.setIfInBounds_toArray, List.set_cons_zero, List.set_cons_succ]
          refine wpAnyH_done (by kernel_rfl) ?_ _
          refine NoPanic.normal ?_
          go_wp2_with fail
          go_roundw
          case rel => exact ⟨a2, np2, k + 1, false, A9, c9, rfl, rfl, rfl, by go_num, by omega, e2, picks2, Hp8.out, He.out.1, He.out.2.1, He.out.2.2⟩
          case measure => simp [intOf]; omega
        exact AllReadyH.nil
      exact AllReadyH.nil
    · as_aux_lemma =>
      have Hrd : Hid (Calls Try.prog 21 #[.pointer (some ⟨nv, 0, none⟩), .int .i64 0, .int .i64 (N : Int)] ws fun e w' => _) := HP2.out.readOff 0 (N : Int) (by omega)
      go_wp2_with fail
      refine Hrd.out.mono ?_
      rintro e w9 ⟨Ab, m9, cb, rfl, hp9⟩
      have Hp9 := Lib.hid hp9
      clear hp9 Hrd HP2
      go_upto_region 58 with fail
      go_quiet (fail)
      all_goals
        go_wp2_with fail
        go_roundw
        case rel => exact ⟨a2, np2, k + 1, true, A9, c9, rfl, rfl, rfl, by go_num, by omega, e2, picks2, Hp9.out.drewN _, He.out.1, He.out.2.1, He.out.2.2⟩
        case measure => simp [intOf]; omega
end Go.Proofs.Ytoeeppecinjiiaa
