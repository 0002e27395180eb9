/-
  The program's writer of records.
-/
import Derived.Test.YtlgeknibdgamgaaDoorRecSpec
import Derived.Test.YtlgeknibdgamgaaDoorNumber
import Derived.Test.YtlgeknibdgamgaaDoorSum
import Derived.StillTailTactics
import Derived.Deep.RegionWith
import Derived.Deep.DeepFit
import Derived.Deep.DeepMust
namespace Go.Proofs.YtlgeknibdgamgaaDoor
open Go.RowKit

/-- how the world stands while a block of the call's own is filled -/
structure FS (w W : World) (G n : Nat) (l : List UInt8) : Prop where
  len : l.length = n
  blk : Blk W G l
  bel : Below w.heap.size w W
  ge : w.heap.size ≤ G
theorem FS.put {w W W' : World} {G n off : Nat} {l r : List UInt8} (h : FS w W G n l) (hb : Below G W W') (hl : Blk W' G (splat l off r)) (hn : off + r.length ≤ n) : FS w W' G n (splat l off r) :=
  ⟨by rw [splat_length _ _ _ (by rw [h.len]; exact hn), h.len], hl, h.bel.trans (hb.mono h.ge), h.ge⟩
theorem FS.fits {w W : World} {G n : Nat} {l : List UInt8} (h : FS w W G n l) {k : Nat} (hk : k ≤ n) : k ≤ l.length := by rw [h.len]; exact hk
theorem FS.small {w W : World} {G n : Nat} {l : List UInt8} (h : FS w W G n l) (hk : n ≤ 1099511627776) : l.length ≤ 1099511627776 := by rw [h.len]; exact hk
theorem FS.start {w w1 : World} {n : Nat} {l : List UInt8} {cs : Array Value} (hb : Below w.heap.size w w1) (hl : l.length = n) (hcs : cs = (bvs l).toArray) : FS w (w1.alloc (.cells cs 5)) w1.heap.size n l := by
  subst hcs
  exact ⟨hl, heap_alloc_new w1 _, hb.alloc hb.size _, hb.size⟩

/-- the sum, and its store: what both calls tell at a record's end -/
theorem rec_tail (w W5 : World) (G n k seq : Nat) (x nb : List UInt8) (hfs : FS w W5 G n (nb ++ (List.replicate 4 0 ++ recBody seq x))) (htb : Tab W5) (hk : nb.length = k) (hn : n = k + 12 + x.length) (hk10 : k ≤ 10) (hx : x.length ≤ 16777216)
    (hpos : 0 < w.heap.size) :
    ∃ sm : Nat, Hid (sm < 4294967296) ∧
      Hid (Calls Tryd.prog 12 #[.slice (some ⟨W5.heap.size, 0, none⟩) 1 1] (W5.drew.alloc (.cells #[.slice (some ⟨G, k + 4, none⟩) (n - k - 4) (n - k - 4)] 24)) fun e w' => e = .returned (.int .u32 (sm : Nat)) ∧ (W5.drew.alloc (.cells #[.slice (some ⟨G, k + 4, none⟩) (n - k - 4) (n - k - 4)] 24)) = w') ∧
      Hid (Calls Tryd.prog 41 #[.slice (some ⟨G, k, none⟩) 4 (n - k), .int .u64 (sm : Int)] (W5.drew.alloc (.cells #[.slice (some ⟨G, k + 4, none⟩) (n - k - 4) (n - k - 4)] 24))
        fun e w' => e = .returned (.tuple #[]) ∧ Blk w' G (nb ++ (leBytes 4 (sumOf (recBody seq x)) ++ recBody seq x)) ∧ Below w.heap.size w w') := by
  have hbl : (recBody seq x).length = n - k - 4 := by rw [recBody_length]; omega
  have hrb : RB W5.drew (G + 1) (some ⟨G, k + 4, none⟩) (recBody seq x) := by
    have := hfs.blk.rb (k + 4)
    rw [← List.append_assoc, List.drop_left' (by simp [hk])] at this
    exact this
  have hlt := hfs.blk.lt
  have hge := hfs.ge
  have hrbb := RBB.one W5.drew (n - k - 4) 24 hrb hlt (by omega)
  have hblk := (hfs.blk.drew).alloc (.cells #[.slice (some ⟨G, k + 4, none⟩) (recBody seq x).length (n - k - 4)] 24)
  have hb1 : Below W5.heap.size W5 (W5.drew.alloc (.cells #[.slice (some ⟨G, k + 4, none⟩) (recBody seq x).length (n - k - 4)] 24)) := ((Below.refl W5.heap.size W5).drew).alloc (Nat.le_refl _) _
  have htab2 := htb.below hb1 (by omega)
  have hsum := sum_any (some ⟨W5.heap.size, 0, none⟩) 1 [recBody seq x] _ _ htab2 hrbb (by simp) (by simp; omega)
  rw [show [recBody seq x].flatten = recBody seq x from by simp] at hsum
  have hsm := sumOf_lt (recBody seq x)
  have hput := put_any G k 4 (n - k) _ (sumOf (recBody seq x)) _ hblk (by rw [hfs.len]; omega) (by rw [hfs.len]; omega) (by rw [two64_eq]; omega)
  rw [rec_list2 k seq x nb hk] at hput
  rw [hbl] at hsum hput hb1
  refine ⟨sumOf (recBody seq x), hsm, hsum, hput.mono fun e w' ⟨he, h1, h2⟩ => ⟨he, h1, ?_⟩⟩
  exact (hfs.bel.trans (hb1.mono (by omega))).trans (h2.mono hge)

set_option maxRecDepth 200000 in
set_option maxHeartbeats 1000000 in
theorem record_any (seq : Nat) (A : Option Addr) (c : Nat) (x : List UInt8) (w : World) (ht : Tab w) (hr : RB w w.heap.size A x) (hseq : seq < two64) (hx : x.length ≤ 16777216) :
    Calls Tryd.prog 28 #[.int .u64 (seq : Int), .slice A x.length c] w fun e w' => ∃ v, e = .returned v ∧ Own w' w.heap.size v (recBytes seq x) ∧ Below w.heap.size w w' := by
  have Ht := Lib.hid ht
  have Hr := Lib.hid hr
  have Hseq := Lib.hid hseq
  clear ht hr hseq
  have hxl : x.length < two64 := by rw [two64_eq]; omega
  have hnum := number_any none 0 [] x.length w w.heap.size (RB.nil _ _ _) (Nat.le_refl _) (by simp) hxl
  have hnum2 : Calls Tryd.prog 24 #[.slice none 0 0, .int .u64 (x.length : Int)] w fun e w' => ∃ b', e = .returned b' ∧ Own w' w.heap.size b' (numBytes x.length) ∧ Below w.heap.size w w' := hnum
  have hk10 := numBytes_ten hxl
  have hkpos := numBytes_pos x.length
  have Hrec : Hid (recBytes seq x = numBytes x.length ++ (leBytes 4 (sumOf (recBody seq x)) ++ recBody seq x)) := rfl
  have Hnum := Lib.hid hnum2
  clear hnum hnum2 hxl
  go_enter Tryd.func28, Tryd.ntmps28
  go_wp2_with fail
  refine Hnum.out.mono ?_
  rintro e w1 ⟨b', rfl, hown, hb1⟩
  obtain ⟨g0, cap0, rfl, hg00, hg0, hcap0, hdead, hdead2⟩ := hown.form hkpos
  clear hdead hdead2
  obtain ⟨A0, c0, he0, _, hr0, _⟩ := hown.rb
  obtain rfl : A0 = some ⟨g0, 0, none⟩ := by injection he0 with h; exact h.symm
  clear he0 hown Hnum
  generalize numBytes x.length = nb at *
  generalize hk : nb.length = k at *
  obtain ⟨n, hn⟩ : ∃ n, n = k + 12 + x.length := ⟨_, rfl⟩
  obtain ⟨cs, hcs, hmk⟩ := make_run n (by omega)
  have hmk' : ∀ u : World, (Instr.makeSlice 24 (.int .i64 ((k : Int) + 12 + (x.length : Int))) (.int .i64 ((k : Int) + 12 + (x.length : Int)))).run Tryd.prog u = .ok (.slice (some ⟨u.heap.size, 0, none⟩) n n) (u.alloc (.cells cs 5)) := by
    have e : ((k : Int) + 12 + (x.length : Int)) = (n : Int) := by omega
    rw [e]
    exact hmk
  clear hmk
  have Hk := Lib.hid hk
  have Hn := Lib.hid hn
  have Hb1 := Lib.hid hb1
  have Hr0 := Lib.hid hr0
  clear hk hn hb1 hr0
  have hfs := FS.start (cs := cs) Hb1.out (List.length_replicate (n := n) (a := (0 : UInt8))) hcs.out
  have hr0' := (Hr0.out).alloc (Nat.le_refl _) (.cells cs 5)
  have hrx := ((Hr.out).below Hb1.out).alloc Hb1.out.size (.cells cs 5)
  have htb : Tab (w1.alloc (.cells cs 5)) := Ht.out.below (Hb1.out.alloc Hb1.out.size _) Ht.out.pos
  have hsz1 := Hb1.out.size
  clear Hr0
  have hn := Hn.out
  have hkk := Hk.out
  obtain ⟨W3, hcopy, hblk, hbel⟩ := copy_run (w1.alloc (.cells cs 5)) w1.heap.size 0 n n (some ⟨g0, 0, none⟩) nb _ cap0 _ hr0' hfs.blk (by omega) (hfs.fits (by omega))
  replace hfs := hfs.put hbel hblk (by omega)
  replace hrx : RB W3 w.heap.size A x := hrx.move (fun p hp => hbel.cell (Nat.lt_of_lt_of_le hp hsz1)) (Nat.le_refl _)
  replace htb : Tab W3 := htb.below hbel (by have := Ht.out.pos; omega)
  rw [hkk] at hcopy
  have Hfs := Lib.hid hfs
  have Hrx := Lib.hid hrx
  have Htb := Lib.hid htb
  have nk : k + 12 ≤ n := by omega
  have nk' : (k : Int) + 12 ≤ (n : Int) := by omega
  have nk0 : ¬ n = k := by omega
  have nk4 : ¬ n - k = 4 := by omega
  have nk12 : 12 ≤ n - k := by omega
  clear hfs hrx htb hbel hblk hr0' hkk hn
  go_wp2_with fail
  clear hcopy hmk' hsz1 Hb1
  generalize w1.heap.size = G at Hfs ⊢
  refine (put_any G (k + 4) 8 (n - k - 4) _ seq _ Hfs.out.blk (Hfs.out.fits (by omega)) (Hfs.out.small (by have := Hn.out; omega)) Hseq.out).mono ?_
  rintro e W4 ⟨rfl, hblk4, hbel4⟩
  have hfs := Hfs.out.put hbel4 hblk4 (by rw [leBytes_length]; omega)
  have hrx : RB W4 w.heap.size A x := Hrx.out.move (fun p hp => hbel4.cell (Nat.lt_of_lt_of_le hp Hfs.out.ge)) (Nat.le_refl _)
  have htb : Tab W4 := Htb.out.below hbel4 (by have := Ht.out.pos; have := Hfs.out.ge; omega)
  have hn := Hn.out
  have hge := hfs.ge
  have hend : ∀ (ad : Addr), (n - k = 12 → ad = ⟨G, k, none⟩) → (¬ n - k = 12 → ad = ⟨G, k + 12, none⟩) → ∃ W5, (Builtin.copy_ #[24, 24] 3 #[.slice (some ad) (n - k - 12) (n - k - 12), .slice A x.length c]).run Tryd.prog W4 = .ok (.int .i64 (x.length : Int)) W5 ∧
      Hid (FS w W5 G n (nb ++ (List.replicate 4 0 ++ recBody seq x))) ∧ Hid (Tab W5) := by
    intro ad h1 h2
    by_cases h12 : n - k = 12
    · rw [h1 h12]
      obtain ⟨W5, hc, hblk5, hbel5⟩ := copy_run W4 G k (n - k - 12) (n - k - 12) A x _ c _ hrx hfs.blk (by omega) (hfs.fits (by omega))
      refine ⟨W5, hc, ?_, htb.below hbel5 (by have := Ht.out.pos; omega)⟩
      have hx0 : x = [] := List.eq_nil_of_length_eq_zero (by omega)
      have := hfs.put hbel5 hblk5 (by omega)
      subst hx0
      rw [splat_nil] at this
      have hl := rec_list n k seq [] nb Hk.out hn
      rw [splat_nil] at hl
      show FS w W5 G n _
      rw [← hl]
      exact this
    · rw [h2 h12]
      obtain ⟨W5, hc, hblk5, hbel5⟩ := copy_run W4 G (k + 12) (n - k - 12) (n - k - 12) A x _ c _ hrx hfs.blk (by omega) (hfs.fits (by omega))
      refine ⟨W5, hc, ?_, htb.below hbel5 (by have := Ht.out.pos; omega)⟩
      have := hfs.put hbel5 hblk5 (by omega)
      rw [rec_list n k seq x nb Hk.out hn] at this
      exact this
  have Hend := Lib.hid hend
  have Hge := Lib.hid hge
  clear hend hfs htb hrx hblk4 hbel4 hn hge Hfs Hrx Htb
  by_cases h12 : n - k = 12
  · obtain ⟨W5, hcopy, Hfs2, Htb2⟩ := Hend.out ⟨G, k, none⟩ (fun _ => rfl) (fun h => absurd h12 h)
    have hd : (n - k = 12) = True := by simp [h12]
    clear h12 Hend
    go_wp2_with fail
    have htl := rec_tail w W5 G n k seq x nb Hfs2.out Htb2.out Hk.out Hn.out (by omega) hx Ht.out.pos
    obtain ⟨sm, hsm, Hsum, Hput⟩ := htl
    have hw : IntKind.u64.wrap (sm : Int) = (sm : Int) := by rw [IntKind.wrap_u64]; have := hsm.out; omega
    have n4' : (4 : Int) ≤ ((n - k : Nat) : Int) := by omega
    have n4'' : 4 ≤ n - k := by omega
    have Hown : Hid (∀ W8, Blk W8 G (recBytes seq x) → Own W8 w.heap.size (.slice (some ⟨G, 0, none⟩) n n) (recBytes seq x)) := fun W8 h => by
      have hlen : (recBytes seq x).length = n := by
        rw [Hrec.out, List.length_append, List.length_append, recBody_length, leBytes_length, Hk.out]
        have := Hn.out
        omega
      have := h.own (base := w.heap.size) Hge.out (by rw [hlen]; have := Hn.out; omega)
      rw [hlen] at this
      exact this
    rw [Hrec.out] at Hown
    clear hcopy nk nk' nk0 nk12
    go_region_with (first | (go_at_call 12; refine Hsum.out.mono ?_; rintro e w' ⟨rfl, rfl⟩) | (go_at_call 41; refine Hput.out.mono ?_; rintro e W8 ⟨rfl, hblk8, hbel8⟩))
    all_goals
      go_wp2_with fail
      go_ret
      exact ⟨_, rfl, by rw [Hrec.out]; exact Hown.out _ hblk8, hbel8⟩
  · obtain ⟨W5, hcopy, Hfs2, Htb2⟩ := Hend.out ⟨G, k + 12, none⟩ (fun h => absurd h h12) (fun _ => rfl)
    clear Hend
    go_wp2_with fail
    have htl := rec_tail w W5 G n k seq x nb Hfs2.out Htb2.out Hk.out Hn.out (by omega) hx Ht.out.pos
    obtain ⟨sm, hsm, Hsum, Hput⟩ := htl
    have hw : IntKind.u64.wrap (sm : Int) = (sm : Int) := by rw [IntKind.wrap_u64]; have := hsm.out; omega
    have n4' : (4 : Int) ≤ ((n - k : Nat) : Int) := by omega
    have n4'' : 4 ≤ n - k := by omega
    have Hown : Hid (∀ W8, Blk W8 G (recBytes seq x) → Own W8 w.heap.size (.slice (some ⟨G, 0, none⟩) n n) (recBytes seq x)) := fun W8 h => by
      have hlen : (recBytes seq x).length = n := by
        rw [Hrec.out, List.length_append, List.length_append, recBody_length, leBytes_length, Hk.out]
        have := Hn.out
        omega
      have := h.own (base := w.heap.size) Hge.out (by rw [hlen]; have := Hn.out; omega)
      rw [hlen] at this
      exact this
    rw [Hrec.out] at Hown
    clear hcopy nk nk' nk0 nk12
    go_region_with (first | (go_at_call 12; refine Hsum.out.mono ?_; rintro e w' ⟨rfl, rfl⟩) | (go_at_call 41; refine Hput.out.mono ?_; rintro e W8 ⟨rfl, hblk8, hbel8⟩))
    all_goals
      go_wp2_with fail
      go_ret
      exact ⟨_, rfl, by rw [Hrec.out]; exact Hown.out _ hblk8, hbel8⟩
end Go.Proofs.YtlgeknibdgamgaaDoor
