/-
  The program's writer of pages.
-/
import Derived.Test.YtlficcdbnmheeaaDoorKPageSpec
import Derived.Test.YtlficcdbnmheeaaDoorKStep
import Derived.StillTailTactics
import Derived.Deep.RegionWith
import Derived.Deep.DeepFit
import Derived.Deep.DeepMust
namespace Go.Proofs.YtlficcdbnmheeaaDoor
open Go.RowKit

def headVal (seg row shard sz : Int) : Value := .agg #[.int .u64 seg, .int .i64 row, .int .i64 shard, .int .i64 sz]

/-- how the world stands while a page is filled: the head's box, the page's block so far -/
structure PS (w W : World) (n seg row shard : Nat) (l : List UInt8) : Prop where
  len : l.length = n
  c0 : W.cell? ⟨w.heap.size, 0, none⟩ = some (.int .u64 (seg : Int))
  c1 : W.cell? ⟨w.heap.size, 1, none⟩ = some (.int .i64 (row : Int))
  c2 : W.cell? ⟨w.heap.size, 2, none⟩ = some (.int .i64 (shard : Int))
  blk : Blk W (w.heap.size + 1) l
  bel : Below w.heap.size w W
theorem PS.next {w W W' : World} {n seg row shard : Nat} {l l' : List UInt8} (h : PS w W n seg row shard l) (hb : Below (w.heap.size + 1) W W') (hl : Blk W' (w.heap.size + 1) l') (hn : l'.length = n) : PS w W' n seg row shard l' :=
  ⟨hn, (hb.cell (p := ⟨w.heap.size, 0, none⟩) (by show w.heap.size < _; omega)).trans h.c0, (hb.cell (p := ⟨w.heap.size, 1, none⟩) (by show w.heap.size < _; omega)).trans h.c1,
    (hb.cell (p := ⟨w.heap.size, 2, none⟩) (by show w.heap.size < _; omega)).trans h.c2, hl, h.bel.trans (hb.mono (by omega))⟩
theorem PS.put {w W W' : World} {n seg row shard : Nat} {l : List UInt8} {off : Nat} {r : List UInt8} (h : PS w W n seg row shard l) (hb : Below (w.heap.size + 1) W W') (hl : Blk W' (w.heap.size + 1) (splat l off r)) (hn : off + r.length ≤ n) :
    PS w W' n seg row shard (splat l off r) := h.next hb hl (by rw [splat_length _ _ _ (by rw [h.len]; exact hn), h.len])
theorem PS.fits {w W : World} {n seg row shard : Nat} {l : List UInt8} (h : PS w W n seg row shard l) {k : Nat} (hk : k ≤ n) : k ≤ l.length := by rw [h.len]; exact hk
theorem PS.small {w W : World} {n seg row shard : Nat} {l : List UInt8} (h : PS w W n seg row shard l) (hk : n ≤ 65536) : l.length ≤ 1099511627776 := by rw [h.len]; omega
theorem PS.drew {w W : World} {n seg row shard : Nat} {l : List UInt8} (h : PS w W n seg row shard l) : PS w W.drew n seg row shard l := ⟨h.len, h.c0, h.c1, h.c2, h.blk, h.bel.drew⟩
theorem PS.start (w : World) (seg row shard : Nat) (sz : Int) (l : List UInt8) (cs : Array Value) (hcs : cs = (bvs l).toArray) :
    PS w ((w.alloc (.cells #[.int .u64 (seg : Int), .int .i64 (row : Int), .int .i64 (shard : Int), .int .i64 sz] 113)).alloc (.cells cs 5)) l.length seg row shard l := by
  subst hcs
  refine ⟨rfl, ?_, ?_, ?_, ?_, ((Below.refl _ _).alloc (Nat.le_refl _) _).alloc (by simp) _⟩
  · rw [World.cell?_alloc_lt _ _ _ (by show w.heap.size < _; simp)]; simp
  · rw [World.cell?_alloc_lt _ _ _ (by show w.heap.size < _; simp)]; simp
  · rw [World.cell?_alloc_lt _ _ _ (by show w.heap.size < _; simp)]; simp
  · have := heap_alloc_new (w.alloc (.cells #[.int .u64 (seg : Int), .int .i64 (row : Int), .int .i64 (shard : Int), .int .i64 sz] 113)) (.cells (bvs l).toArray 5)
    simpa [Blk] using this

set_option maxRecDepth 200000 in
set_option maxHeartbeats 1000000 in
theorem page_ok (n seg row shard : Nat) (sz : Int) (A : Option Addr) (c : Nat) (x : List UInt8) (w : World) (B : Nat) (ht : Tab w) (hr : RB w B A x) (hB : B ≤ w.heap.size)
    (hn1 : 32 ≤ n) (hn2 : n ≤ 65536) (hrow : row ≤ 1073741824) (hshard : shard ≤ 255) (hx : (x.length : Int) ≤ roomOf n) (hseg : seg < two64) (_hc : x.length ≤ c) :
    Calls Tryd.prog 66 #[.int .i64 (n : Int), .agg #[.int .u64 (seg : Int), .int .i64 (row : Int), .int .i64 (shard : Int), .int .i64 sz], .slice A x.length c] w
      fun e w' => ∃ v, e = .returned (.tuple #[v, .int .i64 0]) ∧ Own w' w.heap.size v (pageBytes n seg row shard x) ∧ Below w.heap.size w w' := by
  have hroom : x.length + 19 ≤ n ∧ x.length ≤ 65535 := by unfold roomOf at hx; split at hx <;> (try split at hx) <;> omega
  obtain ⟨hlen1, hlen2⟩ := hroom
  have hrm0 : ¬ roomOf n = 0 := by unfold roomOf; split <;> (try split) <;> omega
  generalize hrm : roomOf n = rm at hx hrm0
  have hb0 : (rm == 0) = false := by simp [hrm0]
  have Hrm := Lib.hid hrm
  have Ht := Lib.hid ht
  have Hr := Lib.hid hr
  have HB := Lib.hid hB
  have Hseg := Lib.hid hseg
  have Hrow : Hid (row < two64) := by show _ < _; rw [two64_eq]; omega
  have Hxl : Hid (x.length < two64) := by show _ < _; rw [two64_eq]; omega
  have Hshard : Hid (shard < two64) := by show _ < _; rw [two64_eq]; omega
  clear hrm ht hr hB hseg hrm0
  obtain ⟨cs, hcs, hmk⟩ := make_runF n (by omega)
  go_enter Tryd.func66, Tryd.ntmps66
  go_wp2_with (go_at_call 42; refine (room_any _ _).mono ?_; rw [Hrm.out]; rintro e w' ⟨rfl, rfl⟩)
  have hps := PS.start w seg row shard sz _ cs hcs.out
  rw [List.length_replicate] at hps
  generalize ((w.alloc (.cells #[.int .u64 (seg : Int), .int .i64 (row : Int), .int .i64 (shard : Int), .int .i64 sz] 113)).alloc (.cells cs 5)) = W1 at hps ⊢
  have n12' : (12 : Int) ≤ (n : Int) := by omega
  have n16' : (16 : Int) ≤ (n : Int) := by omega
  have n17' : (17 : Int) ≤ (n : Int) := by omega
  have n19' : (19 : Int) ≤ (n : Int) := by omega
  have n4 : ¬ n = 4 := by omega
  have n12n : ¬ n = 12 := by omega
  have n16n : ¬ n = 16 := by omega
  have n17n : ¬ n = 17 := by omega
  have n19n : ¬ n = 19 := by omega
  have n12 : 12 ≤ n := by omega
  have n16 : 16 ≤ n := by omega
  have n17 : 17 ≤ n := by omega
  have n19 : 19 ≤ n := by omega
  have q := hps.c0
  go_still_tail 4, (by kernel_rfl)
  change wpList _ _ _ _ _ W1.drew
  replace hps := hps.drew
  clear q
  generalize W1.drew = W1d at hps ⊢
  have Hps := Lib.hid hps
  clear hps
  go_wp2_with fail
  refine (put_any (w.heap.size + 1) 4 8 (n - 4) _ seg _ Hps.out.blk (Hps.out.fits (by omega)) (Hps.out.small (by omega)) Hseg.out).mono ?_
  rintro e W2 ⟨rfl, hblk2, hbel2⟩
  have hps := Hps.out.put hbel2 hblk2 (by rw [leBytes_length]; omega)
  clear Hps hbel2 hblk2
  have q := hps.c1
  go_wp2_with fail
  go_still_tail 5, (by kernel_rfl)
  change wpList _ _ _ _ _ W2.drew
  replace hps := hps.drew
  clear q
  generalize W2.drew = W2d at hps ⊢
  have Hps := Lib.hid hps
  clear hps
  go_wp2_with fail
  refine (put_any (w.heap.size + 1) 12 4 (n - 12) _ row _ Hps.out.blk (Hps.out.fits (by omega)) (Hps.out.small (by omega)) Hrow.out).mono ?_
  rintro e W3 ⟨rfl, hblk2, hbel2⟩
  have hps := Hps.out.put hbel2 hblk2 (by rw [leBytes_length]; omega)
  clear Hps hbel2 hblk2
  have q := hps.c2
  go_wp2_with fail
  go_still_tail 5, (by kernel_rfl)
  change wpList _ _ _ _ _ W3.drew
  replace hps := hps.drew
  clear q
  generalize W3.drew = W3d at hps ⊢
  have Hps := Lib.hid hps
  clear hps
  go_wp2_with fail
  refine (put_any (w.heap.size + 1) 16 1 (n - 16) _ shard _ Hps.out.blk (Hps.out.fits (by omega)) (Hps.out.small (by omega)) Hshard.out).mono ?_
  rintro e W4 ⟨rfl, hblk2, hbel2⟩
  have hps := Hps.out.put hbel2 hblk2 (by rw [leBytes_length]; omega)
  clear Hps hbel2 hblk2
  have Hps := Lib.hid hps
  clear hps
  go_wp2_with fail
  refine (put_any (w.heap.size + 1) 17 2 (n - 17) _ x.length _ Hps.out.blk (Hps.out.fits (by omega)) (Hps.out.small (by omega)) Hxl.out).mono ?_
  rintro e W5 ⟨rfl, hblk2, hbel2⟩
  have hps := Hps.out.put hbel2 hblk2 (by rw [leBytes_length]; omega)
  clear Hps hbel2 hblk2
  have Hps := Lib.hid hps
  clear hps
  obtain ⟨W6, hcopy, hblk6, hbel6⟩ := copy_run W5 (w.heap.size + 1) 19 (n - 19) (n - 19) A x _ c B (Hr.out.move (fun p hp => Hps.out.bel.cell (Nat.lt_of_lt_of_le hp HB.out)) (Nat.le_refl _)) Hps.out.blk (by omega) (Hps.out.fits (by omega))
  have hps := Hps.out.put hbel6 hblk6 (by omega)
  clear Hps hbel6 hblk6
  rw [page_list n seg row shard x hlen1] at hps
  have Hps := Lib.hid hps
  clear hps
  go_wp2_with fail
  have hbl : (pageBody n seg row shard x).length = n - 4 := pageBody_length n seg row shard x hlen1
  have htab : Tab W6.drew := Ht.out.below Hps.out.bel.drew Ht.out.pos
  have hrb : RB W6.drew (w.heap.size + 2) (some ⟨w.heap.size + 1, 4, none⟩) (pageBody n seg row shard x) := by
    have := Hps.out.blk.rb 4
    rw [List.drop_left' (by simp)] at this
    exact this
  have hsz : w.heap.size + 2 ≤ W6.heap.size := Hps.out.blk.lt
  have hrbb := RBB.one W6.drew (n - 4) 25 hrb hsz (by omega)
  have hblk := (Hps.out.blk.drew).alloc (.cells #[.slice (some ⟨w.heap.size + 1, 4, none⟩) (pageBody n seg row shard x).length (n - 4)] 25)
  have htab2 : Tab (W6.drew.alloc (.cells #[.slice (some ⟨w.heap.size + 1, 4, none⟩) (pageBody n seg row shard x).length (n - 4)] 25)) := htab.below ((Below.refl _ _).alloc (Nat.le_refl _) _) htab.pos
  have hbel7 : Below w.heap.size w (W6.drew.alloc (.cells #[.slice (some ⟨w.heap.size + 1, 4, none⟩) (pageBody n seg row shard x).length (n - 4)] 25)) := Hps.out.bel.drew.alloc (by show w.heap.size ≤ W6.heap.size; omega) _
  rw [hbl] at hrbb hblk htab2 hbel7
  have hsm : sumOf (pageBody n seg row shard x) < 4294967296 := sumOf_lt _
  have Hlist := Lib.hid (page_list2 n seg row shard x)
  have hfl : [pageBody n seg row shard x].flatten = pageBody n seg row shard x := by simp
  have hsum := sum_any (some ⟨W6.drew.heap.size, 0, none⟩) 1 [pageBody n seg row shard x] _ _ htab2 hrbb (by simp) (by simp; omega)
  rw [hfl] at hsum
  have Hown : ∀ W8, Blk W8 (w.heap.size + 1) (pageBytes n seg row shard x) → Own W8 w.heap.size (.slice (some ⟨w.heap.size + 1, 0, none⟩) n n) (pageBytes n seg row shard x) := fun W8 h => by
    have := h.own (base := w.heap.size) (by omega) (by rw [pageBytes_length _ _ _ _ _ hlen1]; omega)
    rw [pageBytes_length _ _ _ _ _ hlen1] at this
    exact this
  have hlen7 : (List.replicate 4 0 ++ pageBody n seg row shard x).length = n := by rw [List.length_append, hbl]; simp; omega
  generalize sumOf (pageBody n seg row shard x) = sm at hsm hsum Hlist
  have hsm' : (sm : Int) < 4294967296 := by omega
  have hput := put_any (w.heap.size + 1) 0 4 n _ sm _ hblk (by rw [hlen7]; omega) (by rw [hlen7]; omega) (by rw [two64_eq]; omega)
  rw [Hlist.out] at hput
  have Hsum := Lib.hid hsum
  have Hput := Lib.hid hput
  have Hown2 := Lib.hid Hown
  have Hbel7 := Lib.hid hbel7
  clear hsum hput Hown hbel7 hfl hlen7 Hlist htab htab2 hrb hrbb hblk hbl
  have Hsm := Lib.hid hsm
  clear hsm hsz
  clear hmk hcopy n12n n16n n17n n19n n12' n16' n17' n19' n12 n16 n17 n19
  have hw : IntKind.u64.wrap (sm : Int) = (sm : Int) := by rw [IntKind.wrap_u64]; omega
  have n4' : (4 : Int) ≤ (n : Int) := by omega
  have n4'' : 4 ≤ n := by omega
  go_region_with (first | (go_at_call 85; refine Hsum.out.mono ?_; rintro e w' ⟨rfl, rfl⟩) | (go_at_call 90; refine Hput.out.mono ?_; rintro e W8 ⟨rfl, hblk8, hbel8⟩))
  all_goals
    go_wp2_with fail
    go_ret2
    exact ⟨_, rfl, Hown2.out _ hblk8, Hbel7.out.trans (hbel8.mono (by omega))⟩
end Go.Proofs.YtlficcdbnmheeaaDoor

/-
  The program's writer of pages, where it answers an error; and all of it.
-/
namespace Go.Proofs.YtlficcdbnmheeaaDoor
open Go.RowKit

set_option maxRecDepth 20000 in
set_option maxHeartbeats 400000 in
theorem page_bad1 (s row shard : Int) (seg sz : Int) (A : Option Addr) (n c : Nat) (w : World) (h : roomOf s = 0 ∨ row < 0 ∨ 1073741824 < row ∨ shard < 0 ∨ 255 < shard) :
    Calls Tryd.prog 66 #[.int .i64 s, .agg #[.int .u64 seg, .int .i64 row, .int .i64 shard, .int .i64 sz], .slice A n c] w
      fun e w' => e = .returned (.tuple #[.slice none 0 0, .int .i64 1]) ∧ Below w.heap.size w w' := by
  have hr : roomOf s = 0 ∨ ¬ roomOf s = 0 := by omega
  generalize hrm : roomOf s = rm at h hr
  have Hrm := Lib.hid hrm
  clear hrm
  rcases hr with h0 | h0
  · have hb0 : (rm == 0) = true := by simp [h0]
    clear h h0
    go_enter Tryd.func66, Tryd.ntmps66
    go_wp2_with (go_at_call 42; refine (room_any _ _).mono ?_; rw [Hrm.out]; rintro e w' ⟨rfl, rfl⟩)
    go_ret2
    exact ⟨rfl, (Below.refl _ _).alloc (Nat.le_refl _) _⟩
  · have hb0 : (rm == 0) = false := by simp [h0]
    have h1 : row < 0 ∨ (0 ≤ row ∧ (1073741824 < row ∨ (row ≤ 1073741824 ∧ (shard < 0 ∨ (0 ≤ shard ∧ 255 < shard))))) := by omega
    clear h h0
    rcases h1 with h1 | ⟨h1, h1 | ⟨h2, h1 | ⟨h3, h1⟩⟩⟩
    all_goals
      go_enter Tryd.func66, Tryd.ntmps66
      go_wp2_with (go_at_call 42; refine (room_any _ _).mono ?_; rw [Hrm.out]; rintro e w' ⟨rfl, rfl⟩)
      go_ret2
      exact ⟨rfl, (Below.refl _ _).alloc (Nat.le_refl _) _⟩

set_option maxRecDepth 20000 in
set_option maxHeartbeats 400000 in
theorem page_bad3 (s row shard : Int) (seg sz : Int) (A : Option Addr) (n c : Nat) (w : World) (h : ¬ (roomOf s = 0 ∨ row < 0 ∨ 1073741824 < row ∨ shard < 0 ∨ 255 < shard)) (hl : roomOf s < (n : Int)) :
    Calls Tryd.prog 66 #[.int .i64 s, .agg #[.int .u64 seg, .int .i64 row, .int .i64 shard, .int .i64 sz], .slice A n c] w
      fun e w' => e = .returned (.tuple #[.slice none 0 0, .int .i64 3]) ∧ Below w.heap.size w w' := by
  obtain ⟨h0, h1, h2, h3, h4⟩ : ¬ roomOf s = 0 ∧ 0 ≤ row ∧ row ≤ 1073741824 ∧ 0 ≤ shard ∧ shard ≤ 255 := by omega
  generalize hrm : roomOf s = rm at h h0 hl
  have Hrm := Lib.hid hrm
  have hb0 : (rm == 0) = false := by simp [h0]
  clear hrm h h0
  go_enter Tryd.func66, Tryd.ntmps66
  go_wp2_with (go_at_call 42; refine (room_any _ _).mono ?_; rw [Hrm.out]; rintro e w' ⟨rfl, rfl⟩)
  go_ret2
  exact ⟨rfl, (Below.refl _ _).alloc (Nat.le_refl _) _⟩

/-- what a page of such numbers holds: nothing where it is answered by an error -/
def pageOf (s row shard : Int) (seg : Nat) (x : List UInt8) : List UInt8 := if pageErr s row shard x.length = 0 then pageBytes s.toNat seg row.toNat shard.toNat x else []

theorem pageErr_none {s row shard : Int} {n : Nat} (h : pageErr s row shard n = 0) : n + 19 ≤ s.toNat ∧ s ≤ 65536 ∧ 32 ≤ s ∧ n ≤ 65535 ∧ 0 ≤ row ∧ row ≤ 1073741824 ∧ 0 ≤ shard ∧ shard ≤ 255 := by
  unfold pageErr at h
  split at h
  · omega
  · split at h
    · omega
    · have h3 : 32 ≤ s ∧ s ≤ 65536 ∧ roomOf s = if 65535 < s - 19 then 65535 else s - 19 := by
        by_cases hs : s < 32 ∨ 65536 < s
        · have : roomOf s = 0 := by unfold roomOf; rw [if_pos hs]
          omega
        · exact ⟨by omega, by omega, by unfold roomOf; rw [if_neg hs]⟩
      obtain ⟨h4, h5, h6⟩ := h3
      split at h6 <;> omega

theorem page_any (s row shard : Int) (seg : Nat) (sz : Int) (A : Option Addr) (c : Nat) (x : List UInt8) (w : World) (B : Nat) (ht : Tab w) (hr : RB w B A x) (hB : B ≤ w.heap.size) (hseg : seg < two64) (hc : x.length ≤ c) :
    Calls Tryd.prog 66 #[.int .i64 s, .agg #[.int .u64 (seg : Int), .int .i64 row, .int .i64 shard, .int .i64 sz], .slice A x.length c] w
      fun e w' => ∃ v, e = .returned (.tuple #[v, .int .i64 (pageErr s row shard x.length : Nat)]) ∧ Own w' w.heap.size v (pageOf s row shard seg x) ∧ Below w.heap.size w w' := by
  by_cases h1 : roomOf s = 0 ∨ row < 0 ∨ 1073741824 < row ∨ shard < 0 ∨ 255 < shard
  · have he : pageErr s row shard x.length = 1 := by unfold pageErr; rw [if_pos h1]
    unfold pageOf
    rw [he]
    exact (page_bad1 s row shard seg sz A x.length c w h1).mono fun e w' ⟨he, hb⟩ => ⟨_, he, Own.nil _ _, hb⟩
  · by_cases h3 : roomOf s < (x.length : Int)
    · have he : pageErr s row shard x.length = 3 := by unfold pageErr; rw [if_neg h1, if_pos h3]
      unfold pageOf
      rw [he]
      exact (page_bad3 s row shard seg sz A x.length c w h1 h3).mono fun e w' ⟨he, hb⟩ => ⟨_, he, Own.nil _ _, hb⟩
    · have he : pageErr s row shard x.length = 0 := by unfold pageErr; rw [if_neg h1, if_neg h3]
      obtain ⟨h0, hr0, hr1, hs0, hs1⟩ : ¬ roomOf s = 0 ∧ 0 ≤ row ∧ row ≤ 1073741824 ∧ 0 ≤ shard ∧ shard ≤ 255 := by omega
      have hs : 32 ≤ s ∧ s ≤ 65536 := by unfold roomOf at h0; split at h0 <;> omega
      unfold pageOf
      rw [he]
      obtain ⟨n, rfl⟩ := Int.eq_ofNat_of_zero_le (show 0 ≤ s by omega)
      obtain ⟨row, rfl⟩ := Int.eq_ofNat_of_zero_le hr0
      obtain ⟨shard, rfl⟩ := Int.eq_ofNat_of_zero_le hs0
      simp only [Int.toNat_natCast, if_true]
      exact page_ok n seg row shard sz A c x w B ht hr hB (by omega) (by omega) (by omega) (by omega) (by omega) hseg hc
end Go.Proofs.YtlficcdbnmheeaaDoor
