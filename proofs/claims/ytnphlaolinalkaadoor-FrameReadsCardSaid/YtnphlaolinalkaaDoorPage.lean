/-
  The program's writer of pages.
-/
import Derived.Test.YtnphlaolinalkaaDoorPageSpec
import Derived.Test.YtnphlaolinalkaaDoorSum
import Derived.StillTailTactics
import Derived.Deep.RegionWith
import Derived.Deep.DeepFit
import Derived.Deep.DeepMust
namespace Go.Proofs.YtnphlaolinalkaaDoor
open Go.RowKit

def headVal (seg row shard sz : Int) : Value := .agg #[.int .u64 seg, .int .i64 row, .int .i64 shard, .int .i64 sz]

/-- how the world stands while a page is filled: the head's box, the page's block so far -/
structure PS (w W : World) (n seg row shard : Nat) (l : List UInt8) : Prop where
  len : l.length = n
  c0 : W.cell? ⟨w.heap.size, 0, none⟩ = some (.int .u64 (seg : Int))
  c1 : W.cell? ⟨w.heap.size, 1, none⟩ = some (.int .i64 (row : Int))
  c2 : W.cell? ⟨w.heap.size, 2, none⟩ = some (.int .i64 (shard : Int))
  blk : Blk W (w.heap.size + 1) l
  bel : Below w.heap.size w W
theorem PS.next {w W W' : World} {n seg row shard : Nat} {l l' : List UInt8} (h : PS w W n seg row shard l) (hb : Below (w.heap.size + 1) W W') (hl : Blk W' (w.heap.size + 1) l') (hn : l'.length = n) : PS w W' n seg row shard l' :=
  ⟨hn, (hb.cell (p := ⟨w.heap.size, 0, none⟩) (by show w.heap.size < _; omega)).trans h.c0, (hb.cell (p := ⟨w.heap.size, 1, none⟩) (by show w.heap.size < _; omega)).trans h.c1,
    (hb.cell (p := ⟨w.heap.size, 2, none⟩) (by show w.heap.size < _; omega)).trans h.c2, hl, h.bel.trans (hb.mono (by omega))⟩
theorem PS.put {w W W' : World} {n seg row shard : Nat} {l : List UInt8} {off : Nat} {r : List UInt8} (h : PS w W n seg row shard l) (hb : Below (w.heap.size + 1) W W') (hl : Blk W' (w.heap.size + 1) (splat l off r)) (hn : off + r.length ≤ n) :
    PS w W' n seg row shard (splat l off r) := h.next hb hl (by rw [splat_length _ _ _ (by rw [h.len]; exact hn), h.len])
theorem PS.fits {w W : World} {n seg row shard : Nat} {l : List UInt8} (h : PS w W n seg row shard l) {k : Nat} (hk : k ≤ n) : k ≤ l.length := by rw [h.len]; exact hk
theorem PS.small {w W : World} {n seg row shard : Nat} {l : List UInt8} (h : PS w W n seg row shard l) (hk : n ≤ 65536) : l.length ≤ 1099511627776 := by rw [h.len]; omega
theorem PS.drew {w W : World} {n seg row shard : Nat} {l : List UInt8} (h : PS w W n seg row shard l) : PS w W.drew n seg row shard l := ⟨h.len, h.c0, h.c1, h.c2, h.blk, h.bel.drew⟩
theorem PS.start (w : World) (seg row shard : Nat) (sz : Int) (l : List UInt8) (cs : Array Value) (hcs : cs = (bvs l).toArray) :
    PS w ((w.alloc (.cells #[.int .u64 (seg : Int), .int .i64 (row : Int), .int .i64 (shard : Int), .int .i64 sz] 47)).alloc (.cells cs 5)) l.length seg row shard l := by
  subst hcs
  refine ⟨rfl, ?_, ?_, ?_, ?_, ((Below.refl _ _).alloc (Nat.le_refl _) _).alloc (by simp) _⟩
  · rw [World.cell?_alloc_lt _ _ _ (by show w.heap.size < _; simp)]; simp
  · rw [World.cell?_alloc_lt _ _ _ (by show w.heap.size < _; simp)]; simp
  · rw [World.cell?_alloc_lt _ _ _ (by show w.heap.size < _; simp)]; simp
  · have := heap_alloc_new (w.alloc (.cells #[.int .u64 (seg : Int), .int .i64 (row : Int), .int .i64 (shard : Int), .int .i64 sz] 47)) (.cells (bvs l).toArray 5)
    simpa [Blk] using this

set_option maxRecDepth 200000 in
set_option maxHeartbeats 1000000 in
theorem page_ok (n seg row shard : Nat) (sz : Int) (A : Option Addr) (c : Nat) (x : List UInt8) (w : World) (B : Nat) (ht : Tab w) (hr : RB w B A x) (hB : B ≤ w.heap.size)
    (hn1 : 32 ≤ n) (hn2 : n ≤ 65536) (hrow : row ≤ 1073741824) (hshard : shard ≤ 255) (hx : (x.length : Int) ≤ roomOf n) (hseg : seg < two64) (hc : x.length ≤ c) :
    Calls Tryd.prog 32 #[.int .i64 (n : Int), .agg #[.int .u64 (seg : Int), .int .i64 (row : Int), .int .i64 (shard : Int), .int .i64 sz], .slice A x.length c] w
      fun e w' => ∃ v, e = .returned (.tuple #[v, .int .i64 0]) ∧ Own w' w.heap.size v (pageBytes n seg row shard x) ∧ Below w.heap.size w w' := by
  have hroom : x.length + 19 ≤ n ∧ x.length ≤ 65535 := by unfold roomOf at hx; split at hx <;> (try split at hx) <;> omega
  obtain ⟨hlen1, hlen2⟩ := hroom
  have hrm0 : ¬ roomOf n = 0 := by unfold roomOf; split <;> (try split) <;> omega
  generalize hrm : roomOf n = rm at hx hrm0
  have hb0 : (rm == 0) = false := by simp [hrm0]
  have Hrm := Lib.hid hrm
  have Ht := Lib.hid ht
  have Hr := Lib.hid hr
  have HB := Lib.hid hB
  have Hseg := Lib.hid hseg
  have Hrow : Hid (row < two64) := by show _ < _; rw [two64_eq]; omega
  have Hxl : Hid (x.length < two64) := by show _ < _; rw [two64_eq]; omega
  have Hshard : Hid (shard < two64) := by show _ < _; rw [two64_eq]; omega
  clear hrm ht hr hB hseg hrm0
  obtain ⟨cs, hcs, hmk⟩ := make_run n (by omega)
  go_enter Tryd.func32, Tryd.ntmps32
  go_wp2_with (go_at_call 30; refine (room_any _ _).mono ?_; rw [Hrm.out]; rintro e w' ⟨rfl, rfl⟩)
  have hps := PS.start w seg row shard sz _ cs hcs.out
  rw [List.length_replicate] at hps
  generalize ((w.alloc (.cells #[.int .u64 (seg : Int), .int .i64 (row : Int), .int .i64 (shard : Int), .int .i64 sz] 47)).alloc (.cells cs 5)) = W1 at hps ⊢
  have n12' : (12 : Int) ≤ (n : Int) := by omega
  have n16' : (16 : Int) ≤ (n : Int) := by omega
  have n17' : (17 : Int) ≤ (n : Int) := by omega
  have n19' : (19 : Int) ≤ (n : Int) := by omega
  have n4 : ¬ n = 4 := by omega
  have n12n : ¬ n = 12 := by omega
  have n16n : ¬ n = 16 := by omega
  have n17n : ¬ n = 17 := by omega
  have n19n : ¬ n = 19 := by omega
  have n12 : 12 ≤ n := by omega
  have n16 : 16 ≤ n := by omega
  have n17 : 17 ≤ n := by omega
  have n19 : 19 ≤ n := by omega
  have q := hps.c0
  go_still_tail 4, (by kernel_rfl)
  change wpList _ _ _ _ _ W1.drew
  replace hps := hps.drew
  clear q
  generalize W1.drew = W1d at hps ⊢
  have Hps := Lib.hid hps
  clear hps
  go_wp2_with fail
  refine (put_any (w.heap.size + 1) 4 8 (n - 4) _ seg _ Hps.out.blk (Hps.out.fits (by omega)) (Hps.out.small (by omega)) Hseg.out).mono ?_
  rintro e W2 ⟨rfl, hblk2, hbel2⟩
  have hps := Hps.out.put hbel2 hblk2 (by rw [leBytes_length]; omega)
  clear Hps hbel2 hblk2
  have q := hps.c1
  go_wp2_with fail
  go_still_tail 5, (by kernel_rfl)
  change wpList _ _ _ _ _ W2.drew
  replace hps := hps.drew
  clear q
  generalize W2.drew = W2d at hps ⊢
  have Hps := Lib.hid hps
  clear hps
  go_wp2_with fail
  refine (put_any (w.heap.size + 1) 12 4 (n - 12) _ row _ Hps.out.blk (Hps.out.fits (by omega)) (Hps.out.small (by omega)) Hrow.out).mono ?_
  rintro e W3 ⟨rfl, hblk2, hbel2⟩
  have hps := Hps.out.put hbel2 hblk2 (by rw [leBytes_length]; omega)
  clear Hps hbel2 hblk2
  have q := hps.c2
  go_wp2_with fail
  go_still_tail 5, (by kernel_rfl)
  change wpList _ _ _ _ _ W3.drew
  replace hps := hps.drew
  clear q
  generalize W3.drew = W3d at hps ⊢
  have Hps := Lib.hid hps
  clear hps
  go_wp2_with fail
  refine (put_any (w.heap.size + 1) 16 1 (n - 16) _ shard _ Hps.out.blk (Hps.out.fits (by omega)) (Hps.out.small (by omega)) Hshard.out).mono ?_
  rintro e W4 ⟨rfl, hblk2, hbel2⟩
  have hps := Hps.out.put hbel2 hblk2 (by rw [leBytes_length]; omega)
  clear Hps hbel2 hblk2
  have Hps := Lib.hid hps
  clear hps
  go_wp2_with fail
  refine (put_any (w.heap.size + 1) 17 2 (n - 17) _ x.length _ Hps.out.blk (Hps.out.fits (by omega)) (Hps.out.small (by omega)) Hxl.out).mono ?_
  rintro e W5 ⟨rfl, hblk2, hbel2⟩
  have hps := Hps.out.put hbel2 hblk2 (by rw [leBytes_length]; omega)
  clear Hps hbel2 hblk2
  have Hps := Lib.hid hps
  clear hps
  obtain ⟨W6, hcopy, hblk6, hbel6⟩ := copy_run W5 (w.heap.size + 1) 19 (n - 19) (n - 19) A x _ c B (Hr.out.move (fun p hp => Hps.out.bel.cell (Nat.lt_of_lt_of_le hp HB.out)) (Nat.le_refl _)) Hps.out.blk (by omega) (Hps.out.fits (by omega))
  have hps := Hps.out.put hbel6 hblk6 (by omega)
  clear Hps hbel6 hblk6
  rw [page_list n seg row shard x hlen1] at hps
  have Hps := Lib.hid hps
  clear hps
  go_wp2_with fail
  have hbl : (pageBody n seg row shard x).length = n - 4 := pageBody_length n seg row shard x hlen1
  have htab : Tab W6.drew := Ht.out.below Hps.out.bel.drew Ht.out.pos
  have hrb : RB W6.drew (w.heap.size + 2) (some ⟨w.heap.size + 1, 4, none⟩) (pageBody n seg row shard x) := by
    have := Hps.out.blk.rb 4
    rw [List.drop_left' (by simp)] at this
    exact this
  have hsz : w.heap.size + 2 ≤ W6.heap.size := Hps.out.blk.lt
  have hrbb := RBB.one W6.drew (n - 4) 24 hrb hsz (by omega)
  have hblk := (Hps.out.blk.drew).alloc (.cells #[.slice (some ⟨w.heap.size + 1, 4, none⟩) (pageBody n seg row shard x).length (n - 4)] 24)
  have htab2 : Tab (W6.drew.alloc (.cells #[.slice (some ⟨w.heap.size + 1, 4, none⟩) (pageBody n seg row shard x).length (n - 4)] 24)) := htab.below ((Below.refl _ _).alloc (Nat.le_refl _) _) htab.pos
  have hbel7 : Below w.heap.size w (W6.drew.alloc (.cells #[.slice (some ⟨w.heap.size + 1, 4, none⟩) (pageBody n seg row shard x).length (n - 4)] 24)) := Hps.out.bel.drew.alloc (by show w.heap.size ≤ W6.heap.size; omega) _
  rw [hbl] at hrbb hblk htab2 hbel7
  have hsm : sumOf (pageBody n seg row shard x) < 4294967296 := sumOf_lt _
  have Hlist := Lib.hid (page_list2 n seg row shard x)
  have hfl : [pageBody n seg row shard x].flatten = pageBody n seg row shard x := by simp
  have hsum := sum_any (some ⟨W6.drew.heap.size, 0, none⟩) 1 [pageBody n seg row shard x] _ _ htab2 hrbb (by simp) (by simp; omega)
  rw [hfl] at hsum
  have Hown : ∀ W8, Blk W8 (w.heap.size + 1) (pageBytes n seg row shard x) → Own W8 w.heap.size (.slice (some ⟨w.heap.size + 1, 0, none⟩) n n) (pageBytes n seg row shard x) := fun W8 h => by
    have := h.own (base := w.heap.size) (by omega) (by rw [pageBytes_length _ _ _ _ _ hlen1]; omega)
    rw [pageBytes_length _ _ _ _ _ hlen1] at this
    exact this
  have hlen7 : (List.replicate 4 0 ++ pageBody n seg row shard x).length = n := by rw [List.length_append, hbl]; simp; omega
  generalize sumOf (pageBody n seg row shard x) = sm at hsm hsum Hlist
  have hsm' : (sm : Int) < 4294967296 := by omega
  have hput := put_any (w.heap.size + 1) 0 4 n _ sm _ hblk (by rw [hlen7]; omega) (by rw [hlen7]; omega) (by rw [two64_eq]; omega)
  rw [Hlist.out] at hput
  have Hsum := Lib.hid hsum
  have Hput := Lib.hid hput
  have Hown2 := Lib.hid Hown
  have Hbel7 := Lib.hid hbel7
  clear hsum hput Hown hbel7 hfl hlen7 Hlist htab htab2 hrb hrbb hblk hbl
  have Hsm := Lib.hid hsm
  clear hsm hsz
  clear hmk hcopy n12n n16n n17n n19n n12' n16' n17' n19' n12 n16 n17 n19
  have hw : IntKind.u64.wrap (sm : Int) = (sm : Int) := by rw [IntKind.wrap_u64]; omega
  have n4' : (4 : Int) ≤ (n : Int) := by omega
  have n4'' : 4 ≤ n := by omega
  go_region_with (first | (go_at_call 12; refine Hsum.out.mono ?_; rintro e w' ⟨rfl, rfl⟩) | (go_at_call 41; refine Hput.out.mono ?_; rintro e W8 ⟨rfl, hblk8, hbel8⟩))
  all_goals
    go_wp2_with fail
    go_ret2
    exact ⟨_, rfl, Hown2.out _ hblk8, Hbel7.out.trans (hbel8.mono (by omega))⟩
end Go.Proofs.YtnphlaolinalkaaDoor
