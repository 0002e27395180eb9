/-
  The program's reader of pages.
-/
import Derived.Test.YtnphlaolinalkaaDoorReadRec
import Derived.Test.YtnphlaolinalkaaDoorRead2
import Derived.Deep.RegionHeld3
namespace Go.Proofs.YtnphlaolinalkaaDoor
open Go.RowKit

/-- a page read: segment, row, shard, size; payload; error -/
def readPg (l : List UInt8) : (Nat × Nat × Nat × Nat) × List UInt8 × Nat :=
  if roomOf (l.length : Int) = 0 then ((0, 0, 0, 0), [], 1)
  else if leNat (l.take 4) ≠ sumOf (l.drop 4) then ((0, 0, 0, 0), [], 23)
  else if 1073741824 < leNat ((l.drop 12).take 4) ∨ roomOf (l.length : Int) < (leNat ((l.drop 17).take 2) : Int) ∨ ¬ (l.drop (19 + leNat ((l.drop 17).take 2))).all (· == 0) then ((0, 0, 0, 0), [], 24)
  else ((leNat ((l.drop 4).take 8), leNat ((l.drop 12).take 4), leNat ((l.drop 16).take 1), leNat ((l.drop 17).take 2)), (l.drop 19).take (leNat ((l.drop 17).take 2)), 0)

/-- a head's block, none of it frozen -/
def HBlk (W : World) (g : Nat) (seg row shard sz : Int) : Prop := W.heap[g]? = some (.cells #[.int .u64 seg, .int .i64 row, .int .i64 shard, .int .i64 sz] 47 (0, 0))

theorem HBlk.cells {W : World} {g : Nat} {seg row shard sz : Int} (h : HBlk W g seg row shard sz) :
    W.cell? ⟨g, 0, none⟩ = some (.int .u64 seg) ∧ W.cell? ⟨g, 1, none⟩ = some (.int .i64 row) ∧ W.cell? ⟨g, 2, none⟩ = some (.int .i64 shard) ∧ W.cell? ⟨g, 3, none⟩ = some (.int .i64 sz) ∧
      W.frozen? ⟨g, 0, none⟩ = false ∧ W.frozen? ⟨g, 1, none⟩ = false ∧ W.frozen? ⟨g, 2, none⟩ = false ∧ W.frozen? ⟨g, 3, none⟩ = false := by
  unfold HBlk at h
  refine ⟨?_, ?_, ?_, ?_, ?_, ?_, ?_, ?_⟩ <;> simp [World.cell?, World.frozen?, h]

/-- a slice of the call's own while another, elder block is written -/
theorem Own.poke {W : World} {base : Nat} {v : Value} {l : List UInt8} (h : Own W base v l) {a : Addr} (ha : a.block < base) (u : Value) : Own (W.setCell a u) base v l := ownsRow_setCell_below h ha u
/-- a head stored into its block: the world behind it, behind a letter -/
theorem HBlk.store {W W1 : World} {g B : Nat} {seg row shard sz : Int} (h : HBlk W g seg row shard sz) (a b c d : Int) (hb : Below B W1 W) (hg : B ≤ g) :
    HBlk ((((W.setCell ⟨g, 0, none⟩ (.int .u64 a)).setCell ⟨g, 1, none⟩ (.int .i64 b)).setCell ⟨g, 2, none⟩ (.int .i64 c)).setCell ⟨g, 3, none⟩ (.int .i64 d)) g a b c d ∧
      Below B W1 ((((W.setCell ⟨g, 0, none⟩ (.int .u64 a)).setCell ⟨g, 1, none⟩ (.int .i64 b)).setCell ⟨g, 2, none⟩ (.int .i64 c)).setCell ⟨g, 3, none⟩ (.int .i64 d)) := by
  refine ⟨?_, (((hb.setCell (p := ⟨g, 0, none⟩) hg _).setCell (p := ⟨g, 1, none⟩) hg _).setCell (p := ⟨g, 2, none⟩) hg _).setCell (p := ⟨g, 3, none⟩) hg _⟩
  unfold HBlk at h ⊢
  simp [World.setCell, Array.getElem?_modify, h]

set_option maxRecDepth 200000 in
set_option maxHeartbeats 20000000 in
theorem readPg_any (A : Option Addr) (c : Nat) (l : List UInt8) (w : World) (ht : Tab w) (hr : RB w w.heap.size A l) (hl : l.length ≤ 1099511627776) (hc : l.length ≤ c) :
    Calls Tryd.prog 21 #[.slice A l.length c] w fun e w' => ∃ v, e = .returned (.tuple #[.agg #[.int .u64 ((readPg l).1.1 : Nat), .int .i64 ((readPg l).1.2.1 : Nat), .int .i64 ((readPg l).1.2.2.1 : Nat), .int .i64 ((readPg l).1.2.2.2 : Nat)], v, .int .i64 ((readPg l).2.2 : Nat)]) ∧
      Own w' w.heap.size v (readPg l).2.1 ∧ Below w.heap.size w w' := by
  have Ht := Lib.hid ht
  have Hr := Lib.hid hr
  have Hspec : Hid (readPg l = _) := (by rw [readPg] : readPg l = _)
  generalize readPg l = out at Hspec ⊢
  generalize hrm : roomOf (l.length : Int) = rm at Hspec
  have Hrm := Lib.hid hrm
  clear ht hr
  by_cases h0 : rm = 0
  · have hs : out = ((0, 0, 0, 0), [], 1) := by rw [Hspec.out]; simp [h0]
    subst hs
    have hb0 : (rm == 0) = true := by simp [h0]
    clear Hspec h0 hrm
    go_enter Tryd.func21, Tryd.ntmps21
    go_wp2_with (go_at_call 30; refine (room_any _ _).mono ?_; rw [Hrm.out]; rintro e w' ⟨rfl, rfl⟩)
    refine bodyPost_ret (v := .tuple #[.agg #[.int .u64 0, .int .i64 0, .int .i64 0, .int .i64 0], .slice none 0 0, .int .i64 1]) (by simp [results, Tryd.results21, go_sem]) rfl ⟨_, rfl, Own.nil _ _, (Below.refl _ _).alloc (Nat.le_refl _) _⟩
  · have hsz : 32 ≤ l.length ∧ l.length ≤ 65536 ∧ rm ≤ (l.length : Int) - 19 ∧ 13 ≤ rm ∧ rm ≤ 65535 := by
      have h1 := Hrm.out
      unfold roomOf at h1
      split at h1
      · omega
      · split at h1 <;> omega
    obtain ⟨hz1, hz2, hz3, hz4, hz5⟩ := hsz
    obtain ⟨b, o, rfl, hblk⟩ := Hr.out.flat (show 0 < l.length by omega)
    have hb0 : (rm == 0) = false := by simp [h0]
    have n4 : ¬ c = 4 := by omega
    have c4 : 4 ≤ c := by omega
    have c4' : (4 : Int) ≤ (c : Int) := by omega
    have m4' : (4 : Int) ≤ (l.length : Int) := by omega
    have m4 : 4 ≤ l.length := by omega
    clear hrm
    go_enter Tryd.func21, Tryd.ntmps21
    go_upto_region 4 with (go_at_call 30; refine (room_any _ _).mono ?_; rw [Hrm.out]; rintro e w' ⟨rfl, rfl⟩)
    have hhb : HBlk (w.alloc (.cells #[.int .u64 0, .int .i64 0, .int .i64 0, .int .i64 0] 47)) w.heap.size 0 0 0 0 := heap_alloc_new w _
    have hbel0 : Below w.heap.size w (w.alloc (.cells #[.int .u64 0, .int .i64 0, .int .i64 0, .int .i64 0] 47)) := (Below.refl _ _).alloc (Nat.le_refl _) _
    have hszW : w.heap.size + 1 = (w.alloc (.cells #[.int .u64 0, .int .i64 0, .int .i64 0, .int .i64 0] 47)).heap.size := by simp
    generalize w.alloc (.cells #[.int .u64 0, .int .i64 0, .int .i64 0, .int .i64 0] 47) = W0 at hhb hbel0 hszW ⊢
    have ht0 : Tab W0 := Ht.out.below hbel0 Ht.out.pos
    have hr0 : RB W0 W0.heap.size (some ⟨b, o, none⟩) l := (Hr.out.below hbel0).wide hbel0.size
    obtain ⟨a, sm, Hget, Hsum, Has⟩ := check_facts W0 b o l.length c l ht0 hr0 rfl (by omega) hc hl
    have hw : IntKind.u64.wrap (sm : Int) = (sm : Int) := by rw [IntKind.wrap_u64]; have := Has.out.1; omega
    have Hhb := Lib.hid hhb
    have Hbel0 := Lib.hid hbel0
    have HszW := Lib.hid hszW
    have Hr0 := Lib.hid hr0
    clear hhb hbel0 ht0 hszW hr0
    go_cut [23] (fun s wx => s = .bool ((a : Int) != (sm : Int)) ∧ Hid (Below W0.heap.size W0 wx))
    case first =>
      go_region_with (first | (go_at_call 36; refine (Hget.out _ (by first | exact (Below.refl _ _).drew | exact ((Below.refl _ _).drew).alloc (Nat.le_refl _) _)).mono ?_; rintro e w' ⟨rfl, rfl⟩) | (go_at_call 12; refine Hsum.out.mono ?_; rintro e w' ⟨rfl, rfl⟩))
      all_goals
        go_wp2_with fail
        go_meet
        exact ⟨rfl, ((Below.refl _ _).alloc (Nat.le_refl _) _).drew⟩
    case rest =>
      obtain ⟨rfl, hbelc⟩ := hcut
      by_cases hsum : a = sm
      · have hb : ((a : Int) != (sm : Int)) = false := by simp [hsum]
        have hs2 : out = if 1073741824 < leNat ((l.drop 12).take 4) ∨ rm < (leNat ((l.drop 17).take 2) : Int) ∨ ¬ (l.drop (19 + leNat ((l.drop 17).take 2))).all (· == 0) then ((0, 0, 0, 0), [], 24)
            else ((leNat ((l.drop 4).take 8), leNat ((l.drop 12).take 4), leNat ((l.drop 16).take 1), leNat ((l.drop 17).take 2)), (l.drop 19).take (leNat ((l.drop 17).take 2)), 0) := by
          rw [Hspec.out, if_neg h0, if_neg]
          rw [← Has.out.2.1, ← Has.out.2.2]
          exact fun h => h hsum
        have hhc : HBlk wc w.heap.size 0 0 0 0 := (hbelc.out.block _ (by have := HszW.out; omega)).trans Hhb.out
        have Hend : Hid (Below w.heap.size w wc) := Hbel0.out.trans (hbelc.out.mono (by have := HszW.out; omega))
        have Hrc : Hid (RB wc w.heap.size (some ⟨b, o, none⟩) l) := Hr.out.below Hend.out
        have Hs2 := Lib.hid hs2
        have Hhc := Lib.hid hhc
        have hgr : ∀ k j, k + j ≤ l.length → j ≤ 8 → Calls Tryd.prog 36 #[.slice (some ⟨b, o + k, none⟩) j (c - k)] wc fun e w' => e = .returned (.int .u64 (leNat ((l.drop k).take j) : Nat)) ∧ wc = w' := fun k j hk hj => by
          have h1 := ((Hrc.out.cutFlat k).take j)
          have := get_any (some ⟨b, o + k, none⟩) (c - k) _ wc _ h1 (by rw [List.length_take]; omega)
          rw [List.length_take, List.length_drop, Nat.min_eq_left (by omega)] at this
          exact this
        have Hg12 := Lib.hid (hgr 12 4 (by omega) (by omega))
        have Hg17 := Lib.hid (hgr 17 2 (by omega) (by omega))
        have hrowlt : leNat ((l.drop 12).take 4) < 4294967296 := by have := leNat_lt ((l.drop 12).take 4); rw [List.length_take, List.length_drop, Nat.min_eq_left (by omega)] at this; exact this
        have hszlt : leNat ((l.drop 17).take 2) < 65536 := by have := leNat_lt ((l.drop 17).take 2); rw [List.length_take, List.length_drop, Nat.min_eq_left (by omega)] at this; exact this
        generalize hrow : leNat ((l.drop 12).take 4) = row at Hs2 Hg12 hrowlt
        generalize hsize : leNat ((l.drop 17).take 2) = size at Hs2 Hg17 hszlt
        have Hrow := Lib.hid hrow
        have Hsize := Lib.hid hsize
        have n12 : ¬ c = 12 := by omega
        have n17 : ¬ c = 17 := by omega
        have n19 : ¬ c = 19 := by omega
        have c16' : (16 : Int) ≤ (c : Int) := by omega
        have c19' : (19 : Int) ≤ (c : Int) := by omega
        have hszlt' : (size : Int) ≤ 65535 := by omega
        clear hs2 hhc hgr hrow hsize hsum Hget Hsum hw Has Hspec hrowlt hszlt Hr0 Hhb
        go_wp2_with fail
        refine Hg12.out.mono ?_
        rintro e w' ⟨rfl, rfl⟩
        go_wp2_with fail
        refine Hg17.out.mono ?_
        rintro e w' ⟨rfl, rfl⟩
        obtain ⟨q0, q1, q2, q3, f0, f1, f2, f3⟩ := Hhc.out.cells
        by_cases hbad : 1073741824 < row
        · have hout : out = ((0, 0, 0, 0), [], 24) := by rw [Hs2.out, if_pos (Or.inl hbad)]
          subst hout
          clear Hs2
          go_wp2_with fail
          have hst := HBlk.store Hhc.out 0 0 0 0 Hend.out (Nat.le_refl _)
          generalize ((((wc.setCell ⟨w.heap.size, 0, none⟩ (.int .u64 0)).setCell ⟨w.heap.size, 1, none⟩ (.int .i64 0)).setCell ⟨w.heap.size, 2, none⟩ (.int .i64 0)).setCell ⟨w.heap.size, 3, none⟩ (.int .i64 0)) = Wf at hst ⊢
          obtain ⟨q0, q1, q2, q3, _⟩ := hst.1.cells
          refine bodyPost_ret (v := .tuple #[.agg #[.int .u64 0, .int .i64 0, .int .i64 0, .int .i64 0], .slice none 0 0, .int .i64 24]) (by simp [results, Tryd.results21, go_sem, q0, q1, q2, q3]) rfl ⟨_, rfl, Own.nil _ _, hst.2⟩
        · by_cases hbad2 : rm < (size : Int)
          · have hout : out = ((0, 0, 0, 0), [], 24) := by rw [Hs2.out, if_pos (Or.inr (Or.inl hbad2))]
            subst hout
            clear Hs2
            go_wp2_with fail
            have hst := HBlk.store Hhc.out 0 0 0 0 Hend.out (Nat.le_refl _)
            generalize ((((wc.setCell ⟨w.heap.size, 0, none⟩ (.int .u64 0)).setCell ⟨w.heap.size, 1, none⟩ (.int .i64 0)).setCell ⟨w.heap.size, 2, none⟩ (.int .i64 0)).setCell ⟨w.heap.size, 3, none⟩ (.int .i64 0)) = Wf at hst ⊢
            obtain ⟨q0, q1, q2, q3, _⟩ := hst.1.cells
            refine bodyPost_ret (v := .tuple #[.agg #[.int .u64 0, .int .i64 0, .int .i64 0, .int .i64 0], .slice none 0 0, .int .i64 24]) (by simp [results, Tryd.results21, go_sem, q0, q1, q2, q3]) rfl ⟨_, rfl, Own.nil _ _, hst.2⟩
          · have hbl : ∀ ad, (c = 19 + size → ad = ⟨b, o, none⟩) → (¬ c = 19 + size → ad = ⟨b, o + (19 + size), none⟩) → Calls Tryd.prog 39 #[.slice (some ad) (l.length - (19 + size)) (c - (19 + size))] wc
                fun e w' => e = .returned (.bool ((l.drop (19 + size)).all (· == 0))) ∧ wc = w' := fun ad h1 h2 => by
              have hlen : (l.drop (19 + size)).length = l.length - (19 + size) := List.length_drop
              by_cases h12 : c = 19 + size
              · have h0 : l.drop (19 + size) = [] := List.eq_nil_of_length_eq_zero (by omega)
                have := blank_any (some ad) (c - (19 + size)) (l.drop (19 + size)) wc 0 (by rw [h0]; exact RB.nil _ _ _) (by omega)
                rw [hlen] at this
                exact this
              · rw [h2 h12]
                have := blank_any (some ⟨b, o + (19 + size), none⟩) (c - (19 + size)) (l.drop (19 + size)) wc w.heap.size (Hrc.out.cutFlat _) (by omega)
                rw [hlen] at this
                exact this
            have Hbl := Lib.hid hbl
            clear hbl
            generalize hz : (l.drop (19 + size)).all (· == 0) = z at Hs2 Hbl
            have Hz := Lib.hid hz
            clear hz
            have s19 : 19 + size ≤ l.length := by omega
            have s19' : 19 + (size : Int) ≤ (l.length : Int) := by omega
            have s19c : 19 + size ≤ c := by omega
            have hd1 : decide ((1073741824 : Int) < (row : Int)) = false := by simp; omega
            have hd2 : decide (rm < (size : Int)) = false := by simp; omega
            go_upto_region 8 with fail
            go_cut [46] (fun s wx => s = .bool (!z) ∧ wc = wx)
            case first =>
              go_wp2_with fail
              · have h12 : c = 19 + size := by assumption
                have hcl := Hbl.out ⟨b, o, none⟩ (fun _ => rfl) (fun h => absurd h12 h)
                rw [show c - (19 + size) = 0 by omega] at hcl
                refine hcl.mono ?_
                clear hcl Hbl
                rintro e w' ⟨rfl, rfl⟩
                go_wp2_with fail
                subst h12
                go_meet
                exact ⟨rfl, rfl⟩
              · have hcl := Hbl.out ⟨b, o + (19 + size), none⟩ (fun h => absurd h (by assumption)) (fun _ => rfl)
                refine hcl.mono ?_
                clear hcl Hbl
                rintro e w' ⟨rfl, rfl⟩
                go_wp2_with fail
                go_meet
                exact ⟨rfl, rfl⟩
            case rest =>
              obtain ⟨rfl, rfl⟩ := hcut
              cases z with
              | false =>
                have hout : out = ((0, 0, 0, 0), [], 24) := by rw [Hs2.out, if_pos (Or.inr (Or.inr (by simp)))]
                subst hout
                clear Hs2
                go_wp2_with fail
                have hst := HBlk.store Hhc.out 0 0 0 0 Hend.out (Nat.le_refl _)
                generalize ((((wc.setCell ⟨w.heap.size, 0, none⟩ (.int .u64 0)).setCell ⟨w.heap.size, 1, none⟩ (.int .i64 0)).setCell ⟨w.heap.size, 2, none⟩ (.int .i64 0)).setCell ⟨w.heap.size, 3, none⟩ (.int .i64 0)) = Wf at hst ⊢
                obtain ⟨q0, q1, q2, q3, _⟩ := hst.1.cells
                refine bodyPost_ret (v := .tuple #[.agg #[.int .u64 0, .int .i64 0, .int .i64 0, .int .i64 0], .slice none 0 0, .int .i64 24]) (by simp [results, Tryd.results21, go_sem, q0, q1, q2, q3]) rfl ⟨_, rfl, Own.nil _ _, hst.2⟩
              | true =>
                have hout : out = ((leNat ((l.drop 4).take 8), row, leNat ((l.drop 16).take 1), size), (l.drop 19).take size, 0) := by
                  rw [Hs2.out, if_neg]
                  rintro (h | h | h)
                  · omega
                  · omega
                  · exact h rfl
                subst hout
                clear Hs2 Hbl Hz
                obtain ⟨ad16, e16, hb16, h16⟩ := Hrc.out.at_ (show 16 < l.length by omega)
                obtain rfl : ad16 = ⟨b, o, none⟩ := by injection e16 with h; exact h.symm
                rw [show (⟨b, o, none⟩ : Addr).add 16 = ⟨b, o + 16, none⟩ from rfl] at h16
                have hsh : leNat ((l.drop 16).take 1) = l[16].toNat := by
                  rw [List.drop_eq_getElem_cons (show 16 < l.length by omega)]
                  rfl
                have hshlt := l[16].toNat_lt
                generalize l[16].toNat = sh at h16 hsh hshlt
                have hws : IntKind.i64.wrap (sh : Int) = (sh : Int) := by rw [IntKind.wrap_i64]; omega
                have hwr : IntKind.i64.wrap (row : Int) = (row : Int) := by rw [IntKind.wrap_i64]; omega
                have hszc := Hend.out.size
                have h16b : ∀ x, (wc.alloc x).cell? ⟨b, o + 16, none⟩ = some (.int .u8 (sh : Int)) := fun x => (World.cell?_alloc_lt wc x _ (by show b < _; omega)).trans h16
                have Hg4 : Hid (∀ W, Below wc.heap.size wc W → Calls Tryd.prog 36 #[.slice (some ⟨b, o + 4, none⟩) 8 (c - 4)] W fun e w' => e = .returned (.int .u64 (leNat ((l.drop 4).take 8) : Nat)) ∧ W = w') := fun W hW => by
                  have h1 : RB W w.heap.size (some ⟨b, o + 4, none⟩) ((l.drop 4).take 8) := ((Hrc.out.cutFlat 4).take 8).move (fun p hp => hW.cell (Nat.lt_of_lt_of_le hp hszc)) (Nat.le_refl _)
                  have := get_any (some ⟨b, o + 4, none⟩) (c - 4) _ W _ h1 (by rw [List.length_take]; omega)
                  rw [List.length_take, List.length_drop, Nat.min_eq_left (by omega)] at this
                  exact this
                generalize hsq : leNat ((l.drop 4).take 8) = sq at Hg4
                have Hsq := Lib.hid hsq
                have Hsh := Lib.hid hsh
                have c12' : (12 : Int) ≤ (c : Int) := by omega
                have l16 : (16 : Int) < (l.length : Int) := by omega
                have l16' : 16 < l.length := by omega
                clear hsq hsh e16 hb16 hshlt
                go_upto_region 10 with fail
                obtain ⟨wk, rfl⟩ : ∃ wk : World, wk = wc := ⟨_, rfl⟩
                clear h16b q0 q1 q2 q3 f0 f1 f2 f3
                go_cut [8] (fun s wx => s = .pointer (some ⟨wk.heap.size, 0, none⟩) ∧ Hid (HBlk wx wk.heap.size (sq : Int) (row : Int) (sh : Int) (size : Int)) ∧ Hid (Below wk.heap.size wk wx))
                case first =>
                  go_region_held3 (fun w' => w'.cell? ⟨b, o + 16, none⟩ = some (.int .u8 (sh : Int))) (first | exact h16 | exact (World.cell?_alloc_lt wk _ _ (by show b < _; omega)).trans h16) (first | (go_at_call 36; refine (Hg4.out _ (by first | exact (Below.refl _ _).drew | exact ((Below.refl _ _).drew).alloc (Nat.le_refl _) _)).mono ?_; rintro e w' ⟨rfl, rfl⟩))
                  all_goals
                    go_wp2_with fail
                    go_meet
                    exact ⟨rfl, heap_alloc_new wk _, ((Below.refl _ _).alloc (Nat.le_refl _) _).drew⟩
                case rest =>
                  obtain ⟨rfl, hhx, hbx⟩ := hcut
                  obtain ⟨g0, g1, g2, g3, _⟩ := hhx.out.cells
                  have hwH : w.heap.size < wk.heap.size := Nat.lt_of_not_le fun h => by
                    have := Hhc.out
                    unfold HBlk at this
                    rw [Array.getElem?_eq_none h] at this
                    cases this
                  have Hhw : Hid (HBlk wc w.heap.size 0 0 0 0) := (hbx.out.block _ hwH).trans Hhc.out
                  have Hendw : Hid (Below w.heap.size w wc) := Hend.out.trans (hbx.out.mono hszc)
                  have hgl : wk.heap.size < wc.heap.size := by
                    have := hhx.out
                    rcases Nat.lt_or_ge wk.heap.size wc.heap.size with h | h
                    · exact h
                    · unfold HBlk at this; rw [Array.getElem?_eq_none h] at this; cases this
                  have hcl : Calls Tryd.prog 35 #[.slice (some ⟨b, o + 19, none⟩) size (c - 19)] wc.drew fun e w' => ∃ v, e = .returned v ∧ Own w' wc.heap.size v ((l.drop 19).take size) ∧ Below wc.heap.size wc.drew w' := by
                    have h1 : RB wc.drew w.heap.size (some ⟨b, o + 19, none⟩) ((l.drop 19).take size) := ((Hr.out.below Hendw.out).cutFlat 19).take size
                    have := clone_any (some ⟨b, o + 19, none⟩) (c - 19) _ wc.drew _ h1 Hendw.out.size (by rw [List.length_take]; omega)
                    rw [List.length_take, List.length_drop, Nat.min_eq_left (by omega)] at this
                    exact this
                  have Hcl := Lib.hid hcl
                  have hwc2 : w.heap.size < wc.heap.size := by omega
                  have l19 : 19 + size - 19 = size := by omega
                  have l19' : 19 + (size : Int) ≤ (c : Int) := by omega
                  clear hcl
                  have hwa : IntKind.i64.wrap (19 + (size : Int)) = 19 + (size : Int) := by rw [IntKind.wrap_i64]; omega
                  have hs1 : (19 : Int) ≤ 19 + (size : Int) := by omega
                  have hs2 : (0 : Int) ≤ 19 + (size : Int) := by omega
                  have hs3 : (19 + (size : Int)).toNat = 19 + size := by omega
                  have hs4 : 19 ≤ 19 + size := by omega
                  have Hhx := Lib.hid hhx
                  clear hhx
                  go_upto_region 11 with fail
                  clear hd1 hd2 hws hwr Hg4 h16 Hrc Hhc
                  go_region_with (first | (go_at_call 35; refine Hcl.out.mono ?_; rintro e W9 ⟨v9, rfl, hown9, hbel9⟩; have hhw9 : HBlk W9 w.heap.size 0 0 0 0 := (hbel9.block _ hwc2).trans Hhw.out; obtain ⟨p0, p1, p2, p3, z0, z1, z2, z3⟩ := hhw9.cells; have hhx9 : HBlk W9 wk.heap.size (sq : Int) (row : Int) (sh : Int) (size : Int) := (hbel9.block _ hgl).trans Hhx.out.out; obtain ⟨k0, k1, k2, k3, _⟩ := hhx9.cells; have Hhw9 := Lib.hid hhw9; have Hown9 := Lib.hid hown9; have Hbel9 := Lib.hid hbel9; clear hhw9 hhx9 hown9 hbel9))
                  all_goals
                    clear k0 k1 k2 k3 p0 p1 p2 p3 z0 z1 z2 z3 g0 g1 g2 g3 hwa hs1 hs2 hs3 hs4 l19 l19'
                    go_wp2_with fail
                    have hst := HBlk.store Hhw9.out (sq : Int) (row : Int) (sh : Int) (size : Int) (Hendw.out.drew.trans (Hbel9.out.mono Hendw.out.size)) (Nat.le_refl _)
                    have hwn : Own ((((W9.setCell ⟨w.heap.size, 0, none⟩ (.int .u64 (sq : Int))).setCell ⟨w.heap.size, 1, none⟩ (.int .i64 (row : Int))).setCell ⟨w.heap.size, 2, none⟩ (.int .i64 (sh : Int))).setCell ⟨w.heap.size, 3, none⟩ (.int .i64 (size : Int))) w.heap.size v9 ((l.drop 19).take size) := ((((Hown9.out.poke hwc2 _).poke hwc2 _).poke hwc2 _).poke hwc2 _).wide Hendw.out.size
                    generalize ((((W9.setCell ⟨w.heap.size, 0, none⟩ (.int .u64 (sq : Int))).setCell ⟨w.heap.size, 1, none⟩ (.int .i64 (row : Int))).setCell ⟨w.heap.size, 2, none⟩ (.int .i64 (sh : Int))).setCell ⟨w.heap.size, 3, none⟩ (.int .i64 (size : Int))) = Wf at hst hwn ⊢
                    obtain ⟨q0, q1, q2, q3, _⟩ := hst.1.cells
                    refine bodyPost_ret (v := .tuple #[.agg #[.int .u64 (sq : Int), .int .i64 (row : Int), .int .i64 (sh : Int), .int .i64 (size : Int)], v9, .int .i64 0]) (by simp [results, Tryd.results21, go_sem, q0, q1, q2, q3]) rfl ⟨v9, by simp only [Hsq.out, Hsh.out], hwn, hst.2⟩
      · have hb : ((a : Int) != (sm : Int)) = true := by simp; omega
        have hout : out = ((0, 0, 0, 0), [], 23) := by
          rw [Hspec.out, if_neg h0, if_pos]
          rw [← Has.out.2.1, ← Has.out.2.2]
          exact hsum
        subst hout
        have hhc : HBlk wc w.heap.size 0 0 0 0 := (hbelc.out.block _ (by have := HszW.out; omega)).trans Hhb.out
        have Hend : Hid (Below w.heap.size w wc) := Hbel0.out.trans (hbelc.out.mono (by have := HszW.out; omega))
        obtain ⟨q0, q1, q2, q3, f0, f1, f2, f3⟩ := hhc.cells
        have Hhc := Lib.hid hhc
        clear hsum Hget Hsum hw Has Hspec hhc
        go_wp2_with fail
        have hst := HBlk.store Hhc.out 0 0 0 0 Hend.out (Nat.le_refl _)
        generalize ((((wc.setCell ⟨w.heap.size, 0, none⟩ (.int .u64 0)).setCell ⟨w.heap.size, 1, none⟩ (.int .i64 0)).setCell ⟨w.heap.size, 2, none⟩ (.int .i64 0)).setCell ⟨w.heap.size, 3, none⟩ (.int .i64 0)) = Wf at hst ⊢
        obtain ⟨q0, q1, q2, q3, _⟩ := hst.1.cells
        refine bodyPost_ret (v := .tuple #[.agg #[.int .u64 0, .int .i64 0, .int .i64 0, .int .i64 0], .slice none 0 0, .int .i64 23]) (by simp [results, Tryd.results21, go_sem, q0, q1, q2, q3]) rfl ⟨_, rfl, Own.nil _ _, hst.2⟩
end Go.Proofs.YtnphlaolinalkaaDoor
