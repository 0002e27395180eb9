/-
  pages: a row's pages of its payloads.
-/
import Derived.Test.YtlficcdbnmheeaaDoorSg3
import Derived.Test.YtlficcdbnmheeaaDoorKPage
namespace Go.Proofs.YtlficcdbnmheeaaDoor
open Go.RowKit Go.Sort Go.Lib

/-- the pages of a row with these payloads -/
def pageM (G row : Int) (id : Nat) (M : Mtx) : Mtx := (List.range M.length).map fun (i : Nat) => pageOf G row (i : Int) id (M.getD i [])
theorem pageM_len (G row : Int) (id : Nat) (M : Mtx) : (pageM G row id M).length = M.length := by simp [pageM]
theorem pageM_get {G row : Int} {id : Nat} {M : Mtx} {i : Nat} (h : i < M.length) : (pageM G row id M)[i]? = some (pageOf G row i id (M.getD i [])) := by simp [pageM, h]
/-- what the closure holds -/
structure EnvP (w : World) (b0 b1 b2 : Nat) (K P G row : Int) (id : Nat) : Prop where
  s : Cells w b0 23 [.int .i64 K, .int .i64 P, .int .i64 G]
  i : Cells w b1 24 [.int .u64 (id : Int)]
  r : Cells w b2 3 [.int .i64 row]
theorem EnvP.below {w w' : World} {b0 b1 b2 : Nat} {K P G row : Int} {id : Nat} (h : EnvP w b0 b1 b2 K P G row id) (hb : Below w.heap.size w w') : EnvP w' b0 b1 b2 K P G row id :=
  ⟨h.s.move (hb.block _ h.s.lt), h.i.move (hb.block _ h.i.lt), h.r.move (hb.block _ h.r.lt)⟩
/-- where its bytes lie is not below lo -/
def LoB (lo : Nat) (A : Option Addr) (l : List UInt8) : Prop := ∀ ad, A = some ad → 1 ≤ l.length → lo ≤ ad.block
theorem own_lo {w : World} {base n c : Nat} {A : Option Addr} {l : List UInt8} (h : Own w base (.slice A n c) l) : LoB base A l := fun ad e hl => by
  obtain ⟨g, cap, q, q1, _⟩ := h.form hl
  cases q
  cases e
  exact q1
/-- READS AS M, and all of it lies in blocks from lo on -/
def RML (w : World) (lo B : Nat) (A : Option Addr) (M : Mtx) : Prop :=
  ∀ (k : Nat) (l : List UInt8), M[k]? = some l → ∃ (b o : Nat) (A' : Option Addr) (c : Nat), A = some ⟨b, o, none⟩ ∧ lo ≤ b ∧ b < B ∧ w.cell? ⟨b, o + k, none⟩ = some (.slice A' l.length c) ∧ RB w B A' l ∧ l.length ≤ c ∧ LoB lo A' l
theorem RML.rm {w : World} {lo B : Nat} {A : Option Addr} {M : Mtx} (h : RML w lo B A M) : RM w B A M := fun k l hl => by
  obtain ⟨b, o, A', c, e, _, h2, h3, h4, h5, _⟩ := h k l hl
  exact ⟨b, o, A', c, e, h2, h3, h4, h5⟩
theorem RML.low {w : World} {lo lo' B : Nat} {A : Option Addr} {M : Mtx} (h : RML w lo B A M) (hlo : lo' ≤ lo) : RML w lo' B A M := fun k l hl => by
  obtain ⟨b, o, A', c, e, h1, h2, h3, h4, h5, h6⟩ := h k l hl
  exact ⟨b, o, A', c, e, by omega, h2, h3, h4, h5, fun ad e hl => Nat.le_trans hlo (h6 ad e hl)⟩
theorem RB.keep {w w' : World} {lo B B' : Nat} {A : Option Addr} {l : List UInt8} (h : RB w B A l) (hl : LoB lo A l) (hk : ∀ b, lo ≤ b → b < B → w'.heap[b]? = w.heap[b]?) (hB : B ≤ B') : RB w' B' A l := fun k x hx => by
  obtain ⟨ad, e, h1, h2⟩ := h k x hx
  have hp : 1 ≤ l.length := by have := (List.getElem?_eq_some_iff.1 hx).1; omega
  refine ⟨ad, e, by omega, ?_⟩
  rw [World.cell?_of_block (hk (ad.add k).block (by rw [add_block]; exact hl ad e hp) (by rw [add_block]; exact h1))]
  exact h2
/-- what is as it was from lo on -/
theorem RML.keep {w w' : World} {lo B B' : Nat} {A : Option Addr} {M : Mtx} (h : RML w lo B A M) (hk : ∀ b, lo ≤ b → b < B → w'.heap[b]? = w.heap[b]?) (hB : B ≤ B') : RML w' lo B' A M := fun k l hl => by
  obtain ⟨b, o, A', c, e, h1, h2, h3, h4, h5, h6⟩ := h k l hl
  exact ⟨b, o, A', c, e, h1, by omega, (World.cell?_of_block (hk b h1 h2)).trans h3, h4.keep h6 hk hB, h5, h6⟩
theorem RML.below {w w' : World} {lo B : Nat} {A : Option Addr} {M : Mtx} (h : RML w lo B A M) (hb : Below B w w') : RML w' lo B A M := h.keep (fun b _ hb2 => hb.block b hb2) (Nat.le_refl _)
theorem RML.wide {w : World} {lo B B' : Nat} {A : Option Addr} {M : Mtx} (h : RML w lo B A M) (hB : B ≤ B') : RML w lo B' A M := h.keep (fun _ _ _ => rfl) hB
/-- headers that read as the first pages -/
def HdrP (w : World) (lo : Nat) (hs : List Value) (M : Mtx) : Prop := hs.length ≤ M.length ∧ ∀ (i : Nat) (l : List UInt8), i < hs.length → M[i]? = some l → ∃ A c, hs[i]? = some (.slice A l.length c) ∧ RB w w.heap.size A l ∧ l.length ≤ c ∧ LoB lo A l
theorem HdrP.below {w w' : World} {lo : Nat} {hs : List Value} {M : Mtx} (h : HdrP w lo hs M) (hb : Below w.heap.size w w') : HdrP w' lo hs M := ⟨h.1, fun i l hi hl => by
  obtain ⟨A, c, q1, q2, q3⟩ := h.2 i l hi hl
  exact ⟨A, c, q1, (q2.below hb).wide hb.size, q3⟩⟩
theorem HdrP.rm {w : World} {lo g : Nat} {hs : List Value} {M : Mtx} (h : HdrP w lo hs M) (hc : Cells w g 25 hs) (hl : hs.length = M.length) (hg : lo ≤ g) : RML w lo w.heap.size (some ⟨g, 0, none⟩) M := fun i l hi => by
  have hi' : i < hs.length := by rw [hl]; exact (List.getElem?_eq_some_iff.1 hi).1
  obtain ⟨A, c, q1, q2, q3, q4⟩ := h.2 i l hi' hi
  exact ⟨g, 0, A, c, rfl, hg, hc.lt, by rw [Nat.zero_add]; exact hc.cell q1, q2, q3, q4⟩
theorem HdrP.snoc {w : World} {lo : Nat} {hs : List Value} {M : Mtx} {A : Option Addr} {c : Nat} {l : List UInt8} (h : HdrP w lo hs M) (hl : M[hs.length]? = some l) (hr : RB w w.heap.size A l) (hc : l.length ≤ c) (hlo : LoB lo A l) : HdrP w lo (hs ++ [.slice A l.length c]) M := by
  refine ⟨by have := (List.getElem?_eq_some_iff.1 hl).1; simp; omega, fun i l' hi hl' => ?_⟩
  by_cases q : i < hs.length
  · obtain ⟨A', c', q1, q2⟩ := h.2 i l' q hl'
    exact ⟨A', c', by rw [List.getElem?_append_left q]; exact q1, q2⟩
  · have e : i = hs.length := by simp at hi; omega
    subst e
    rw [hl] at hl'
    cases hl'
    exact ⟨A, c, by simp, hr, hc, hlo⟩
section
set_option maxRecDepth 20000
set_option maxHeartbeats 1600000
variable {w : World} {b0 b1 b2 : Nat} {K P G row : Int} {id : Nat}
theorem pages1_any (shard : Int) (A : Option Addr) (c : Nat) (x : List UInt8) (he : EnvP w b0 b1 b2 K P G row id) (ht : Tab w) (hr : RB w w.heap.size A x) (hid : id < two64) (hc : x.length ≤ c) :
    Calls Tryd.prog 65 #[.int .i64 shard, .slice A x.length c, .pointer (some ⟨b0, 0, none⟩), .pointer (some ⟨b1, 0, none⟩), .pointer (some ⟨b2, 0, none⟩)] w
      fun e w' => ∃ v, e = .returned (.tuple #[v, .int .i64 (pageErr G row shard x.length : Nat)]) ∧ Own w' w.heap.size v (pageOf G row shard id x) ∧ Below w.heap.size w w' := by
  have Hp := Lib.hid (page_any G row shard id 0 A c x w w.heap.size ht hr (Nat.le_refl _) hid hc)
  have c0 := he.s.cell (i := 2) rfl
  have c1 := he.i.cell (i := 0) rfl
  have c2 := he.r.cell (i := 0) rfl
  generalize x.length = n at *
  clear he ht hr hid hc
  go_enter Tryd.func65, Tryd.ntmps65
  go_wp2_with fail
  refine Hp.out.mono ?_
  rintro e w1 ⟨v, rfl, ho, hb⟩
  have H1 := Lib.hid (And.intro ho hb)
  clear ho hb Hp
  go_wp2_with fail
  go_ret2
  exact ⟨_, rfl, H1.out⟩
theorem each1_any (A : Option Addr) (c N : Nat) (M : Mtx) (he : EnvP w b0 b1 b2 K P G row id) (ht : Tab w) (hr : RM w w.heap.size A M) (hid : id < two64) (hN : N = M.length) (hN2 : N ≤ 4096)
    (hok : ∀ (i : Nat) (l : List UInt8), M[i]? = some l → pageErr G row i l.length = 0) :
    Calls Tryd.prog 64 #[.slice A N c, .func (.func 65) #[] #[.pointer (some ⟨b0, 0, none⟩), .pointer (some ⟨b1, 0, none⟩), .pointer (some ⟨b2, 0, none⟩)]] w
      fun e w' => e = .returned (.tuple #[.slice (some ⟨w.heap.size, 0, none⟩) N N, .int .i64 0]) ∧ RML w' w.heap.size w'.heap.size (some ⟨w.heap.size, 0, none⟩) (pageM G row id M) ∧ Below w.heap.size w w' := by
  obtain ⟨cs, Hcs, hmk⟩ := make_lists N hN2
  have HE := Lib.hid he
  have HT := Lib.hid ht
  have HR := Lib.hid hr
  have Hok := Lib.hid hok
  have HN := Lib.hid hN
  have Hid' := Lib.hid hid
  have h0 : Hid (∃ hs : List Value, hs.length = 0 ∧ Cells (w.alloc (.cells cs 25)) w.heap.size 25 (hs ++ List.replicate (N - 0) (.slice none 0 0)) ∧ HdrP (w.alloc (.cells cs 25)) w.heap.size hs (pageM G row id M) ∧ Below w.heap.size w (w.alloc (.cells cs 25))) := by
    refine ⟨[], rfl, ?_, ⟨Nat.zero_le _, fun i l hi => by simp at hi⟩, (Below.refl _ _).alloc (Nat.le_refl _) _⟩
    have := Cells.new w cs 25
    rw [Hcs.out] at this ⊢
    simpa using this
  have hNi : (N : Int) ≤ 4096 := by omega
  clear he ht hr hid hN hok Hcs
  go_enter Tryd.func64, Tryd.ntmps64
  go_wp2_with fail
  go_loopw [16] (fun iv wr => ∃ i : Nat, iv = .int .i64 (i : Int) ∧ i ≤ N ∧ Hid (∃ hs : List Value, hs.length = i ∧ Cells wr w.heap.size 25 (hs ++ List.replicate (N - i) (.slice none 0 0)) ∧ HdrP wr w.heap.size hs (pageM G row id M) ∧ Below w.heap.size w wr)) (fun iv _ => N - (intOf iv).toNat)
  case atStart => exact ⟨0, rfl, Nat.zero_le _, h0.out⟩
  case round =>
    clear h0
    obtain ⟨i, rfl, hi, hst⟩ := hrel
    by_cases hlt : i < N
    · have hlt' : (i : Int) < (N : Int) := by omega
      have hiM : i < M.length := by rw [← HN.out]; exact hlt
      obtain ⟨hs, h1, h2, h3, h4⟩ := hst.out
      obtain ⟨x, hx⟩ : ∃ x, x = M[i] := ⟨_, rfl⟩
      have hMi : M[i]? = some x := by rw [hx]; exact List.getElem?_eq_getElem hiM
      obtain ⟨b, o, A', c', rfl, hb, hcell, hrb, hxc⟩ := (HR.out.below h4) i x hMi
      have hT : Tab wr := HT.out.below h4 HT.out.pos
      have hcall := pages1_any (w := wr) (K := K) (P := P) (G := G) (row := row) (id := id) (i : Int) A' c' x (HE.out.below h4) hT (hrb.wide h4.size) Hid'.out hxc
      rw [Hok.out i x hMi] at hcall
      have Hcall := Lib.hid hcall
      have Hn : Hid (∀ w1 v, Own w1 wr.heap.size v (pageOf G row i id x) → Below wr.heap.size wr w1 → (∃ A3 n3 c3, v = .slice A3 n3 c3) ∧ w1.frozen? ⟨w.heap.size, i, none⟩ = false ∧ (∃ u, w1.cell? ⟨w.heap.size, i, none⟩ = some u) ∧
          ∃ hs : List Value, hs.length = i + 1 ∧ Cells (w1.setCell ⟨w.heap.size, i, none⟩ v) w.heap.size 25 (hs ++ List.replicate (N - (i + 1)) (.slice none 0 0)) ∧ HdrP (w1.setCell ⟨w.heap.size, i, none⟩ v) w.heap.size hs (pageM G row id M) ∧ Below w.heap.size w (w1.setCell ⟨w.heap.size, i, none⟩ v)) := fun w1 v ho hb1 => by
        obtain ⟨A3, c3, rfl, hc3, hr3, _⟩ := ho.rb
        have hC := h2.move (hb1.block _ h2.lt)
        have hB := (h4.trans (hb1.mono h4.size)).setCell (p := ⟨w.heap.size, i, none⟩) (Nat.le_refl _) (.slice A3 (pageOf G row i id x).length c3)
        have hpg : (pageM G row id M)[hs.length]? = some (pageOf G row i id x) := by
          rw [h1, pageM_get hiM, List.getD, hMi]; rfl
        have hset := hC.set i (.slice A3 (pageOf G row i id x).length c3)
        have hkeep : ∀ (A : Option Addr) (l : List UInt8), RB w1 w1.heap.size A l → RB (w1.setCell ⟨w.heap.size, i, none⟩ (.slice A3 (pageOf G row i id x).length c3)) (w1.setCell ⟨w.heap.size, i, none⟩ (.slice A3 (pageOf G row i id x).length c3)).heap.size A l := fun A l hl k y hy => by
          obtain ⟨ad, e1, e2, e3⟩ := hl k y hy
          refine ⟨ad, e1, by simpa [World.setCell] using e2, ?_⟩
          rw [World.cell?_setCell_other _ _ _ _ (fun e => by
            rw [← e] at e3
            have : w1.cell? ⟨w.heap.size, i, none⟩ = some (.slice none 0 0) := hC.cell (by rw [List.getElem?_append_right (by omega), h1, Nat.sub_self, List.getElem?_replicate, if_pos (by omega)])
            rw [this] at e3
            cases e3)]
          exact e3
        refine ⟨⟨_, _, _, rfl⟩, hC.frozen i, ⟨.slice none 0 0, hC.cell (by rw [List.getElem?_append_right (by omega), h1, Nat.sub_self, List.getElem?_replicate, if_pos (by omega)])⟩, hs ++ [.slice A3 (pageOf G row i id x).length c3], by simp [h1], ?_, ?_, hB⟩
        · rw [List.set_append_right _ _ (by omega), h1, Nat.sub_self, show N - i = (N - (i + 1)) + 1 by omega, List.replicate_succ, List.set_cons_zero] at hset
          rw [List.append_assoc]
          exact hset
        · have h5 := (h3.below hb1).snoc hpg hr3 hc3 (fun ad e hl => Nat.le_trans h4.size (own_lo ho ad e hl))
          exact ⟨h5.1, fun k l hk hl => by
            obtain ⟨A9, c9, q1, q2, q3⟩ := h5.2 k l hk hl
            exact ⟨A9, c9, q1, hkeep _ _ q2, q3⟩⟩
      generalize x.length = xl at *
      clear hst h1 h2 h3 h4 hMi hx hiM hT hcall hrb hb hlt
      go_wp2_with fail
      refine Hcall.out.mono ?_
      rintro e w1 ⟨v, rfl, ho, hb1⟩
      obtain ⟨⟨A3, n3, c3, rfl⟩, f3, ⟨u3, k3⟩, hn3⟩ := Hn.out w1 v ho hb1
      have H3 := Lib.hid hn3
      clear ho hb1 hn3 Hn Hcall hcell
      go_wp2_with fail
      go_roundw
      case rel => exact ⟨i + 1, by go_num, by omega, H3.out⟩
      case measure => simp [intOf]; omega
    · obtain rfl : i = N := by omega
      have Hf : Hid (RML wr w.heap.size wr.heap.size (some ⟨w.heap.size, 0, none⟩) (pageM G row id M) ∧ Below w.heap.size w wr) := by
        obtain ⟨hs, h1, h2, h3, h4⟩ := hst.out
        rw [Nat.sub_self, List.replicate_zero, List.append_nil] at h2
        exact ⟨h3.rm h2 (by rw [h1, pageM_len, HN.out]) (Nat.le_refl _), h4⟩
      clear hst hlt
      go_wp2_with fail
      go_ret2
      exact ⟨rfl, Hf.out⟩
theorem pagesS_any (A : Option Addr) (c N : Nat) (M : Mtx) (ht : Tab w) (hr : RM w w.heap.size A M) (hid : id < two64) (hN : N = M.length) (hN2 : N ≤ 4096)
    (hok : ∀ (i : Nat) (l : List UInt8), M[i]? = some l → pageErr G row i l.length = 0) :
    Calls Tryd.prog 45 #[shV K P G, .int .u64 (id : Int), .int .i64 row, .slice A N c] w
      fun e w' => ∃ g, e = .returned (.tuple #[.slice (some ⟨g, 0, none⟩) N N, .int .i64 0]) ∧ RML w' w.heap.size w'.heap.size (some ⟨g, 0, none⟩) (pageM G row id M) ∧ Below w.heap.size w w' := by
  have hmf : ∀ (fn : Fn) (first cap : Array Value) (w : World), (Instr.makeFunc fn first cap).run Tryd.prog w = .ok (.func fn first cap) w := fun _ _ _ _ => rfl
  have hbel : Below w.heap.size w (((w.alloc (.cells #[.int .i64 K, .int .i64 P, .int .i64 G] 23)).alloc (.cells #[.int .u64 (id : Int)] 24)).alloc (.cells #[.int .i64 row] 3)) := (((Below.refl _ _).alloc (Nat.le_refl _) _).alloc (by simp) _).alloc (by simp; omega) _
  have hE : EnvP (((w.alloc (.cells #[.int .i64 K, .int .i64 P, .int .i64 G] 23)).alloc (.cells #[.int .u64 (id : Int)] 24)).alloc (.cells #[.int .i64 row] 3)) w.heap.size (w.heap.size + 1) (w.heap.size + 2) K P G row id := by
    refine ⟨((Cells.new w _ _).alloc _).alloc _, ?_, ?_⟩
    · have := (Cells.new (w.alloc (.cells #[.int .i64 K, .int .i64 P, .int .i64 G] 23)) #[.int .u64 (id : Int)] 24).alloc (.cells #[.int .i64 row] 3)
      simpa using this
    · have := Cells.new ((w.alloc (.cells #[.int .i64 K, .int .i64 P, .int .i64 G] 23)).alloc (.cells #[.int .u64 (id : Int)] 24)) #[.int .i64 row] 3
      simpa using this
  have Hc := Lib.hid (each1_any A c N M hE (ht.below hbel ht.pos) ((hr.below hbel).wide hbel.size) hid hN hN2 hok)
  have Hb := Lib.hid hbel
  unfold shV
  clear ht hr hid hN hN2 hok hbel hE
  go_enter Tryd.func45, Tryd.ntmps45
  go_wp2_with fail
  refine Hc.out.mono ?_
  rintro e w1 ⟨rfl, h1, h2⟩
  have H1 : Hid (RML w1 w.heap.size w1.heap.size _ (pageM G row id M) ∧ Below w.heap.size w w1) := ⟨h1.low Hb.out.size, Hb.out.trans (h2.mono Hb.out.size)⟩
  clear h1 h2 Hc
  go_wp2_with fail
  go_ret2
  exact ⟨_, rfl, (by have := H1.out.1; simpa using this), H1.out.2⟩
end
end Go.Proofs.YtlficcdbnmheeaaDoor
