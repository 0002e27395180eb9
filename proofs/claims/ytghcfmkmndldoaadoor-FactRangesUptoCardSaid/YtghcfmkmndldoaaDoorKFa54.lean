/-
  Bounds of a table.
-/
import Derived.Test.YtghcfmkmndldoaaDoorKFaR2
import Derived.Test.YtghcfmkmndldoaaDoorFa53
import Derived.Test.YtghcfmkmndldoaaDoorKFa43
import Derived.Test.YtghcfmkmndldoaaDoorKFa3
namespace Go.Proofs.YtghcfmkmndldoaaDoor
open Go.RowKit Go.Sort Go.Lib

/-- the least number, the greatest -/
def lowF (fs : List Fc) : Nat := fs.foldl (fun a f => min a f.2.1) 18446744073709551615
def higF (fs : List Fc) : Nat := fs.foldl (fun a f => max a f.2.1) 0
theorem lowF_snoc (fs : List Fc) (f : Fc) : lowF (fs ++ [f]) = min (lowF fs) f.2.1 := by simp [lowF]
theorem higF_snoc (fs : List Fc) (f : Fc) : higF (fs ++ [f]) = max (higF fs) f.2.1 := by simp [higF]
theorem take_snoc {fs : List Fc} {i : Nat} {f : Fc} (h : fs[i]? = some f) : fs.take (i + 1) = fs.take i ++ [f] := by
  rw [List.take_add_one, h]
  rfl
/-- what Bounds tells -/
def boundsV (fs : List Fc) : Value := match fs with
  | [] => .tuple #[.string ⟨#[]⟩, .string ⟨#[]⟩, .int .u64 0, .int .u64 0, .bool false]
  | f :: l => .tuple #[.string f.1, .string ((f :: l).getLast (by simp)).1, .int .u64 (lowF (f :: l) : Int), .int .u64 (higF (f :: l) : Int), .bool true]
section
set_option maxRecDepth 100000
set_option maxHeartbeats 8000000
theorem tbounds_any (g : Nat) (A : Option Addr) (c : Nat) (fs : List Fc) (w : World) (hc : Cells w g 131 [.slice A fs.length c]) (hl : fs.length ≤ 1099511627776) (hr : RF w w.heap.size A fs) :
    Calls Tryd.prog 76 #[.pointer (some ⟨g, 0, none⟩)] w fun e w' => e = .returned (boundsV fs) ∧ Below w.heap.size w w' := by
  rcases fs with _ | ⟨f0, fr⟩
  · have c0 := hc.cell (i := 0) rfl
    clear hc hr
    go_enter Tryd.func76, Tryd.ntmps76
    go_wp2_with fail
    exact bodyPost_ret (v := .tuple #[.string ⟨#[]⟩, .string ⟨#[]⟩, .int .u64 0, .int .u64 0, .bool false]) (by simp [results, Tryd.results76, go_sem]) rfl ⟨rfl, Below.refl _ _⟩
  · obtain ⟨fs, hfs⟩ : ∃ fs, fs = f0 :: fr := ⟨_, rfl⟩
    have hB : boundsV (f0 :: fr) = .tuple #[.string f0.1, .string (fs.getLast (by rw [hfs]; simp)).1, .int .u64 (lowF fs : Int), .int .u64 (higF fs : Int), .bool true] := by subst hfs; rfl
    rw [hB]
    have h0 : fs[0]? = some f0 := by rw [hfs]; rfl
    have hlast : fs[fs.length - 1]? = some (fs.getLast (by rw [hfs]; simp)) := by rw [List.getLast_eq_getElem, List.getElem?_eq_getElem]
    rw [← hfs] at hc hl hr
    have hn0 : 0 < fs.length := by rw [hfs]; simp
    generalize fs.getLast (by rw [hfs]; simp) = fz at *
    clear hB hfs
    obtain ⟨n, hn⟩ : ∃ n, n = fs.length := ⟨_, rfl⟩
    have c0 := hc.cell (i := 0) rfl
    rw [← hn] at c0 hlast hn0
    have hn1 : (n : Int) ≤ 1099511627776 := by omega
    have hnz : ¬ (n : Int) = 0 := by omega
    have hnz2 : ((n : Int) == 0) = false := by rw [beq_eq_false_iff_ne]; exact hnz
    have Hr : Hid (RF w w.heap.size A fs ∧ n = fs.length ∧ g < w.heap.size ∧ fs[0]? = some f0 ∧ fs[n - 1]? = some fz ∧ 0 < n) := ⟨hr, hn, hc.lt, h0, hlast, hn0⟩
    have Hlen : Hid (∀ k : Nat, k < n → ∃ u, fs[k]? = some u) := fun k hk => ⟨_, List.getElem?_eq_getElem (by omega)⟩
    have HX : Hid (∀ W, Below w.heap.size w W → W.cell? ⟨g, 0, none⟩ = some (.slice A n c)) := fun W hW => by
      have h := hc.move (hW.block g hc.lt)
      rw [hn]
      exact h.cell rfl
    clear hr hc hl h0 hlast hn hn0
    go_enter Tryd.func76, Tryd.ntmps76
    go_wp2_with fail
    go_loopw [4, 5, 20] (fun lv hv iv wr => ∃ i : Nat, iv = .int .i64 (i : Int) ∧ i ≤ n ∧ lv = .int .u64 (lowF (fs.take i) : Int) ∧ hv = .int .u64 (higF (fs.take i) : Int) ∧ Hid (Below w.heap.size w wr)) (fun _ _ iv _ => n - (intOf iv).toNat)
    case atStart => exact ⟨0, rfl, Nat.zero_le _, rfl, rfl, Below.refl _ _⟩
    case round =>
      have hrel0 := hrel
      clear hrel
      obtain ⟨i, rfl, hi, rfl, rfl, hg⟩ := hrel0
      by_cases hlt : i < n
      · obtain ⟨f, hf⟩ := Hlen.out i hlt
        obtain ⟨b, o, V, rfl, hblt, x0, x1, x2, ⟨A2, cv, rfl, _⟩, _⟩ := (Hr.out.1.below hg.out).at_ hf
        have hlt' : (i : Int) < (n : Int) := by omega
        have hs1 : lowF (fs.take (i + 1)) = min (lowF (fs.take i)) f.2.1 := by rw [take_snoc hf, lowF_snoc]
        have hs2 : higF (fs.take (i + 1)) = max (higF (fs.take i)) f.2.1 := by rw [take_snoc hf, higF_snoc]
        obtain ⟨W, hW⟩ : ∃ W, W = wr.alloc (.cells #[.string f.1, .int .u64 (f.2.1 : Int), .slice A2 f.2.2.length cv] 40) := ⟨_, rfl⟩
        have hBW : Hid (Below w.heap.size w W) := by rw [hW]; exact hg.out.alloc hg.out.size _
        have hCW : Cells W wr.heap.size 40 [.string f.1, .int .u64 (f.2.1 : Int), .slice A2 f.2.2.length cv] := by rw [hW]; exact Cells.new wr _ _
        have y1 := hCW.cell (i := 1) rfl
        obtain ⟨lo, hlo⟩ : ∃ lo, lo = lowF (fs.take i) := ⟨_, rfl⟩
        obtain ⟨hi', hhi⟩ : ∃ hi', hi' = higF (fs.take i) := ⟨_, rfl⟩
        rw [← hlo] at hs1 ⊢
        rw [← hhi] at hs2 ⊢
        obtain ⟨fk, s, fv⟩ := f
        dsimp only at *
        have Hs : Hid (lowF (fs.take (i + 1)) = min lo s ∧ higF (fs.take (i + 1)) = max hi' s) := ⟨hs1, hs2⟩
        clear hf hblt hCW hlo hhi hs1 hs2 hlt Hlen hg
        go_upto_region 7 with fail
        rw [← hW]
        clear hW x0 x1 x2
        by_cases a1 : s < lo
        · have a2 : ((s : Int) < (lo : Int)) = True := eq_true (by omega)
          have a3 : (s < lo) = True := eq_true a1
          by_cases b1 : hi' < s
          · have b2 : ((hi' : Int) < (s : Int)) = True := eq_true (by omega)
            have b3 : (hi' < s) = True := eq_true b1
            have Hv : Hid (lowF (fs.take (i + 1)) = s ∧ higF (fs.take (i + 1)) = s) := ⟨by rw [Hs.out.1]; omega, by rw [Hs.out.2]; omega⟩
            clear a1 b1 Hs
            go_quiet (fail)
            go_wp2_with fail
            go_roundw
            case rel => exact ⟨i + 1, (by first | rfl | go_num), by omega, by rw [Hv.out.1], by rw [Hv.out.2], below_drewN hBW.out nq⟩
            case measure => simp [intOf]; omega
          · have b2 : ((hi' : Int) < (s : Int)) = False := eq_false (by omega)
            have b3 : (hi' < s) = False := eq_false b1
            have Hv : Hid (lowF (fs.take (i + 1)) = s ∧ higF (fs.take (i + 1)) = hi') := ⟨by rw [Hs.out.1]; omega, by rw [Hs.out.2]; omega⟩
            clear a1 b1 Hs
            go_quiet (fail)
            go_wp2_with fail
            go_roundw
            case rel => exact ⟨i + 1, (by first | rfl | go_num), by omega, by rw [Hv.out.1], by rw [Hv.out.2], below_drewN hBW.out nq⟩
            case measure => simp [intOf]; omega
        · have a2 : ((s : Int) < (lo : Int)) = False := eq_false (by omega)
          have a3 : (s < lo) = False := eq_false a1
          by_cases b1 : hi' < s
          · have b2 : ((hi' : Int) < (s : Int)) = True := eq_true (by omega)
            have b3 : (hi' < s) = True := eq_true b1
            have Hv : Hid (lowF (fs.take (i + 1)) = lo ∧ higF (fs.take (i + 1)) = s) := ⟨by rw [Hs.out.1]; omega, by rw [Hs.out.2]; omega⟩
            clear a1 b1 Hs
            go_quiet (fail)
            go_wp2_with fail
            go_roundw
            case rel => exact ⟨i + 1, (by first | rfl | go_num), by omega, by rw [Hv.out.1], by rw [Hv.out.2], below_drewN hBW.out nq⟩
            case measure => simp [intOf]; omega
          · have b2 : ((hi' : Int) < (s : Int)) = False := eq_false (by omega)
            have b3 : (hi' < s) = False := eq_false b1
            have Hv : Hid (lowF (fs.take (i + 1)) = lo ∧ higF (fs.take (i + 1)) = hi') := ⟨by rw [Hs.out.1]; omega, by rw [Hs.out.2]; omega⟩
            clear a1 b1 Hs
            go_quiet (fail)
            go_wp2_with fail
            go_roundw
            case rel => exact ⟨i + 1, (by first | rfl | go_num), by omega, by rw [Hv.out.1], by rw [Hv.out.2], below_drewN hBW.out nq⟩
            case measure => simp [intOf]; omega
      · obtain rfl : i = n := by omega
        have ht : fs.take i = fs := List.take_of_length_le (by have := Hr.out.2.1; omega)
        rw [ht]
        obtain ⟨b, o, V, rfl, hblt, x0, _, _, _, _⟩ := (Hr.out.1.below hg.out).at_ Hr.out.2.2.2.1
        obtain ⟨b', o', V', e', _, z0, _, _, _, _⟩ := (Hr.out.1.below hg.out).at_ Hr.out.2.2.2.2.1
        cases e'
        rw [Nat.zero_mul, Nat.add_zero] at x0
        have d0 := HX.out wr hg.out
        have hi0 : (0 : Int) < (i : Int) := by have := Hr.out.2.2.2.2.2; omega
        have hz1 : IntKind.i64.wrap ((i : Int) - 1) = ((i - 1 : Nat) : Int) := by rw [IntKind.wrap_i64]; have := Hr.out.2.2.2.2.2; omega
        have hz2 : ((i - 1 : Nat) : Int) < (i : Int) := by have := Hr.out.2.2.2.2.2; omega
        obtain ⟨iz, hiz⟩ : ∃ iz, iz = i - 1 := ⟨_, rfl⟩
        rw [← hiz] at z0 hz1 hz2
        have Hg := hg
        clear ht hg hblt hlt Hlen HX hiz
        go_upto_region 9 with fail
        go_quiet (fail)
        go_wp2_with fail
        exact bodyPost_ret (v := .tuple #[.string f0.1, .string fz.1, .int .u64 (lowF fs : Int), .int .u64 (higF fs : Int), .bool true]) (by simp [results, Tryd.results76, go_sem]) rfl ⟨rfl, below_drewN Hg.out nq⟩
end
end Go.Proofs.YtghcfmkmndldoaaDoor

/-
  looks: plain part and contracts.
-/
namespace Go.Proofs.YtghcfmkmndldoaaDoor
open Go.RowKit Go.Sort Go.Lib

theorem ahead_less {a b : Fc} {k : ByteArray} (h : Ahead a b) (hb : lessK k b = true) : lessK k a = true := by
  unfold lessK at *
  rcases h with h | ⟨h, _⟩
  · exact less_trans _ _ _ h hb
  · rw [h]; exact hb
theorem pair_at {fs : List Fc} (h : fs.Pairwise Ahead) {i j : Nat} {a b : Fc} (hi : fs[i]? = some a) (hj : fs[j]? = some b) (hij : i < j) : Ahead a b := by
  obtain ⟨h1, h2⟩ := List.getElem?_eq_some_iff.1 hi
  obtain ⟨h3, h4⟩ := List.getElem?_eq_some_iff.1 hj
  have := List.pairwise_iff_getElem.1 h i j h1 h3 hij
  rwa [h2, h4] at this
/-- the first of its key stands where its key's facts begin -/
theorem cnt_first {fs : List Fc} (h : fs.Pairwise Ahead) {i : Nat} {f : Fc} (hi : fs[i]? = some f) (h0 : i = 0 ∨ ∃ e, fs[i - 1]? = some e ∧ e.1 ≠ f.1) : cntF fs f.1 = i := by
  have hf : lessK f.1 f = false := less_irrefl _
  have hp : ∀ k e, fs[k]? = some e → (lessK f.1 e = true ↔ k < i) := fun k e hk => by
    constructor
    · intro q
      apply Decidable.byContradiction
      intro hn
      rcases Nat.lt_or_ge i k with h1 | h1
      · have := ahead_less (pair_at h hi hk h1) q
        rw [hf] at this; cases this
      · have : k = i := by omega
        subst this
        rw [hi] at hk
        cases hk
        rw [hf] at q; cases q
    · intro q
      rcases h0 with h0 | ⟨e0, he0, hne⟩
      · omega
      · have ha := pair_at h he0 hi (by omega)
        have hl : lessK f.1 e0 = true := by
          rcases ha with ha | ⟨ha, _⟩
          · exact ha
          · exact absurd ha hne
        rcases Nat.lt_or_ge k (i - 1) with h1 | h1
        · exact ahead_less (pair_at h hk he0 h1) hl
        · have : k = i - 1 := by omega
          subst this
          rw [he0] at hk
          cases hk
          exact hl
  unfold cntF
  rw [filter_prefix (lessK f.1) fs i hp, List.length_take]
  have := (List.getElem?_eq_some_iff.1 hi).1
  omega
theorem cnt_pos (fs : List Fc) (h : fs.Pairwise Ahead) (k : ByteArray) : ∀ j f, fs[j]? = some f → (lessK k f = true ↔ j < cntF fs k) := by
  induction fs with
  | nil => intro j f hj; simp at hj
  | cons a l ih =>
    intro j f hj
    have hl := List.Pairwise.of_cons h
    cases ha : lessK k a with
    | false =>
      have hno : ∀ f ∈ a :: l, lessK k f = false := fun f hf => by
        cases q : lessK k f with
        | false => rfl
        | true =>
          rcases List.mem_cons.1 hf with rfl | hf
          · rw [ha] at q; cases q
          · have := ahead_less ((List.pairwise_cons.1 h).1 f hf) q
            rw [ha] at this; cases this
      have h0 : cntF (a :: l) k = 0 := by
        unfold cntF
        rw [List.filter_eq_nil_iff.2 (fun f hf => by rw [hno f hf]; simp)]
        rfl
      rw [h0, hno f (List.mem_of_getElem? hj)]
      simp
    | true =>
      have h1 : cntF (a :: l) k = cntF l k + 1 := by unfold cntF; rw [List.filter_cons_of_pos ha]; rfl
      rw [h1]
      cases j with
      | zero => simp at hj; subst hj; rw [ha]; simp
      | succ j => rw [ih hl j f (by simpa using hj)]; omega
/-- what a stretch begins with -/
theorem range_head {fs : List Fc} (h : fs.Pairwise Ahead) {lo hi : ByteArray} : rangeF lo hi fs = (fs.take (max (cntF fs lo) (cntF fs hi))).drop (cntF fs lo) := by
  have p1 := cnt_pos fs h lo
  have p2 := cnt_pos fs h hi
  have q1 : PosF fs (lo, 18446744073709551615, []) (cntF fs lo) → True := fun _ => trivial
  have e1 : rangeF lo hi fs = (fs.drop (cntF fs lo)).filter (lessK hi) := by
    unfold rangeF
    generalize hi1 : cntF fs lo = i at *
    have hsp : fs = fs.take i ++ fs.drop i := (List.take_append_drop i fs).symm
    conv => lhs; rw [hsp]
    rw [List.filter_append]
    have t1 : (fs.take i).filter (fun f => !lessK lo f && lessK hi f) = [] := by
      rw [List.filter_eq_nil_iff]
      intro f hf
      obtain ⟨k, hk⟩ := List.getElem?_of_mem hf
      rw [List.getElem?_take] at hk
      split at hk
      · rename_i hki
        rw [(p1 k f hk).2 hki]
        simp
      · cases hk
    have t2 : (fs.drop i).filter (fun f => !lessK lo f && lessK hi f) = (fs.drop i).filter (lessK hi) := by
      apply List.filter_congr
      intro f hf
      obtain ⟨k, hk⟩ := List.getElem?_of_mem hf
      rw [List.getElem?_drop] at hk
      have : lessK lo f = false := by
        cases q : lessK lo f with
        | false => rfl
        | true => have := (p1 _ f hk).1 q; omega
      rw [this]
      simp
    rw [t1, t2, List.nil_append]
  rw [e1, filter_prefix (lessK hi) (fs.drop (cntF fs lo)) (cntF fs hi - cntF fs lo) fun k f hk => by
    rw [List.getElem?_drop] at hk
    rw [p2 _ f hk]
    omega, List.drop_take]
  congr 1
  omega
theorem range_snoc (lo hi : ByteArray) {fs : List Fc} {i : Nat} {f : Fc} (h : fs[i]? = some f) : rangeF lo hi (fs.take (i + 1)) = rangeF lo hi (fs.take i) ++ if (!lessK lo f && lessK hi f) = true then [f] else [] := by
  rw [take_snoc h]
  unfold rangeF
  rw [List.filter_append]
  congr 1
  by_cases q : (!lessK lo f && lessK hi f) = true
  · rw [if_pos q, List.filter_cons, if_pos q, List.filter_nil]
  · rw [if_neg q, List.filter_cons, if_neg q, List.filter_nil]
/-- where lo stands below hi: the stretch begins with lo's newest fact just where there is one -/
theorem range_there {fs : List Fc} (h : fs.Pairwise Ahead) {lo hi : ByteArray} (hlh : Op.bytesLess lo.toList hi.toList = true) {f : Fc} : (fs[cntF fs lo]? = some f ∧ f.1 = lo) ↔ ((rangeF lo hi fs)[0]? = some f ∧ f.1 = lo) := by
  rw [range_head h, List.getElem?_drop, List.getElem?_take, Nat.add_zero]
  constructor
  · rintro ⟨h1, rfl⟩
    have : lessK hi f = true := hlh
    have := (cnt_pos fs h hi _ f h1).1 this
    rw [if_pos (by omega)]
    exact ⟨h1, rfl⟩
  · rintro ⟨h1, h2⟩
    split at h1
    · exact ⟨h1, h2⟩
    · cases h1
theorem getP_cnt {fs : List Fc} {k : ByteArray} {w w' : World} {e : Ending} (hs : ∀ f ∈ fs, f.2.1 < two64) (h : GetP fs k w e w') : Below w.heap.size w w' ∧
    ((∃ f V, fs[cntF fs k]? = some f ∧ f.1 = k ∧ e = .returned (.tuple #[fcV f V, .bool true]) ∧ Own w' w.heap.size V f.2.2) ∨
     ((∀ f, fs[cntF fs k]? = some f → f.1 ≠ k) ∧ e = .returned (.tuple #[.agg #[.string ⟨#[]⟩, .int .u64 0, .slice none 0 0], .bool false]))) := by
  obtain ⟨i, hp, hb, hr⟩ := h
  have := posF_cnt hp hs
  subst this
  exact ⟨hb, hr⟩
/-- a table and its facts, as a law holds them -/
structure TabL (w : World) (g : Nat) (A : Option Addr) (c : Nat) (fs : List Fc) : Prop where
  tab : Cells w g 131 [.slice A fs.length c]
  len : fs.length ≤ 1099511627776
  cap : fs.length ≤ c
  nn : A = none → c = 0
  flat : ∀ ad, A = some ad → ∃ b o, ad = ⟨b, o, none⟩
  right : fs.Pairwise Ahead
  rd : RF w w.heap.size A fs
  vals : ∀ f ∈ fs, f.2.2.length ≤ 1099511627776
theorem RF.numsL {w : World} {B : Nat} {A : Option Addr} {fs : List Fc} (h : RF w B A fs) : ∀ f ∈ fs, f.2.1 < two64 := fun f hf => by
  obtain ⟨k, hk⟩ := List.getElem?_of_mem hf
  obtain ⟨_, _, _, _, _, _, _, _, _, q⟩ := h.at_ hk
  exact q
section
variable {w : World} {g : Nat} {A : Option Addr} {c : Nat} {fs : List Fc}
theorem TabL.below {w' : World} (h : TabL w g A c fs) (hb : Below w.heap.size w w') : TabL w' g A c fs := ⟨h.tab.move (hb.block g h.tab.lt), h.len, h.cap, h.nn, h.flat, h.right, (h.rd.below hb).wide hb.size, h.vals⟩
theorem TabL.get (h : TabL w g A c fs) (k : ByteArray) : Calls Tryd.prog 33 #[.pointer (some ⟨g, 0, none⟩), .string k] w fun e w' => Below w.heap.size w w' ∧
    ((∃ f V, fs[cntF fs k]? = some f ∧ f.1 = k ∧ e = .returned (.tuple #[fcV f V, .bool true]) ∧ Own w' w.heap.size V f.2.2) ∨
     ((∀ f, fs[cntF fs k]? = some f → f.1 ≠ k) ∧ e = .returned (.tuple #[.agg #[.string ⟨#[]⟩, .int .u64 0, .slice none 0 0], .bool false]))) :=
  (tget_any g A c fs k w h.tab h.len h.cap h.right h.rd h.vals).mono fun _ _ q => getP_cnt h.rd.numsL q
theorem TabL.all (h : TabL w g A c fs) : Calls Tryd.prog 75 #[.pointer (some ⟨g, 0, none⟩)] w fun e w' => ∃ v, e = .returned v ∧ RowO w' w.heap.size v fs ∧ Below w.heap.size w w' :=
  all_run fs w g h.len h.vals fun W hW => (tall_any g A fs.length c W (h.tab.move (hW.block g h.tab.lt))).mono fun e w' ⟨he, hw⟩ => by
    subst he
    subst hw
    have hb : Below W.heap.size W (W.alloc (.cells #[.slice A fs.length c] 42)) := (Below.refl _ _).alloc (Nat.le_refl _) _
    exact ⟨W.heap.size, A, c, rfl, Cells.new W _ _, h.rd.below (hW.trans (hb.mono hW.size)), hb⟩
theorem TabL.stretch (h : TabL w g A c fs) (lo hi : ByteArray) : Calls Tryd.prog 36 #[.pointer (some ⟨g, 0, none⟩), .string lo, .string hi] w fun e w' => ∃ v, e = .returned v ∧ RowO w' w.heap.size v (rangeF lo hi fs) ∧ Below w.heap.size w w' :=
  stretch_run (rangeF lo hi fs) w g lo hi (by have := List.length_filter_le (fun f => !lessK lo f && lessK hi f) fs; have := h.len; unfold rangeF; omega) (fun f hf => h.vals f (List.mem_filter.1 hf).1) fun W hW =>
    range_any g A c fs lo hi w.heap.size W (h.tab.move (hW.block g h.tab.lt)) h.len h.cap h.nn h.right hW.size (h.rd.below hW) h.rd.numsL h.flat
end
end Go.Proofs.YtghcfmkmndldoaaDoor

/-
  FactRanges, plain: stretches behind one another; the last loop's rest; a key's own stretch.
-/
namespace Go.Proofs.YtghcfmkmndldoaaDoor
open Go.RowKit Go.Sort Go.Lib

/-- a filter that is a front -/
theorem filter_front {p : Fc → Bool} : ∀ (n : Nat) (fs : List Fc), (∀ j f, fs[j]? = some f → (p f = true ↔ j < n)) → fs.filter p = fs.take n
  | n, [], _ => by simp
  | 0, a :: l, h => by
    have ha : ¬ p a = true := fun q => by have := (h 0 a rfl).1 q; omega
    rw [List.filter_cons_of_neg ha, List.take_zero]
    have := filter_front 0 l (fun j f hf => by rw [h (j + 1) f (by simpa using hf)]; omega)
    rw [this, List.take_zero]
  | n + 1, a :: l, h => by
    have ha : p a = true := (h 0 a rfl).2 (by omega)
    rw [List.filter_cons_of_pos ha, List.take_succ_cons]
    rw [filter_front n l (fun j f hf => by rw [h (j + 1) f (by simpa using hf)]; omega)]
theorem below_take {fs : List Fc} (h : fs.Pairwise Ahead) (k : ByteArray) : fs.filter (lessK k) = fs.take (cntF fs k) := filter_front _ _ (cnt_pos fs h k)
theorem cnt_mono {fs : List Fc} {lo hi : ByteArray} (hlh : Op.bytesLess lo.toList hi.toList = true) : cntF fs lo ≤ cntF fs hi := by
  unfold cntF
  induction fs with
  | nil => exact Nat.le_refl _
  | cons a l ih =>
    by_cases ha : lessK lo a = true
    · have hb : lessK hi a = true := less_trans _ _ _ ha hlh
      rw [List.filter_cons_of_pos ha, List.filter_cons_of_pos hb, List.length_cons, List.length_cons]
      omega
    · rw [List.filter_cons_of_neg ha]
      have h9 : (l.filter (lessK hi)).length ≤ ((a :: l).filter (lessK hi)).length := by
        by_cases hb : lessK hi a = true
        · rw [List.filter_cons_of_pos hb, List.length_cons]; omega
        · rw [List.filter_cons_of_neg hb]; exact Nat.le_refl _
      omega
/-- what is below lo, and the stretch from lo to hi: what is below hi -/
theorem cut_join {fs : List Fc} (h : fs.Pairwise Ahead) {lo hi : ByteArray} (hlh : Op.bytesLess lo.toList hi.toList = true) : fs.filter (lessK lo) ++ rangeF lo hi fs = fs.filter (lessK hi) := by
  rw [range_head h, below_take h, below_take h, Nat.max_eq_right (cnt_mono hlh)]
  have h1 : fs.take (cntF fs lo) = (fs.take (cntF fs hi)).take (cntF fs lo) := by rw [List.take_take, Nat.min_eq_left (cnt_mono hlh)]
  rw [h1, List.take_append_drop]
/-- nothing is below the empty key -/
theorem below_nil (fs : List Fc) : fs.filter (lessK ⟨#[]⟩) = [] := by
  rw [List.filter_eq_nil_iff]
  intro f _
  unfold lessK
  cases hf : f.1.toList with
  | nil => simp [Op.bytesLess]
  | cons a l => simp [Op.bytesLess]
/-- what is below lo, and what is not: all -/
theorem all_join {fs : List Fc} (h : fs.Pairwise Ahead) (lo : ByteArray) : fs.filter (lessK lo) ++ fs.filter (fun f => !lessK lo f) = fs := by
  rw [below_take h]
  have : fs.filter (fun f => !lessK lo f) = fs.drop (cntF fs lo) := by
    have h1 : fs = fs.take (cntF fs lo) ++ fs.drop (cntF fs lo) := (List.take_append_drop _ _).symm
    have h2 : (fs.take (cntF fs lo)).filter (fun f => !lessK lo f) = [] := by
      rw [List.filter_eq_nil_iff]
      intro f hf
      rw [← below_take h] at hf
      simp [(List.mem_filter.1 hf).2]
    have h3 : (fs.drop (cntF fs lo)).filter (fun f => !lessK lo f) = fs.drop (cntF fs lo) := by
      rw [List.filter_eq_self]
      intro f hf
      obtain ⟨j, hj⟩ := List.getElem?_of_mem hf
      rw [List.getElem?_drop] at hj
      have := cnt_pos fs h lo _ _ hj
      have h5 : ¬ lessK lo f = true := fun q => by have := this.1 q; omega
      simpa using h5
    conv => lhs; rw [h1]
    rw [List.filter_append, h2, h3, List.nil_append]
  rw [this, List.take_append_drop]
end Go.Proofs.YtghcfmkmndldoaaDoor

/-
  FactRanges, plain: the stretch of one key (key to key and a zero byte).
-/
namespace Go.Proofs.YtghcfmkmndldoaaDoor
open Go.RowKit Go.Sort Go.Lib

theorem less_self0 : ∀ k : List UInt8, Op.bytesLess k (k ++ [0]) = true
  | [] => rfl
  | a :: k => by
    rw [List.cons_append, Op.bytesLess, less_self0 k]
    simp
theorem less_snoc0 : ∀ x k : List UInt8, Op.bytesLess x (k ++ [0]) = true → Op.bytesLess k x = false
  | [], k, _ => by cases k <;> rfl
  | a :: x, [], h => by
    simp only [List.nil_append, Op.bytesLess, Bool.or_eq_true, decide_eq_true_eq, Bool.and_eq_true, beq_iff_eq] at h
    rcases h with h | ⟨_, h⟩
    · have := UInt8.lt_iff_toNat_lt.1 h
      simp at this
    · cases x <;> simp [Op.bytesLess] at h
  | a :: x, b :: k, h => by
    simp only [List.cons_append, Op.bytesLess, Bool.or_eq_true, decide_eq_true_eq, Bool.and_eq_true, beq_iff_eq] at h
    rcases h with h | ⟨rfl, h⟩
    · have h1 := UInt8.lt_iff_toNat_lt.1 h
      simp only [Op.bytesLess, Bool.or_eq_false_iff, decide_eq_false_iff_not, Bool.and_eq_false_iff, beq_eq_false_iff_ne]
      refine ⟨fun q => ?_, .inl fun q => ?_⟩
      · have := UInt8.lt_iff_toNat_lt.1 q; omega
      · subst q; omega
    · have := less_snoc0 x k h
      simp only [Op.bytesLess, this, Bool.and_false, Bool.or_false, decide_eq_false_iff_not]
      intro q
      have := UInt8.lt_iff_toNat_lt.1 q
      omega
/-- in the stretch of one key there is no other -/
theorem own_keys {fs : List Fc} {k k0 : ByteArray} (h0 : k0.toList = k.toList ++ [0]) : ∀ f ∈ rangeF k k0 fs, f.1 = k := fun f hf => by
  obtain ⟨_, h⟩ := List.mem_filter.1 hf
  simp only [Bool.and_eq_true, Bool.not_eq_true', lessK, h0] at h
  have h2 := less_snoc0 _ _ h.2
  rcases less_total f.1.toList k.toList with q | q | q
  · rw [h.1] at q; cases q
  · have e1 := Lib.toList_data f.1
    have e2 := Lib.toList_data k
    rw [e1, e2] at q
    cases hf1 : f.1 with
    | mk d => cases hk : k with
      | mk e =>
        rw [hf1, hk] at q
        exact congrArg ByteArray.mk (Array.toList_inj.1 q)
  · rw [h2] at q; cases q
/-- the first of a key's stretch is what Get finds -/
theorem own_first {fs : List Fc} (h : fs.Pairwise Ahead) {k k0 : ByteArray} (h0 : k0.toList = k.toList ++ [0]) {f : Fc} (hf : f ∈ fs) (hk : f.1 = k) : ∃ u, (rangeF k k0 fs)[0]? = some u ∧ u.1 = k ∧ fs[cntF fs k]? = some u := by
  have hm : f ∈ rangeF k k0 fs := by
    refine List.mem_filter.2 ⟨hf, ?_⟩
    simp only [lessK, hk, h0, less_irrefl, less_self0]
    rfl
  have hlh : Op.bytesLess k.toList k0.toList = true := by rw [h0]; exact less_self0 _
  cases hr : (rangeF k k0 fs)[0]? with
  | none =>
    have := List.getElem?_eq_none_iff.1 hr
    have := List.length_pos_of_mem hm
    omega
  | some u =>
    have hu := own_keys h0 u (List.mem_of_getElem? hr)
    exact ⟨u, rfl, hu, ((range_there h hlh).2 ⟨hr, hu⟩).1⟩
end Go.Proofs.YtghcfmkmndldoaaDoor

/-
  FactRanges: a row that holds facts of the call's own and facts of an argument's.
-/
namespace Go.Proofs.YtghcfmkmndldoaaDoor
open Go.RowKit Go.Sort Go.Lib

/-- a value that the call owns, or one that lay there ahead of it -/
def SM (w wr : World) (V : Value) (x : List UInt8) : Prop := Own wr w.heap.size V x ∨ Vb w w.heap.size V x
/-- THE CALL OWNS v, a slice of facts, whose values are its own or an argument's -/
def RowM (w wr : World) (v : Value) (fs : List Fc) : Prop := RowF wr w.heap.size v fs (SM w wr) ∧ Below w.heap.size w wr
section
variable {w wr w' : World} {B : Nat} {v v' u V : Value} {fs gs : List Fc} {A : Option Addr}
theorem SM.one {x : List UInt8} (h : SM w wr V x) : V.oneCell' = true := h.elim (fun q => (Vb.own q).one) fun q => q.one
theorem RowM.start (hb : Below w.heap.size w wr) : RowM w wr (.slice none 0 0) [] := ⟨RowF.nil _ _ _, hb⟩
theorem RowM.below (h : RowM w wr v fs) (hb : Below wr.heap.size wr w') : RowM w w' v fs :=
  ⟨(RowF.below h.1 hb).mono fun _ _ q => q.elim (fun o => .inl (o.below hb)) .inr, h.2.trans (hb.mono h.2.size)⟩
theorem RowM.shape (h : RowM w wr v fs) : ∃ A c, v = .slice A fs.length c ∧ fs.length ≤ c ∧ (A = none → c = 0) := RowF.shape h.1
theorem RowM.rd (h : RowM w wr v fs) : ∃ A c, v = .slice A fs.length c ∧ fs.length ≤ c ∧ (A = none → c = 0) ∧ RF wr wr.heap.size A fs ∧ ∀ b o, A = some ⟨b, o, none⟩ → w.heap.size ≤ b :=
  RowF.rd h.1 fun V x q => q.elim Vb.own fun q => (q.below h.2).wide h.2.size
/-- append(v, u...), u a row of the call's own -/
theorem app_rowM {ops : Array Oper} {rest : List Oper} {o : Oper} {a : Act} {Q : Exit → Act → World → Prop} (hgd : o.guard = none) (s y : Operand)
    (ho : o.op = .call { callee := .builtin .append, args := #[s, y], argTypes := #[42, 42] })
    (hs : a.eval s = v) (hrow : RowM w wr v fs) (hy : a.eval y = u) (hq : RowO wr w.heap.size u gs) (hlen : fs.length + gs.length ≤ 1099511627776)
    (h : ∀ v' w', RowM w w' v' (fs ++ gs) → wpList Tryd.prog ops Q rest (a.put o.dst v') w') :
    wpList Tryd.prog ops Q (o :: rest) a wr := by
  obtain ⟨⟨ps, e1, h1, h2⟩, hbel⟩ := hrow
  obtain ⟨qs, e2, h3, h4⟩ := hq
  have l1 : fs.length = ps.length := by rw [← e1, List.length_map]
  have l2 : gs.length = qs.length := by rw [← e2, List.length_map]
  obtain ⟨A, c, rfl, _, _, _⟩ := ownF_shape h3
  have hrp : RP wr wr.heap.size A qs := by
    rcases h3.2 with ⟨hu, h0⟩ | ⟨g, cap, cur, hu, hb, hg, hn, _⟩
    · have : qs = [] := List.eq_nil_of_length_eq_zero h0
      subst this
      intro k p hk
      simp at hk
    · cases hu
      intro k p hk
      obtain ⟨c0, c1, c2⟩ := cellsF_get qs k p hk
      have q0 := World.ownsRow.cells (e := 40) (size := 3) h3 rfl (k * 3) _ c0
      have q1 := World.ownsRow.cells (e := 40) (size := 3) h3 rfl (k * 3 + 1) _ c1
      have q2 := World.ownsRow.cells (e := 40) (size := 3) h3 rfl (k * 3 + 2) _ c2
      rw [add_flat] at q0 q1 q2
      exact ⟨g, 0, rfl, (Array.getElem?_eq_some_iff.1 hg).1, q0, q1, q2⟩
  refine app_facts hgd s y ho hs h1 qs.length c hy rfl hrp (fun p hp => (Vb.own (h4 p hp).1).one) (by omega) hbel.size fun v' w' r1 r2 r3 => h v' w' ⟨⟨ps ++ qs, by rw [List.map_append, e1, e2], r1, fun p hp => ?_⟩, hbel.trans ((Below.refl _ _).grown r2 hbel.size fun k hk => (World.ownsRow.lt h1 k hk).1)⟩
  have hmv : ∀ {V2 : Value} {x2 : List UInt8}, Own wr w.heap.size V2 x2 → Own w' w.heap.size V2 x2 := fun hO => hO.move fun g hg => r2.block g (hO.lt g hg).2 (fun e => hO.notRow h1 g hg e.symm)
  rcases List.mem_append.1 hp with hp | hp
  · exact ⟨(h2 p hp).1.elim (fun q => .inl (hmv q)) .inr, (h2 p hp).2⟩
  · exact ⟨.inl (hmv (h4 p hp).1), (h4 p hp).2⟩
/-- append(v, one fact of an argument's) -/
theorem app_rowM1 {ops : Array Oper} {rest : List Oper} {o : Oper} {a : Act} {Q : Exit → Act → World → Prop} (hgd : o.guard = none) (s x : Operand)
    (ho : o.op = .call { callee := .builtin .append, args := #[s, x], argTypes := #[42, 42] })
    (f : Fc) (hs : a.eval s = v) (hrow : RowM w wr v fs) (hq : RP wr B A [(f, V)]) (hS : Vb w w.heap.size V f.2.2) (hf : f.2.1 < two64) (c : Nat) (hx : a.eval x = .slice A 1 c) (hlen : fs.length + 1 ≤ 1099511627776)
    (h : ∀ v' w', RowM w w' v' (fs ++ [f]) → wpList Tryd.prog ops Q rest (a.put o.dst v') w') :
    wpList Tryd.prog ops Q (o :: rest) a wr := by
  obtain ⟨⟨ps, e1, h1, h2⟩, hbel⟩ := hrow
  have l1 : fs.length = ps.length := by rw [← e1, List.length_map]
  refine app_facts hgd s x ho hs h1 1 c hx rfl hq (fun p hp => by rw [List.mem_singleton.1 hp]; exact hS.one) (by simp; omega) hbel.size fun v' w' r1 r2 r3 => h v' w' ⟨⟨ps ++ [(f, V)], by rw [List.map_append, e1]; rfl, r1, fun p hp => ?_⟩, hbel.trans ((Below.refl _ _).grown r2 hbel.size fun k hk => (World.ownsRow.lt h1 k hk).1)⟩
  have hmv : ∀ {V2 : Value} {x2 : List UInt8}, Own wr w.heap.size V2 x2 → Own w' w.heap.size V2 x2 := fun hO => hO.move fun g hg => r2.block g (hO.lt g hg).2 (fun e => hO.notRow h1 g hg e.symm)
  rcases List.mem_append.1 hp with hp | hp
  · exact ⟨(h2 p hp).1.elim (fun q => .inl (hmv q)) .inr, (h2 p hp).2⟩
  · have : p = (f, V) := by simpa using hp
    subst this
    exact ⟨.inr hS, hf⟩
end
end Go.Proofs.YtghcfmkmndldoaaDoor
