/-
  The second saying's writers of numbers and byte strings: nothing but the slice's own block is turned.
-/
import Derived.Test.YtghcfmkmndldoaaDoorKBase
import Derived.Test.YtghcfmkmndldoaaDoorFaBy
import Derived.Test.YtghcfmkmndldoaaDoorKFa9
import Derived.Test.YtghcfmkmndldoaaDoorOwnV
import Derived.Test.YtghcfmkmndldoaaDoorKFa3
namespace Go.Proofs.YtghcfmkmndldoaaDoor
open Go.RowKit

/-- from v to v': only v's own block is turned; v' lies there, or in a new block -/
structure Grow (w w' : World) (v v' : Value) : Prop where
  kept : Kept (fun b => v.ownBlock ≠ some b) w w'
  own : v'.ownBlock = v.ownBlock ∨ ∃ g, v'.ownBlock = some g ∧ w.heap.size ≤ g
section
variable {w w' w'' : World} {v v' v'' u : Value} {base B : Nat} {l T X r : List UInt8}
theorem Grow.refl (w : World) (v : Value) : Grow w w v v := ⟨Kept.refl _ _, .inl rfl⟩
theorem Grow.trans (h : Grow w w' v v') (k : Grow w' w'' v' v'') : Grow w w'' v v'' := by
  have hlt : ∀ b, b < w.heap.size → v.ownBlock ≠ some b → v'.ownBlock ≠ some b := fun b hb hv e => by
    rcases h.own with q | ⟨g, q, hg⟩
    · exact hv (q ▸ e)
    · rw [q] at e; cases e; omega
  refine ⟨⟨k.kept.os.trans h.kept.os, k.kept.tape.trans h.kept.tape, k.kept.output.trans h.kept.output, Nat.le_trans h.kept.size k.kept.size, fun b hb hv => (k.kept.block b (Nat.lt_of_lt_of_le hb h.kept.size) (hlt b hb hv)).trans (h.kept.block b hb hv)⟩, ?_⟩
  rcases k.own with q | ⟨g, q, hg⟩
  · rcases h.own with q2 | ⟨g, q2, hg⟩
    · exact .inl (q.trans q2)
    · exact .inr ⟨g, q.trans q2, hg⟩
  · exact .inr ⟨g, q, Nat.le_trans h.kept.size hg⟩
theorem Grow.alloc (o : Obj) (v : Value) (h : Grow (w.alloc o) w' v v') : Grow w w' v v' :=
  Grow.trans ⟨(Kept.refl _ w).alloc o, .inl rfl⟩ h
theorem Grow.of (hg : w.grownBy w' v.ownBlock) (hv : v'.ownBlock = v.ownBlock ∨ v'.ownBlock = some w.heap.size) : Grow w w' v v' :=
  ⟨(Kept.refl _ w).grown hg fun g e => by rw [e]; simp, hv.imp id fun e => ⟨_, e, Nat.le_refl _⟩⟩
theorem Grow.below (h : Grow w w' v v') (ho : Own w base v l) (hb : base ≤ w.heap.size) : Below base w w' :=
  h.kept.to_below (fun b hlt e => by have := (ho.lt b e).1; omega) hb
theorem Grow.cur (h : Grow w w' v v') (hv : v.ownBlock = none) : Below w.heap.size w w' :=
  h.kept.to_below (fun b _ e => by rw [hv] at e; cases e) (Nat.le_refl _)
/-- another slice of the call's own stays, and stays apart -/
theorem Grow.other (h : Grow w w' v v') (ho : Own w B u T) (ha : ∀ g, u.ownBlock = some g → v.ownBlock ≠ some g) : Own w' B u T ∧ ∀ g, u.ownBlock = some g → v'.ownBlock ≠ some g :=
  ⟨ho.move fun g hg => h.kept.block g (ho.lt g hg).2 (ha g hg), fun g hg e => by
    rcases h.own with q | ⟨g', q, hg'⟩
    · exact ha g hg (q ▸ e)
    · rw [q] at e; cases e; have := (ho.lt _ hg).2; omega⟩
end

set_option maxRecDepth 20000 in
set_option maxHeartbeats 1000000 in
theorem refNumG_any (base : Nat) (b : Value) (l : List UInt8) (v : Nat) (w : World) (hv : v < two64) (hown : Own w base b l) (hbase : base ≤ w.heap.size) (hl : l.length ≤ 1099511627776) :
    Calls Tryd.prog 62 #[b, .int .u64 (v : Int)] w fun e w' => ∃ b', e = .returned b' ∧ Own w' base b' (l ++ numBytes v) ∧ Grow w w' b b' := by
  go_enter Tryd.func62, Tryd.ntmps62
  go_wp2
  go_loopw [0, 1] (fun b2 n wr => ∃ (k : Nat) (done : List UInt8), n = .int .u64 (k : Int) ∧ k < two64 ∧ k ≤ v ∧ done.length + (numBytes k).length ≤ l.length + 10 ∧ Own wr base b2 done ∧ Hid (Grow w wr b b2) ∧ Hid (l ++ numBytes v = done ++ numBytes k)) (fun _ n _ => (intOf n).toNat)
  case atStart => exact ⟨v, l, rfl, hv, Nat.le_refl _, by have := numBytes_ten hv; omega, hown, Grow.refl _ _, rfl⟩
  case round =>
    obtain ⟨k, done, rfl, hk, hkv, hlen, hown1, hb1, heq⟩ := hrel
    have Hk := Lib.hid hk
    have Hl := Lib.hid hlen
    have Hv := Lib.hid hkv
    have Ho := Lib.hid hown1
    have Hll := Lib.hid hl
    clear hk hlen hkv hown1 hown hv hl
    have Hr : Hid (done.length + ([UInt8.ofNat k] : List UInt8).length ≤ 140737488355327) := by
      have := Hl.out
      have h1 : 1 ≤ (numBytes k).length := numBytes_pos k
      have := Hll.out
      simp only [List.length_cons, List.length_nil]
      show _ ≤ _
      omega
    have Hs : Hid (∀ o, base ≤ (wr.alloc o).heap.size) := fun o => by
      have := hb1.out.kept.size
      simp
      omega
    by_cases h128 : 128 ≤ k
    · have Hb : Hid (#[Value.int .u8 (bits .or .u8 ((k : Int) % 256) 128)].toList = bvs [UInt8.ofNat (k % 128 + 128)]) := by
        have := byte_high k
        rw [IntKind.wrap_u8'] at this
        show _ = _
        rw [this]
        rfl
      go_wp2_with (at_builtin; refine app_bytesG rfl (.tmp 7) (.tmp 11) rfl base _ done rfl (Own.alloc Ho.out _) _ _ 1 1 [UInt8.ofNat (k % 128 + 128)] rfl rfl (RB.new _ _ _ _ Hb.out) Hr.out (Hs.out _) ?_; intro v1 w1 hown2 _ hg1 hv1; have Hg1 := Lib.hid ((Grow.of hg1 hv1).alloc); clear hg1 hv1)
      have hd : k / 128 < k := by omega
      have he : numBytes k = UInt8.ofNat (k % 128 + 128) :: numBytes (k / 128) := numBytes_ge (by omega)
      have h1 := Hk.out
      have h2 := Hl.out
      have h3 := Hv.out
      rw [he] at h2
      exact ⟨⟨k / 128, _, by go_num, by omega, by omega, by simp only [List.length_append, List.length_cons, List.length_nil] at h2 ⊢; omega, hown2, hb1.out.trans Hg1.out, by have := heq.out; rw [he] at this; show _ = _; rw [this]; simp⟩, by simp [intOf]; omega⟩
    · have Hb : Hid (#[Value.int .u8 (k : Int)].toList = bvs [UInt8.ofNat k]) := by
        have : (k : Int) = ((UInt8.ofNat k).toNat : Int) := by rw [UInt8.toNat_ofNat']; omega
        show _ = _
        rw [this]
        rfl
      go_wp2_with (at_builtin; refine app_bytesG rfl (.tmp 15) (.tmp 18) rfl base _ done rfl (Own.alloc Ho.out _) _ _ 1 1 [UInt8.ofNat k] rfl rfl (RB.new _ _ _ _ Hb.out) Hr.out (Hs.out _) ?_; intro v1 w1 hown2 _ hg1 hv1; have Hg1 := Lib.hid ((Grow.of hg1 hv1).alloc); clear hg1 hv1)
      go_ret
      exact ⟨v1, rfl, by rw [heq.out, numBytes_lt (by omega)]; exact hown2, hb1.out.trans Hg1.out⟩

set_option maxRecDepth 20000 in
set_option maxHeartbeats 1000000 in
theorem refBytesG_any (base : Nat) (b : Value) (l : List UInt8) (A : Option Addr) (c : Nat) (x : List UInt8) (w : World) (hown : Own w base b l) (hbase : base ≤ w.heap.size) (hr2 : ∀ w' b', Grow w w' b b' → RB w' w'.heap.size A x) (hl : l.length ≤ 1048576) (hx : x.length ≤ 1048576) :
    Calls Tryd.prog 61 #[b, .slice A x.length c] w fun e w' => ∃ b', e = .returned b' ∧ Own w' base b' (l ++ (numBytes x.length ++ x)) ∧ Grow w w' b b' := by
  have hv : x.length < two64 := by rw [two64_eq]; omega
  have hwx : IntKind.u64.wrap (x.length : Int) = (x.length : Int) := by rw [IntKind.wrap_u64]; omega
  have hten := numBytes_ten hv
  have Hnum := Lib.hid (refNumG_any base b l x.length w hv hown hbase (by omega))
  have Hr := Lib.hid hr2
  have Hlen : Hid ((l ++ numBytes x.length).length + x.length ≤ 140737488355327) := by show _ ≤ _; rw [List.length_append]; omega
  have Hb := Lib.hid hbase
  clear hown hr2 hv hten hbase
  go_enter Tryd.func61, Tryd.ntmps61
  go_wp2_with fail
  refine Hnum.out.mono ?_
  rintro e w1 ⟨b1, rfl, hown1, hbel1⟩
  have Hsz : Hid (base ≤ w1.heap.size) := Nat.le_trans Hb.out hbel1.kept.size
  have Hr1 := Lib.hid (Hr.out _ _ hbel1)
  have Hbel1 := Lib.hid hbel1
  have Hown1 := Lib.hid hown1
  clear hbel1 hown1
  go_wp2_with (at_builtin; refine app_bytesG rfl (.tmp 9) (.tmp 10) rfl base _ _ rfl Hown1.out _ A x.length c x rfl rfl Hr1.out Hlen.out Hsz.out ?_; intro v2 w2 hown2 _ hg2 hv2; have Hg2 := Lib.hid (Grow.of hg2 hv2); clear hg2 hv2)
  go_ret
  exact ⟨_, rfl, by rw [← List.append_assoc]; exact hown2, Hbel1.out.trans Hg2.out⟩
end Go.Proofs.YtghcfmkmndldoaaDoor

/-
  Build.
-/
namespace Go.Proofs.YtghcfmkmndldoaaDoor
open Go.RowKit Go.Sort Go.Lib

/-- where the loop of Build stands -/
structure BuSt (w wr : World) (block : Nat) (fs rest : List Fc) (A : Option Addr) (c : Nat) (u v : Value) (T X : List UInt8) : Prop where
  rf : RF w w.heap.size A rest
  cap : rest.length ≤ c
  duo : Duo wr w.heap.size u v T X
  bel : Below w.heap.size w wr
  fit : Fit rest
  len : rest.length ≤ fs.length
  one : T ++ (bodyF block rest).1 = (bodyF block fs).1
  two : X ++ (bodyF block rest).2 = (bodyF block fs).2
theorem Fit.drop {fs : List Fc} (h : Fit fs) (n : Nat) : Fit (fs.drop n) := ⟨fun f hf => h.1 f (List.mem_of_mem_drop hf), by have := blkF_split fs n; have := h.2; omega⟩
section
set_option maxRecDepth 100000
set_option maxHeartbeats 4000000
theorem build_any (A : Option Addr) (c : Nat) (fs : List Fc) (block : Int) (w : World) (ht : Tab w) (hl : fs.length ≤ 1099511627776) (hc : fs.length ≤ c) (hf : Fit fs) (hr : RF w w.heap.size A fs) :
    Calls Tryd.prog 28 #[.slice A fs.length c, .int .i64 block] w fun e w' => ∃ v, e = .returned (.tuple #[v, .int .i64 (buildE fs block : Nat)]) ∧ Own w' w.heap.size v (buildB fs block) ∧ Below w.heap.size w w' := by
  have Hr := Lib.hid hr
  have Hf := Lib.hid hf
  have Ht := Lib.hid ht
  have hl' : ((fs.length : Nat) : Int) ≤ 1099511627776 := by omega
  have HE : Hid (buildE fs block = if block < 1 ∨ 1048576 < block then 1 else if rightF fs = false then 25 else if 1048576 < fs.length ∨ anyL fs = true then 3 else 0) := rfl
  have HB : Hid (buildB fs block = if buildE fs block = 0 then tabF block.toNat fs else []) := rfl
  have HR := Lib.hid (right_any A c fs w hl hr)
  have HC := Lib.hid (fun W (hW : Gr w W) => containsF_any A c fs W hl ((hr.gr hW (Nat.le_refl _)).wide hW.below.size))
  obtain ⟨n, hn⟩ : ∃ n, n = fs.length := ⟨_, rfl⟩
  rw [← hn] at hl' HE HR HC hc ⊢
  have Hn := Lib.hid hn
  obtain ⟨eb, heb⟩ : ∃ eb, eb = buildE fs block := ⟨_, rfl⟩
  rw [← heb] at HE HB ⊢
  obtain ⟨bb, hbb⟩ : ∃ bb, bb = buildB fs block := ⟨_, rfl⟩
  rw [← hbb] at HB ⊢
  have Hcap := Lib.hid hc
  clear hr hl hn hf ht heb hbb hc
  by_cases hb1 : block < 1
  · obtain rfl : eb = 1 := by rw [HE.out, if_pos (.inl hb1)]
    have hb : bb = [] := HB.out
    subst hb
    go_enter Tryd.func28, Tryd.ntmps28
    go_wp2_with fail
    exact bodyPost_ret (v := .tuple #[.slice none 0 0, .int .i64 1]) (by simp [results, Tryd.results28, go_sem]) rfl ⟨_, rfl, Own.nil _ _, Below.refl _ _⟩
  by_cases hb2 : 1048576 < block
  · obtain rfl : eb = 1 := by rw [HE.out, if_pos (.inr hb2)]
    have hb : bb = [] := HB.out
    subst hb
    have hb2' : block > 1048576 := hb2
    go_enter Tryd.func28, Tryd.ntmps28
    go_wp2_with fail
    exact bodyPost_ret (v := .tuple #[.slice none 0 0, .int .i64 1]) (by simp [results, Tryd.results28, go_sem]) rfl ⟨_, rfl, Own.nil _ _, Below.refl _ _⟩
  have hb2' : ¬ block > 1048576 := hb2
  cases hri : rightF fs with
  | false =>
    obtain rfl : eb = 25 := by rw [HE.out, if_neg (by omega), if_pos hri]
    have hb : bb = [] := HB.out
    subst hb
    rw [hri] at HR
    go_enter Tryd.func28, Tryd.ntmps28
    go_wp2_with fail
    refine HR.out.mono ?_
    rintro e w1 ⟨rfl, hg1⟩
    have H1 := Lib.hid hg1.below
    clear hg1
    go_wp2_with fail
    exact bodyPost_ret (v := .tuple #[.slice none 0 0, .int .i64 25]) (by simp [results, Tryd.results28, go_sem]) rfl ⟨_, rfl, Own.nil _ _, H1.out⟩
  | true =>
    rw [hri] at HR
    have HE2 : Hid (eb = if 1048576 < n ∨ anyL fs = true then 3 else 0) := by show _ = _; rw [HE.out, if_neg (by omega), if_neg (by simp [hri])]
    clear HE hri
    by_cases hlen : 1048576 < n
    · obtain rfl : eb = 3 := by rw [HE2.out, if_pos (.inl hlen)]
      have hb : bb = [] := HB.out
      subst hb
      have hlen' : (n : Int) > 1048576 := by omega
      go_enter Tryd.func28, Tryd.ntmps28
      go_wp2_with fail
      refine HR.out.mono ?_
      rintro e w1 ⟨rfl, hg1⟩
      have H1 := Lib.hid hg1.below
      clear hg1
      go_wp2_with fail
      exact bodyPost_ret (v := .tuple #[.slice none 0 0, .int .i64 3]) (by simp [results, Tryd.results28, go_sem]) rfl ⟨_, rfl, Own.nil _ _, H1.out⟩
    have hlen' : ¬ (n : Int) > 1048576 := by omega
    cases han : anyL fs with
    | true =>
      obtain rfl : eb = 3 := by rw [HE2.out, if_pos (.inr han)]
      have hb : bb = [] := HB.out
      subst hb
      rw [han] at HC
      go_enter Tryd.func28, Tryd.ntmps28
      go_wp2_with fail
      refine HR.out.mono ?_
      rintro e w1 ⟨rfl, hg1⟩
      have H1 := Lib.hid hg1
      clear hg1
      go_wp2_with fail
      refine (HC.out w1 H1.out).mono ?_
      rintro e w2 ⟨rfl, hg2⟩
      have H2 := Lib.hid (H1.out.trans hg2).below
      clear hg2
      go_wp2_with fail
      exact bodyPost_ret (v := .tuple #[.slice none 0 0, .int .i64 3]) (by simp [results, Tryd.results28, go_sem]) rfl ⟨_, rfl, Own.nil _ _, H2.out⟩
    | false =>
      obtain rfl : eb = 0 := by rw [HE2.out, if_neg (by simp [han]; omega)]
      obtain ⟨bl, rfl⟩ : ∃ bl : Nat, block = (bl : Int) := ⟨block.toNat, by omega⟩
      have HB2 : Hid (bb = tabF bl fs) := by show _ = _; rw [HB.out, if_pos rfl]; rfl
      have Hbl : Hid (bl ≤ 1048576) := by show _ ≤ _; omega
      rw [han] at HC
      clear HB HE2
      go_enter Tryd.func28, Tryd.ntmps28
      go_wp2_with fail
      refine HR.out.mono ?_
      rintro e w1 ⟨rfl, hg1⟩
      have H1 := Lib.hid hg1
      clear hg1
      go_wp2_with fail
      refine (HC.out w1 H1.out).mono ?_
      rintro e w2 ⟨rfl, hg2⟩
      have H2 : Hid (BuSt w w2 bl fs fs A c (.slice none 0 0) (.slice none 0 0) [] []) := ⟨Hr.out, by rw [← Hn.out]; exact Hcap.out, ⟨Own.nil _ _, Own.nil _ _, fun g h => by cases h⟩, (H1.out.trans hg2).below, Hf.out, Nat.le_refl _, rfl, rfl⟩
      clear hg2 HR HC H1
      go_wp2_with fail
      go_loopw [6, 7, 8] (fun uv vv rv wr => ∃ rest A' c' T X, rv = .slice A' rest.length c' ∧ Hid (BuSt w wr bl fs rest A' c' uv vv T X)) (fun _ _ rv _ => lenS rv)
      case atStart => exact ⟨fs, A, c, [], [], by rw [← Hn.out], H2.out⟩
      case round =>
        obtain ⟨rest, A', c', T, X, rfl, hst⟩ := hrel
        obtain ⟨Au, cu, rfl, hcu, hru, _⟩ := hst.out.duo.fst.rb
        obtain ⟨Av, cv, rfl, hcv, hrv, _⟩ := hst.out.duo.snd.rb
        have Hlim : Hid (T.length ≤ 8796093022208 ∧ X.length ≤ 43980465111040 ∧ rest.length ≤ 1099511627776) := by
          have h1 := (bodyF_len bl fs.length fs (Nat.le_refl _) (by have := Hf.out.2; omega))
          rw [← hst.out.one, ← hst.out.two, List.length_append, List.length_append] at h1
          have h2 := Hn.out
          have h3 := hst.out.len
          have h4 := Hf.out.2
          exact ⟨by omega, by omega, by omega⟩
        clear hcu hru hcv hrv
        rcases rest with _ | ⟨r, rs⟩
        · have Hone : Hid (T = (bodyF bl fs).1 ∧ X = (bodyF bl fs).2) := by
            have h1 := hst.out.one
            have h2 := hst.out.two
            rw [bodyF_nil, List.append_nil] at h1 h2
            exact ⟨h1, h2⟩
          have Hxl : Hid (4 + X.length < 4294967296 ∧ n < 4294967296) := by
            have h1 := (bodyF_len bl fs.length fs (Nat.le_refl _) (by have := Hf.out.2; omega))
            rw [← Hone.out.2] at h1
            have h2 := Hn.out
            have h4 := Hf.out.2
            exact ⟨by omega, by omega⟩
          have HS : Hid (Calls Tryd.prog 58 #[.slice Av X.length cv] wr fun e w' => ∃ b, e = .returned b ∧ Own w' w.heap.size b (sumdF X) ∧ Below wr.heap.size wr w') := by
            have ho := hst.out.duo.snd
            obtain ⟨A8, c8, e8, hc8, hr8, _⟩ := ho.rb
            cases e8
            refine Calls.mono (summed_any _ _ X wr (Ht.out.below hst.out.bel Ht.out.pos) hr8 (by have := Hxl.out; omega) hc8) ?_
            rintro e w' ⟨b, rfl, h1, h2⟩
            exact ⟨b, rfl, h1.wide hst.out.bel.size, h2⟩
          have Htab : Hid (tabF bl fs = T ++ sumdF X ++ footF (4 + X.length) n) := by
            show _ = _
            unfold tabF
            rw [← Hone.out.1, ← Hone.out.2, sumdF_length, ← Hn.out, List.append_assoc]
          have Hlp : Hid ((sumdF X).length = 4 + X.length) := sumdF_length X
          have Hst := hst
          generalize sumdF X = sx at *
          clear hst
          go_upto_region 14 with fail
          go_wp2_with fail
          refine HS.out.mono ?_
          rintro e w4 ⟨b4, rfl, ho4, hb4⟩
          obtain ⟨A4, c4, e4, hc4, hr4, _⟩ := ho4.rb
          rw [Hlp.out] at e4
          subst e4
          have H4 : Hid (Below w.heap.size w w4 ∧ Own w4 w.heap.size (.slice Au T.length cu) T ∧ RB w4 w4.heap.size A4 sx) := ⟨Hst.out.bel.trans (hb4.mono Hst.out.bel.size), Hst.out.duo.fst.below hb4, hr4⟩
          have Hft := Lib.hid (fun W (hW : Below w.heap.size w W) => pfoot_any (4 + X.length) n W (Ht.out.below (B := w.heap.size) hW Ht.out.pos) Hxl.out.1 Hxl.out.2)
          have Hfl : Hid ((footF (4 + X.length) n).length = 12) := by show _ = _; unfold footF; rw [List.length_append, List.length_append, leBytes_length, leBytes_length, leBytes_length]
          generalize footF (4 + X.length) n = fo at *
          have H4' : Hid (∀ w5, Below w4.heap.size w4 w5 → True) := fun _ _ => trivial
          clear ho4 hb4 hc4 hr4 HS
          go_upto_region 16 with (at_builtin; go_must (refine app_bytesG rfl (.tmp 56) (.tmp 57) rfl w.heap.size _ T rfl H4.out.2.1 _ A4 (4 + X.length) c4 sx rfl Hlp.out.symm H4.out.2.2 (by have := Hlim.out; have := Hlp.out; omega) H4.out.1.size ?_); intro v5 w5 ho5 hb5 _ _; obtain ⟨A5, c5, e5, _⟩ := ho5.rb; have H5 : Hid (Below w.heap.size w w5 ∧ Own w5 w.heap.size v5 (T ++ sx)) := ⟨H4.out.1.trans hb5, ho5⟩; rw [List.length_append, Hlp.out] at e5; subst e5; clear ho5 hb5)
          go_wp2_with fail
          refine (Hft.out w5 H5.out.1).mono ?_
          rintro e w6 ⟨b6, rfl, ho6, hb6⟩
          obtain ⟨A6, c6, e6, _, hr6, _⟩ := ho6.rb
          rw [Hfl.out] at e6
          subst e6
          have H6 : Hid (Below w.heap.size w w6 ∧ Own w6 w.heap.size (.slice A5 (T.length + (4 + X.length)) c5) (T ++ sx) ∧ RB w6 w6.heap.size A6 fo) := ⟨H5.out.1.trans (hb6.mono H5.out.1.size), H5.out.2.below hb6, hr6⟩
          clear ho6 hb6 hr6 Hft
          go_wp2_with (at_builtin; go_must (refine app_bytesG rfl (.tmp 59) (.tmp 64) rfl w.heap.size _ (T ++ sx) rfl H6.out.2.1 _ A6 12 c6 fo rfl Hfl.out.symm H6.out.2.2 (by have := Hlim.out; have := Hlp.out; have := Hfl.out; rw [List.length_append]; omega) H6.out.1.size ?_); intro v7 w7 ho7 hb7 _ _; have H7 : Hid (Below w.heap.size w w7 ∧ Own w7 w.heap.size v7 bb) := ⟨H6.out.1.trans hb7, by rw [HB2.out, Htab.out]; exact ho7⟩; clear ho7 hb7)
          exact bodyPost_ret (v := .tuple #[v7, .int .i64 0]) (by simp [results, Tryd.results28, go_sem]) rfl ⟨_, rfl, H7.out.2, H7.out.1⟩
        · have HFr : Hid (Calls Tryd.prog 57 #[.slice A' (r :: rs).length c', .int .i64 (bl : Int)] wr fun e w' => ∃ v, e = .returned (.tuple #[v, .int .i64 (frontN bl 0 (r :: rs) : Nat)]) ∧ Own w' w.heap.size v (blkF ((r :: rs).take (frontN bl 0 (r :: rs)))) ∧ Below wr.heap.size wr w') := by
            refine Calls.mono (front_any A' c' bl (r :: rs) wr Hlim.out.2.2 hst.out.fit ((hst.out.rf.below hst.out.bel).wide hst.out.bel.size) (by have := Hbl.out; omega)) ?_
            rintro e w' ⟨v, rfl, ho, hb⟩
            exact ⟨v, rfl, ho.wide hst.out.bel.size, hb⟩
          have hone := hst.out.one
          have htwo := hst.out.two
          rw [bodyF_cons] at hone htwo
          have hm1 := frontN_pos bl 0 (l := r :: rs) (by simp)
          have hm2 := frontN_le bl (r :: rs) 0
          have hpl := blkF_take_le (r :: rs) (frontN bl 0 (r :: rs))
          obtain ⟨nr, hnr⟩ : ∃ nr, nr = (r :: rs).length := ⟨_, rfl⟩
          rw [← hnr] at HFr hm2 ⊢
          generalize frontN bl 0 (r :: rs) = m at *
          have Hone := Lib.hid hone
          have Htwo := Lib.hid htwo
          generalize blkF ((r :: rs).take m) = p at *
          have hp3 : p.length ≤ 1099511627776 := by have := hst.out.fit.2; omega
          obtain ⟨b1, o1, V1, rfl, hb1, x0, _, _, _, _⟩ := hst.out.rf.first
          have hx0 : ∀ W, Below w.heap.size w W → W.cell? ⟨b1, o1, none⟩ = some (.string r.1) := fun W hW => (hW.cell (p := ⟨b1, o1, none⟩) hb1).trans x0
          obtain ⟨A2, hsl, hA2, _⟩ := cut_run b1 o1 m nr c' hm2 (by rw [hnr]; exact hst.out.cap)
          have Hx0 := Lib.hid hx0
          have Hm : Hid (m ≤ nr ∧ 0 < m ∧ nr = (r :: rs).length ∧ p.length ≤ 1099511627776 ∧ (m < c' → A2 = some ⟨b1, o1 + m * 3, none⟩)) := ⟨hm2, hm1, hnr, hp3, hA2⟩
          have hnr0 : (0 : Int) < (nr : Int) := by omega
          have hkey : r.1.size ≤ 1048576 := (hst.out.fit.1 r List.mem_cons_self).1
          have Hkey := Lib.hid hkey
          have hw4 : IntKind.i64.wrap (4 + (p.length : Int)) = ((4 + p.length : Nat) : Int) := by rw [IntKind.wrap_i64]; omega
          have hw5 : IntKind.i64.wrap (4 + (p.length : Int)) = 4 + (p.length : Int) := by rw [IntKind.wrap_i64]; omega
          have Hst := hst
          clear hst hone htwo hm1 hm2 hpl hnr hp3 hb1 x0 hx0 hA2 hkey
          go_wp2_with fail
          refine HFr.out.mono ?_
          rintro e w3 ⟨b3, rfl, ho3, hb3⟩
          obtain ⟨A3, c3, rfl, hc3, hr3, _⟩ := ho3.rb
          have hbw3 : Below w.heap.size w w3 := Hst.out.bel.trans (hb3.mono Hst.out.bel.size)
          have HS := Lib.hid (summed_any A3 c3 p w3 (Ht.out.below hbw3 Ht.out.pos) hr3 Hm.out.2.2.2.1 hc3)
          have H3 : Hid (Below w.heap.size w w3 ∧ Duo w3 w.heap.size (.slice Au T.length cu) (.slice Av X.length cv) T X) := ⟨hbw3, Hst.out.duo.below hb3⟩
          have Hlp : Hid ((sumdF p).length = 4 + p.length) := sumdF_length p
          generalize sumdF p = sp at *
          clear HFr ho3 hb3 hc3 hr3 hbw3
          go_wp2_with fail
          refine HS.out.mono ?_
          rintro e w4 ⟨b4, rfl, ho4, hb4⟩
          obtain ⟨A4, c4, rfl, hc4, hr4, _⟩ := ho4.rb
          have H4 : Hid (Below w.heap.size w w4 ∧ Duo w4 w.heap.size (.slice Au T.length cu) (.slice Av X.length cv) T X ∧ RB w4 w4.heap.size A4 sp) := ⟨H3.out.1.trans (hb4.mono H3.out.1.size), H3.out.2.below hb4, hr4⟩
          clear ho4 hb4 hc4 hr4 HS H3
          go_upto_region 12 with (at_builtin; go_must (refine app_bytesG rfl (.tmp 37) (.tmp 39) rfl w.heap.size _ T rfl H4.out.2.1.fst _ A4 sp.length c4 sp rfl rfl H4.out.2.2 (by have := Hlim.out; have := Hlp.out; have := Hm.out; omega) H4.out.1.size ?_); intro v5 w5 ho5 hb5 hg5 hv5; have H5 : Hid (Below w.heap.size w w5 ∧ Duo w5 w.heap.size v5 (.slice Av X.length cv) (T ++ sp) X) := ⟨H4.out.1.trans hb5, H4.out.2.1.left ho5 hg5 hv5⟩; obtain ⟨A5, c5, e5, _⟩ := ho5.rb; rw [List.length_append] at e5; subst e5; clear ho5 hb5 hg5 hv5)
          have x0 := Hx0.out w5 H5.out.1
          have HEn := Lib.hid (entry_any r.1 (4 + p.length) w5 Hkey.out (by have := Hm.out; omega))
          have Hel : Hid ((entF r.1 (4 + p.length)).length ≤ 20 + r.1.size) := entF_length _ _ (by rw [two64_eq]; have := Hkey.out; omega) (by rw [two64_eq]; have := Hm.out; omega)
          generalize entF r.1 (4 + p.length) = en at *
          clear H4
          go_wp2_with fail
          refine HEn.out.mono ?_
          rintro e w6 ⟨b6, rfl, ho6, hb6⟩
          obtain ⟨A6, c6, rfl, hc6, hr6, _⟩ := ho6.rb
          have H6 : Hid (Below w.heap.size w w6 ∧ Duo w6 w.heap.size (.slice A5 (T.length + sp.length) c5) (.slice Av X.length cv) (T ++ sp) X ∧ RB w6 w6.heap.size A6 en) := ⟨H5.out.1.trans (hb6.mono H5.out.1.size), H5.out.2.below hb6, hr6⟩
          clear ho6 hb6 hc6 hr6 HEn H5 x0
          go_upto_region 13 with (at_builtin; go_must (refine app_bytesG rfl (.tmp 41) (.tmp 49) rfl w.heap.size _ X rfl H6.out.2.1.snd _ A6 en.length c6 en rfl rfl H6.out.2.2 (by have := Hlim.out; have := Hel.out; have := Hkey.out; omega) H6.out.1.size ?_); intro v7 w7 ho7 hb7 hg7 hv7; have H7 : Hid (Below w.heap.size w w7 ∧ Duo w7 w.heap.size (.slice A5 (T.length + sp.length) c5) v7 (T ++ sp) (X ++ en)) := ⟨H6.out.1.trans hb7, H6.out.2.1.right ho7 hg7 hv7⟩; obtain ⟨A7, c7, e7, _⟩ := ho7.rb; rw [List.length_append] at e7; subst e7; clear ho7 hb7 hg7 hv7)
          go_wp2_with fail
          refine ⟨⟨(r :: rs).drop m, A2, c' - m, T ++ sp, X ++ en, by rw [List.length_drop, ← Hm.out.2.2.1], ?_⟩, ?_⟩
          · refine ⟨Hst.out.rf.cutA Hst.out.cap Hm.out.2.2.2.2, ?_, H7.out.2, H7.out.1, Hst.out.fit.drop m, ?_, ?_, ?_⟩
            · rw [List.length_drop]; have := Hst.out.cap; omega
            · rw [List.length_drop]; have := Hst.out.len; omega
            · rw [← Hone.out, List.append_assoc]
            · rw [← Htwo.out, List.append_assoc]
          · show nr - m < nr
            have := Hm.out
            omega
end
end Go.Proofs.YtghcfmkmndldoaaDoor
