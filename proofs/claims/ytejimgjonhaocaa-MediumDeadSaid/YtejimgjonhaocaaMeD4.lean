/-
  (*Table).Dead walked.
-/
import Derived.Test.YtejimgjonhaocaaMeD3
import Derived.WalkMore
import Derived.Deep.LoopGhost
namespace Go.Proofs.Ytejimgjonhaocaa
open Go.RowKit Go.Maps Go.Lib Go.Sort

/-- a set of numbers as a map of empty structs -/
def setG (S : Nat → Bool) : Gm := fun n => if S n then some (.agg #[]) else none
theorem setG_none : setG (fun _ => false) = fun _ => none := rfl
theorem setG_upd (S : Nat → Bool) (c : Nat) : updG (setG S) c (some (.agg #[])) = setG (fun n => if n = c then true else S n) := by
  funext n
  unfold updG setG
  by_cases h : n = c <;> simp [h]
theorem zero_empty (w : World) : (zeroValue 79).run Try.prog w = .ok (.agg #[]) w := by kernel_rfl
theorem set_look {w : World} {am N : Nat} {S : Nat → Bool} (h : MapV w am (setG S) N) {n : Nat} (hn : n < T64) : (Instr.lookup 78 (.map (some am)) (.int .u64 (n : Int)) true).run Try.prog w = .ok (.tuple #[.agg #[], .bool (S n)]) w := by
  have := h.look Try.underlying78 (zero_empty w) hn
  unfold kV at this
  rw [this]
  unfold setG
  cases S n <;> rfl
/-- an argument's slice of numbers, read -/
def RU (w : World) (A : Option Addr) (rs : List Nat) : Prop := ∀ k n : Nat, rs[k]? = some n → n < T64 ∧ ∃ b o, A = some ⟨b, o, none⟩ ∧ b < w.heap.size ∧ w.cell? ⟨b, o + k, none⟩ = some (.int .u64 (n : Int))
theorem RU.below {w w' : World} {A : Option Addr} {rs : List Nat} (h : RU w A rs) (hb : Below w.heap.size w w') : RU w' A rs := fun k n hk => by
  obtain ⟨h1, b, o, h2, h3, h4⟩ := h k n hk
  exact ⟨h1, b, o, h2, Nat.lt_of_lt_of_le h3 hb.size, (hb.cell (p := ⟨b, o + k, none⟩) h3).trans h4⟩
/-- between two roots: i of them are gone through -/
structure DdSt (w wr : World) (am : Nat) (L : List Md) (rs : List Nat) (i : Nat) : Prop where
  ha : w.heap.size ≤ am
  al : ∃ S N, MapV wr am (setG S) N ∧ N ≤ 64 * i ∧ ∀ n, S n = aliveL L (rs.take i) n
  hb : Below w.heap.size w wr
/-- within a root's chain: it stands at c, whose row lies at B -/
structure DcSt (w wr : World) (am : Nat) (L : List Md) (rs : List Nat) (i r c B : Nat) : Prop where
  ha : w.heap.size ≤ am
  hc : Cells wr B 75 (rowC L c)
  hB : w.heap.size ≤ B
  lt : c < T64
  al : ∃ S N, MapV wr am (setG S) N ∧ N + deepL L c ≤ 64 * (i + 1) ∧ Gone L (rs.take i) r c S
  hb : Below w.heap.size w wr
/-- append(v, one number) at an operation of a walk -/
theorem app_u64 {w : World} {base : Nat} {v : Value} {l : List Nat} {ops : Array Oper} {rest : List Oper} {o : Oper} {a : Act} {Q : Exit → Act → World → Prop} (hgd : o.guard = none) (s x : Operand)
    (ho : o.op = .call { callee := .builtin .append, args := #[s, x], argTypes := #[23, 23] })
    (hs : a.eval s = v) (hown : w.ownsRow base 34 1 v l.length (l.map kV)) (g c : Nat) (hx : a.eval x = .slice (some ⟨g, 0, none⟩) 1 c) (n : Nat) (hr : Cells w g 34 [.int .u64 (n : Int)]) (hlen : l.length ≤ 1000000) (hbase : base ≤ w.heap.size)
    (h : ∀ v' w', w'.ownsRow base 34 1 v' (l ++ [n]).length ((l ++ [n]).map kV) → w.grownBy w' v.ownBlock → wpList Try.prog ops Q rest (a.put o.dst v') w') :
    wpList Try.prog ops Q (o :: rest) a w := by
  refine wpList_plain hgd fun K hK => ?_
  obtain ⟨i0, hi0, hz0, hz1, hz2⟩ := info_parts info_u64
  obtain ⟨v', w', hrun, r2, r3, _, r5⟩ := run_append_own_at (P := Try.prog) w base 23 o.type 34 i0 _ 1 8 Try.underlying23 hi0 hz0 hz1 hz2 rfl (by omega) v l.length (l.map kV) hown ⟨g, 0, none⟩ 1 c [.int .u64 (n : Int)]
      (by simp) (fun j u hj => by rw [add_flat, Nat.zero_add]; exact hr.cell hj) (by intro u hu; simp at hu; rcases hu with rfl; rfl) (by simp only [maxLen]; omega) (by omega) hbase
  unfold Oper.wp execOp
  simp only [ho, resolve, invoke, builtin, Sem.run_bind, Sem.run_pure, Result.andThen_ok, List.map_toArray, List.map_cons, List.map_nil, hs, hx]
  rw [show (Builtin.append_ #[23, 23] o.type #[v, .slice (some ⟨g, 0, none⟩) 1 c]).run Try.prog w = .ok v' w' from hrun]
  exact hK _ _ (h v' w' (by rw [List.length_append, List.map_append]; exact r2) r3)
/-- the dead ones of the first i mediums -/
def deadI (L : List Md) (rs : List Nat) (i : Nat) : List Nat := ((L.take i).map Md.id).filter fun n => !aliveL L rs n
theorem deadI_all (L : List Md) (rs : List Nat) {i : Nat} (h : L.length ≤ i) : deadI L rs i = deadL L rs := by unfold deadI deadL; rw [List.take_of_length_le h]
theorem deadI_step {L : List Md} (rs : List Nat) {i : Nat} {m : Md} (h : L[i]? = some m) : deadI L rs (i + 1) = deadI L rs i ++ (if aliveL L rs m.id then [] else [m.id]) := by
  unfold deadI
  rw [List.take_add_one, h, List.map_append, List.filter_append]
  congr 1
  cases hA : aliveL L rs m.id <;> simp [hA]
theorem deadI_len (L : List Md) (rs : List Nat) (i : Nat) : (deadI L rs i).length ≤ L.length := by
  unfold deadI
  refine Nat.le_trans (List.length_filter_le _ _) ?_
  rw [List.length_map, List.length_take]
  omega
/-- the second loop under way -/
structure DeSt (w1 wr : World) (L : List Md) (rs : List Nat) (i : Nat) (v : Value) : Prop where
  own : wr.ownsRow w1.heap.size 34 1 v (deadI L rs i).length ((deadI L rs i).map kV)
  hb : Below w1.heap.size w1 wr
section
set_option maxRecDepth 100000
set_option maxHeartbeats 4000000
theorem dead_any {w : World} {tb mb dep nxt N : Nat} {L : List Md} {rs : List Nat} {A : Option Addr} {cap : Nat} (hT : TabG w tb mb dep nxt (rowG L) N) (hO : Ok dep nxt L) (hn : nxt ≤ T64) (hN : N ≤ 255) (hL : L.length ≤ 255) (hR : RU w A rs) (hl : rs.length ≤ 1000) :
    Calls Try.prog 21 #[.pointer (some ⟨tb, 0, none⟩), .slice A rs.length cap] w fun e w' => ∃ v, e = .returned v ∧ w'.ownsRow w.heap.size 34 1 v (deadL L rs).length ((deadL L rs).map kV) ∧ Below w.heap.size w w' := by
  have HT := Lib.hid hT
  have HO := Lib.hid hO
  have HL := Lib.hid (And.intro hL (And.intro hn (And.intro hN hl)))
  have HR := Lib.hid hR
  have hli : (rs.length : Int) ≤ 1000 := by omega
  have H0 : Hid (DdSt w (w.alloc (.map #[] 0)) w.heap.size L rs 0) := ⟨Nat.le_refl _, ⟨fun _ => false, 0, by rw [setG_none]; exact MapV.made w, Nat.zero_le _, fun n => by simp [aliveL]⟩, (Below.refl _ _).alloc (Nat.le_refl _) _⟩
  have hmm := @run_makeMap Try.prog
  clear hT hO hn hN hL hR hl
  go_enter Try.func21, Try.ntmps21
  go_wp2_with fail
  go_step3
  go_wp2_with fail
  go_step3
  go_wp2_with fail
  generalize w.alloc (.map #[] 0) = w1 at *
  obtain ⟨am, ham⟩ : ∃ am, am = w.heap.size := ⟨_, rfl⟩
  rw [← ham] at H0 ⊢
  clear ham
  go_loopg [20] rs.length (fun gx iv wr => ∃ i : Nat, iv = .int .i64 (i : Int) ∧ i ≤ rs.length ∧ rs.length - i ≤ gx ∧ Hid (DdSt w wr am L rs i))
  case atStart => exact ⟨0, rfl, Nat.zero_le _, Nat.le_refl _, H0⟩
  case round =>
    obtain ⟨i, rfl, hi, hg, Hs⟩ := hrel
    clear H0
    have hi1 : (i : Int) ≤ 1000 := by omega
    by_cases hlt : i < rs.length
    case neg =>
      have hnl : ¬ (i : Int) < (rs.length : Int) := by omega
      obtain rfl : i = rs.length := by omega
      obtain ⟨S, M, hM1, -, hM3⟩ := Hs.out.al
      rw [List.take_of_length_le (Nat.le_refl _)] at hM3
      obtain rfl : S = aliveL L rs := funext hM3
      have HM := Lib.hid hM1
      have HI := Lib.hid (ids_any (HT.out.below Hs.out.hb) HO.out HL.out.2.1 HL.out.2.2.1)
      have Hw := Lib.hid Hs.out.hb
      clear hM1 hM3 Hs
      go_wp2_with (go_at_call 35; refine HI.out.mono ?_; rintro e w2 ⟨v, rfl, hr, hb⟩; have hr2 : w2.ownsRow wr.heap.size 34 1 v (L.map Md.id).length ((L.map Md.id).map kV) := (by rw [List.length_map]; exact hr); obtain ⟨A2, c2, rfl, hrd⟩ := row_read hr2; rw [List.length_map]; have HR2 := Lib.hid hrd; have HB := Lib.hid hb; clear hr hr2 hb hrd)
      have HM2 := Lib.hid (HM.out.below HB.out)
      have H2 : Hid (DeSt w2 w2 L rs 0 (.slice none 0 0)) := ⟨World.ownsRow_nil _ _ _ _, Below.refl _ _⟩
      clear HI HM
      go_loopg [64, 12] L.length (fun hx iv lv wi => ∃ k : Nat, iv = .int .i64 (k : Int) ∧ k ≤ L.length ∧ L.length - k ≤ hx ∧ Hid (DeSt w2 wi L rs k lv))
      case atStart => exact ⟨0, rfl, Nat.zero_le _, Nat.le_refl _, H2⟩
      case round =>
        obtain ⟨k, rfl, hk, hkx, Hs⟩ := hrel
        clear H2
        obtain ⟨A3, c3, rfl⟩ := row_shape Hs.out.own
        have hk255 : (k : Int) ≤ 255 := by have := HL.out.1; omega
        have hl255 : (L.length : Int) ≤ 255 := by have := HL.out.1; omega
        have HLen : Hid ((deadI L rs k).length ≤ 255) := Nat.le_trans (deadI_len L rs k) HL.out.1
        obtain ⟨n3, hn3⟩ : ∃ n, n = (deadI L rs k).length := ⟨_, rfl⟩
        have hown := Hs.out.own
        rw [← hn3] at hown ⊢
        by_cases hlt : k < L.length
        case neg =>
          have hnl : ¬ (k : Int) < (L.length : Int) := by omega
          have Hf : Hid (wr.ownsRow w2.heap.size 34 1 (.slice A3 n3 c3) (deadL L rs).length ((deadL L rs).map kV)) := by have h := hown; rw [hn3, deadI_all L rs (by omega)] at h; rw [hn3, deadI_all L rs (by omega)]; exact h
          have Hb3 := Lib.hid Hs.out.hb
          clear hown hn3 Hs
          go_wp2_with fail
          try rw [Exit.noGoto_ret]
          go_ret
          refine ⟨_, rfl, ⟨Hf.out.1, ?_⟩, (Hw.out.trans (HB.out.mono Hw.out.size)).trans (Hb3.out.mono (Nat.le_trans Hw.out.size HB.out.size))⟩
          rcases Hf.out.2 with q | ⟨g, cap, cur, e1, h2, r⟩
          · exact .inl q
          · exact .inr ⟨g, cap, cur, e1, Nat.le_trans (Nat.le_trans Hw.out.size HB.out.size) h2, r⟩
        obtain ⟨m, hm⟩ : ∃ m, L[k]? = some m := ⟨L[k], by simp [hlt]⟩
        have hmem : m ∈ L := List.mem_of_getElem? hm
        obtain ⟨bA, rfl, hb1, hb2, hc⟩ := HR2.out k m.id (by rw [List.getElem?_map, hm]; rfl)
        have q0 : wr.cell? ⟨bA, k, none⟩ = some (.int .u64 (m.id : Int)) := (Hs.out.hb.cell (p := ⟨bA, k, none⟩) hb2).trans hc
        have hsl := set_look (HM2.out.below Hs.out.hb) (Nat.lt_of_lt_of_le (HO.out.hi m hmem) HL.out.2.1)
        have hli3 : (k : Int) < (L.length : Int) := by omega
        have hst := deadI_step rs hm
        have Hb3 := Lib.hid Hs.out.hb
        have Hlk : Hid (k < L.length) := hlt
        cases hA : aliveL L rs m.id with
        | true =>
          rw [hA] at hsl hst
          have Hf : Hid (DeSt w2 (wr.alloc (.cells #[] 79)) L rs (k + 1) (.slice A3 n3 c3)) := ⟨by rw [hst, if_pos rfl, List.append_nil, ← hn3]; rw [hn3]; have h := World.ownsRow.alloc hown (.cells #[] 79); rw [hn3] at h; exact h, Hb3.out.alloc Hb3.out.size _⟩
          clear hown hm hmem hb1 hb2 hc hst hn3 Hs hlt
          go_wp2_with fail
          go_roundg (L.length - (k + 1))
          case measure => have := Hlk.out; omega
          case rel => exact ⟨k + 1, (by first | rfl | simp), Hlk.out, Nat.le_refl _, Hf⟩
        | false =>
          rw [hA] at hsl hst
          obtain ⟨W2, hW2⟩ : ∃ W, W = (wr.alloc (.cells #[] 79)).alloc (.cells #[.int .u64 (m.id : Int)] 34) := ⟨_, rfl⟩
          have e1 : (wr.alloc (.cells #[] 79)).heap.size = wr.heap.size + 1 := by simp
          have Hcp : Hid (Cells W2 (wr.heap.size + 1) 34 [.int .u64 (m.id : Int)]) := by rw [hW2, ← e1]; exact Cells.new _ _ _
          have Hw1 : Hid (W2.ownsRow w2.heap.size 34 1 (.slice A3 n3 c3) (deadI L rs k).length ((deadI L rs k).map kV)) := by rw [hW2, ← hn3]; exact World.ownsRow.alloc (World.ownsRow.alloc hown _) _
          have Hb1 : Hid (Below w2.heap.size w2 W2) := by rw [hW2]; exact (Hb3.out.alloc Hb3.out.size _).alloc (by rw [e1]; have := Hb3.out.size; omega) _
          have Hst : Hid (deadI L rs (k + 1) = deadI L rs k ++ [m.id]) := hst
          have Hn3 := Lib.hid hn3
          have HW2 := Lib.hid hW2
          clear hown hm hmem hb1 hb2 hc hst hn3 Hs hlt e1 hW2
          go_wp2_with (at_builtin; rw [← HW2.out]; refine app_u64 rfl (.tmp 76) (.tmp 78) rfl rfl Hw1.out (wr.heap.size + 1) 1 rfl m.id Hcp.out (by have := HLen.out; omega) Hb1.out.size ?_; intro pv5 w5 hown5 hgrow5; have H5 : Hid (DeSt w2 w5 L rs (k + 1) pv5) := ⟨by rw [Hst.out]; exact hown5, Hb1.out.grown hgrow5 Hb1.out.size (fun g hg => (World.ownsRow.lt Hw1.out g hg).1)⟩; obtain ⟨A5, c5, rfl⟩ := row_shape hown5; clear hown5 hgrow5)
          go_roundg (L.length - (k + 1))
          case measure => have := Hlk.out; omega
          case rel => exact ⟨k + 1, (by first | rfl | simp), Hlk.out, Nat.le_refl _, (by first | exact H5 | (have h := H5; simp only [List.length_append, List.length_cons, List.length_nil, Nat.zero_add] at h ⊢; exact h))⟩
    have hli2 : (i : Int) < (rs.length : Int) := by omega
    obtain ⟨r, hr⟩ : ∃ r, rs[i]? = some r := ⟨rs[i], by simp [hlt]⟩
    obtain ⟨hr64, bA, oA, rfl, hb1, hc⟩ := HR.out i r hr
    have q0 : wr.cell? ⟨bA, oA + i, none⟩ = some (.int .u64 (r : Int)) := (Hs.out.hb.cell (p := ⟨bA, oA + i, none⟩) hb1).trans hc
    have HTr := Lib.hid (HT.out.below Hs.out.hb)
    have c2 := HTr.out.t2
    have hlk := HTr.out.fetchL hr64
    obtain ⟨ok, hok⟩ : ∃ ok, ok = (look L r).isSome := ⟨_, rfl⟩
    rw [← hok] at hlk
    obtain ⟨x0, x1, x2, x3, x4, x5, hcs⟩ := rowC_form L r
    rw [hcs] at hlk
    have H1 : Hid (DcSt w (wr.alloc (.cells #[.int .u64 x0, .int .u64 x1, .int .i64 x2, .int .i64 x3, .bool x4, .int .i64 x5] 75)) am L rs i r r wr.heap.size) := by
      obtain ⟨S, M, h1, h2, h3⟩ := Hs.out.al
      exact ⟨Hs.out.ha, by rw [hcs]; exact Cells.new wr _ _, Hs.out.hb.size, hr64, ⟨S, M, h1.alloc _, by have := Nat.le_trans (deepL_le HO.out r) HO.out.d2; omega, Gone.start h3 r⟩, Hs.out.hb.alloc Hs.out.hb.size _⟩
    have Hok := Lib.hid hok
    have Hr := Lib.hid hr
    have Hlt : Hid (i < rs.length ∧ rs.length - i ≤ gk) := ⟨hlt, hg⟩
    clear hok hcs hr hr64 hb1 hc hlt hg
    go_wp2_with fail
    generalize wr.alloc (.cells #[.int .u64 x0, .int .u64 x1, .int .i64 x2, .int .i64 x3, .bool x4, .int .i64 x5] 75) = w2 at *
    generalize wr.heap.size = B0 at *
    clear hlk c2 q0 Hs HTr
    go_loopg [8, 9] r (fun hx pv ov wi => ∃ (c B : Nat), pv = .pointer (some ⟨B, 0, none⟩) ∧ ov = .bool (look L c).isSome ∧ c ≤ hx ∧ Hid (DcSt w wi am L rs i r c B))
    case atStart => exact ⟨r, B0, rfl, by rw [Hok.out], Nat.le_refl _, H1⟩
    case round =>
      obtain ⟨c, B, rfl, rfl, hcx, Hc⟩ := hrel
      clear H1 Hok
      have htk : rs.take (i + 1) = rs.take i ++ [r] := by rw [List.take_add_one, Hr.out]; rfl
      have Htk := Lib.hid htk
      clear htk
      cases hm : look L c with
      | none =>
        have Hf : Hid (DdSt w wr am L rs (i + 1)) := by
          obtain ⟨S, M, h1, h2, h3⟩ := Hc.out.al
          exact ⟨Hc.out.ha, ⟨S, M, h1, by omega, by rw [Htk.out]; exact h3.stop hm⟩, Hc.out.hb⟩
        clear hm Hc
        go_wp2_with fail
        go_roundg (rs.length - (i + 1))
        case measure => have := Hlt.out; omega
        case rel => exact ⟨i + 1, (by first | rfl | simp), Hlt.out.1, Nat.le_refl _, Hf⟩
      | some m =>
        obtain ⟨q1, q2⟩ := look_mem hm
        obtain ⟨S, M, h1, h2, h3⟩ := Hc.out.al
        have hsl := set_look h1 Hc.out.lt
        have Hcc := Hc.out.hc
        rw [rowC_some hm, q2] at Hcc
        have k0 := Hcc.cell (i := 0) rfl
        cases hS : S c with
        | true =>
          rw [hS] at hsl
          have Hf : Hid (DdSt w wr am L rs (i + 1)) := ⟨Hc.out.ha, ⟨S, M, h1, by omega, by rw [Htk.out]; exact h3.met HO.out.down HO.out.look_zero hS⟩, Hc.out.hb⟩
          clear hm Hc h1 h2 h3 Hcc hS q1 q2
          go_wp2_with fail
          go_roundg (rs.length - (i + 1))
          case measure => have := Hlt.out; omega
          case rel => exact ⟨i + 1, (by first | rfl | simp), Hlt.out.1, Nat.le_refl _, Lib.hid ⟨Hf.out.ha, by obtain ⟨S, M, h1, h2⟩ := Hf.out.al; exact ⟨S, M, h1.alloc _, h2⟩, Hf.out.hb.alloc Hf.out.hb.size _⟩⟩
        | false =>
          rw [hS] at hsl
          have hdl := deepL_some HO.out.down HO.out.look_zero hm
          have hamlt := h1.lt
          have HA : Hid (MapV (wr.alloc (.cells #[] 79)) am (setG S) M ∧ Cells (wr.alloc (.cells #[] 79)) B 75 [.int .u64 (c : Int), .int .u64 (m.tgt : Int), .int .i64 (m.off : Int), .int .i64 (m.size : Int), .bool m.fixed, .int .i64 (ups L c : Nat)] ∧ Below w.heap.size w (wr.alloc (.cells #[] 79)) ∧ w.heap.size ≤ am) := ⟨h1.alloc _, Hcc.alloc _, Hc.out.hb.alloc Hc.out.hb.size _, Hc.out.ha⟩
          have kA := HA.out.2.1.cell (i := 0) rfl
          have HX : Hid (c < T64 ∧ m.tgt < c ∧ M + 1 + deepL L m.tgt ≤ 64 * (i + 1) ∧ Gone L (rs.take i) r m.tgt (fun n => if n = c then true else S n) ∧ i < rs.length ∧ rs.length ≤ 1000) :=
            ⟨Hc.out.lt, by have := HO.out.down m q1; omega, by omega, h3.step HO.out.down HO.out.look_zero hm, Hlt.out.1, HL.out.2.2.2⟩
          have HM : Hid (M < 1000000) := by show M < 1000000; have := HX.out.2.2.1; have := HX.out.2.2.2.2; omega
          clear hm Hc h1 h2 h3 Hcc hS q1 q2 hdl hamlt
          go_wp2_with (at_mapUpdate; refine mv_store rfl _ _ _ rfl Try.underlying78 HA.out.1 HM.out (n := c) HX.out.1 _ rfl rfl rfl ?_; intro w5 hm5 ht5; have hm6 : MapV w5 am (setG (fun n => if n = c then true else S n)) (M + 1) := (by rw [← setG_upd]; exact hm5); have H5 : Hid (MapV w5 am (setG (fun n => if n = c then true else S n)) (M + 1) ∧ Cells w5 B 75 [.int .u64 (c : Int), .int .u64 (m.tgt : Int), .int .i64 (m.off : Int), .int .i64 (m.size : Int), .bool m.fixed, .int .i64 (ups L c : Nat)] ∧ Below w.heap.size w w5 ∧ w.heap.size ≤ am) := ⟨hm6, HA.out.2.1.move (ht5.grown.block B HA.out.2.1.lt (fun e => by injection e with e; exact HA.out.1.not_cells (e ▸ HA.out.2.1))), HA.out.2.2.1.grown ht5.grown HA.out.2.2.1.size (fun k e => by cases e; exact HA.out.2.2.2), HA.out.2.2.2⟩; have k0' := H5.out.2.1.cell (i := 0) rfl; have k1' := H5.out.2.1.cell (i := 1) rfl; have k2' := H5.out.2.1.cell (i := 2) rfl; have k3' := H5.out.2.1.cell (i := 3) rfl; have k4' := H5.out.2.1.cell (i := 4) rfl; have k5' := H5.out.2.1.cell (i := 5) rfl; clear hm5 hm6 ht5 k0 kA hsl HA)
          obtain ⟨y0, y1, y2, y3, y4, y5, hcy⟩ := rowC_form L m.tgt
          obtain ⟨ok2, hok2⟩ : ∃ ok, ok = (look L m.tgt).isSome := ⟨_, rfl⟩
          have Hy : Hid (rowC L m.tgt = [.int .u64 y0, .int .u64 y1, .int .i64 y2, .int .i64 y3, .bool y4, .int .i64 y5] ∧ ok2 = (look L m.tgt).isSome) := ⟨hcy, hok2⟩
          have Ht2 := Lib.hid ((HT.out.below H5.out.2.2.1).alloc (.cells #[.int .u64 (c : Int), .int .u64 (m.tgt : Int), .int .i64 (m.off : Int), .int .i64 (m.size : Int), .bool m.fixed, .int .i64 (ups L c : Nat)] 75))
          have Hc2 := Lib.hid (Cells.new w5 #[.int .u64 (c : Int), .int .u64 (m.tgt : Int), .int .i64 (m.off : Int), .int .i64 (m.size : Int), .bool m.fixed, .int .i64 (ups L c : Nat)] 75)
          have Hm2 : Hid (MapV (w5.alloc (.cells #[.int .u64 (c : Int), .int .u64 (m.tgt : Int), .int .i64 (m.off : Int), .int .i64 (m.size : Int), .bool m.fixed, .int .i64 (ups L c : Nat)] 75)) am (setG (fun n => if n = c then true else S n)) (M + 1) ∧ Below w.heap.size w (w5.alloc (.cells #[.int .u64 (c : Int), .int .u64 (m.tgt : Int), .int .i64 (m.off : Int), .int .i64 (m.size : Int), .bool m.fixed, .int .i64 (ups L c : Nat)] 75)) ∧ w.heap.size ≤ w5.heap.size ∧ am < w5.heap.size ∧ w.heap.size ≤ am) :=
            ⟨H5.out.1.alloc _, H5.out.2.2.1.alloc H5.out.2.2.1.size _, H5.out.2.2.1.size, H5.out.1.lt, H5.out.2.2.2⟩
          have htg : m.tgt < T64 := Nat.lt_trans HX.out.2.1 HX.out.1
          have Htg := Lib.hid htg
          have hlk := (Ht2.out.drew).fetchL htg
          rw [hcy, ← hok2] at hlk
          clear k0' k1' k2' k3' k4' k5' H5 hok2 hcy htg
          generalize (w5.alloc (.cells #[.int .u64 (c : Int), .int .u64 (m.tgt : Int), .int .i64 (m.off : Int), .int .i64 (m.size : Int), .bool m.fixed, .int .i64 (ups L c : Nat)] 75)) = w6 at *
          generalize w5.heap.size = B2 at *
          have c2 := Ht2.out.t2
          have k1 := Hc2.out.cell (i := 1) rfl
          have f0 := Hc2.out.frozen 0
          have f1 := Hc2.out.frozen 1
          have f2 := Hc2.out.frozen 2
          have f3 := Hc2.out.frozen 3
          have f4 := Hc2.out.frozen 4
          have f5 := Hc2.out.frozen 5
          have j0 := Hc2.out.cell (i := 0) rfl
          have j2 := Hc2.out.cell (i := 2) rfl
          have j3 := Hc2.out.cell (i := 3) rfl
          have j4 := Hc2.out.cell (i := 4) rfl
          have j5 := Hc2.out.cell (i := 5) rfl
          go_region_with (fail)
          all_goals
            go_simp
            go_wp2_with fail
            go_roundg m.tgt
            case measure => have := HX.out.2.1; omega
            case rel =>
              refine ⟨m.tgt, B2, rfl, by rw [Hy.out.2], Nat.le_refl _, Lib.hid ⟨Hm2.out.2.2.2.2, by rw [Hy.out.1]; exact (set6 Hc2.out _ _ _ _ _ _).drew, Hm2.out.2.2.1, Htg.out, ⟨_, M + 1, Hm2.out.1.move ?_, HX.out.2.2.1, HX.out.2.2.2.1⟩, (below_set6 Hm2.out.2.1 Hm2.out.2.2.1 _ _ _ _ _ _).drew⟩⟩
              exact (below_set6 (B := am + 1) (Below.refl _ w6) Hm2.out.2.2.2.1 _ _ _ _ _ _).drew.block am (Nat.lt_succ_self _)
end
end Go.Proofs.Ytejimgjonhaocaa
