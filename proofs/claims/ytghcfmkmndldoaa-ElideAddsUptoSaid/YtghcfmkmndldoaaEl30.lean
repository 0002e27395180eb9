/-
  slices.Insert at elisions.
-/
import Derived.Test.YtghcfmkmndldoaaEl29
namespace Go.Proofs.Ytghcfmkmndldoaa
open Go.RowKit Go.Sort Go.Lib

theorem oneDrop (i : Nat) (es : List Ec) : ∀ u ∈ cellsE (es.drop i), u.oneCell' = true := oneE _
/-- overlaps of two rows of the call's own: no -/
theorem overlaps_any {w : World} {g g2 c c2 : Nat} {L L2 : List Value} (h : RowAt w g c L) (h2 : RowAt w g2 c2 L2) (hne : g ≠ g2) (o o2 la ca lb cb : Nat) (hc2 : 0 < c2) :
    (callFunc 58 #[.slice (some ⟨g, o, none⟩) la ca, .slice (some ⟨g2, o2, none⟩) lb cb]).run Try.prog w = .ok (.value (.bool false)) w := by
  obtain ⟨i0, hi0, hz0, hz1, hz2⟩ := info_parts info_elision
  have hsz : ∀ w, (Go.sizeOf 32).run Try.prog w = .ok 3 w := fun w => by simp [sizeOf, typeInfo, hi0, hz1]
  have hs1 : w.shape? g = some (32, L.length) := by simp [World.shape?, h.at_]
  have hs2 : w.shape? g2 = some (32, L2.length) := by simp [World.shape?, h2.at_]
  rw [run_callFunc_extern Try.func58 (by kernel_rfl) (by kernel_rfl) (e := Extern.SlicesOverlaps.overlaps #[22, 22] #[4]) (by kernel_rfl),
    Lib.run_overlaps_apart w 22 4 32 Try.underlying22 3 hsz ⟨g, o, none⟩ ⟨g2, o2, none⟩ la ca lb cb hne _ _ _ _ hs1 hs2 (by have := h2.len; omega) (by simp [World.frozen?, h.at_]) (by simp [World.frozen?, h.at_])]
  · rfl
  · kernel_rfl
theorem take_three {α : Type} (a b c d : List α) (k : Nat) (hk : k = a.length + b.length + c.length) : (a ++ (b ++ (c ++ d))).take k = a ++ b ++ c := by
  rw [← List.append_assoc, ← List.append_assoc]
  have : k = (a ++ b ++ c).length := by simp; omega
  rw [this]
  exact List.take_left
theorem row_take {L : List Value} {es : List Ec} {n i : Nat} (ht : L.take (n * 3) = cellsE es) (hn : n = es.length) (hi : i ≤ n) : L.take (i * 3) = cellsE (es.take i) := by
  rw [cells_take i es (by omega), ← ht, List.take_take, Nat.min_eq_left (by omega)]
theorem row_drop {L : List Value} {es : List Ec} {n j : Nat} (ht : L.take (n * 3) = cellsE es) (hn : n = es.length) (hj : j ≤ n) : (L.drop (j * 3)).take (cellsE (es.drop j)).length = cellsE (es.drop j) := by
  rw [cellsE_length, List.length_drop, cells_drop j es (by omega), ← ht, List.drop_take]
  congr 1
  omega
theorem RowAt.reads {w : World} {g c : Nat} {L cs : List Value} (h : RowAt w g c L) (o : Nat) (hp : (L.drop o).take cs.length = cs) : ∀ t v, cs[t]? = some v → w.cell? ((⟨g, o, none⟩ : Addr).add t) = some v := fun t v hv => by
  rw [← hp, List.getElem?_take, List.getElem?_drop] at hv
  split at hv
  · rw [Addr.add_lit]
    exact h.cell hv
  · cases hv
theorem wp_app_room {ops : Array Oper} {rest : List Oper} {o : Oper} {a : Act} {Q : Exit → Act → World → Prop} {w : World} {g c B : Nat} {L : List Value} {fs : List Ec} {A : Option Addr} (hgd : o.guard = none) (s x : Operand)
    (ho : o.op = .call { callee := .builtin .append, args := #[s, x], argTypes := #[22, 22] }) (i m uc : Nat) (hs : a.eval s = .slice (some ⟨g, 0, none⟩) i c) (hx : a.eval x = .slice A m uc)
    (hr : RowAt w g c L) (hm : m = fs.length) (hroom : i + m ≤ c) (hu : RE w B A fs)
    (h : ∀ w', Hid (RowAt w' g c (splice L (i * 3) (cellsE fs))) → Hid (Kept (fun k => k ≠ g) w w') → wpList Try.prog ops Q rest (a.put o.dst (.slice (some ⟨g, 0, none⟩) (i + m) c)) w') : wpList Try.prog ops Q (o :: rest) a w := by
  refine wpList_plain hgd fun K hK => ?_
  obtain ⟨w', hrun, h2, h3⟩ := app_row_room o.type hr i m uc hm hroom hu
  unfold Oper.wp execOp
  simp only [ho, resolve, invoke, builtin, Sem.run_bind, Sem.run_pure, Result.andThen_ok, List.map_toArray, List.map_cons, List.map_nil, hs, hx]
  rw [show (Builtin.append_ #[22, 22] o.type #[.slice (some ⟨g, 0, none⟩) i c, .slice A m uc]).run Try.prog w = .ok _ _ from hrun]
  exact hK _ _ (h w' h2 h3)
/-- the middle first, then the hind part -/
theorem lay_list {L F X : List Value} {i j k : Nat} (hF : i + F.length = j) (hX : j + X.length = k) (h : k ≤ L.length) : (splice (splice L i F) j X).take k = L.take i ++ F ++ X := by
  rw [splice_upto hX.symm (by rw [length_splice _ _ _ (by omega)]; omega), splice_upto hF.symm (by omega)]
/-- the hind part first, then the middle -/
theorem lay_list2 {L F X : List Value} {i j k : Nat} (hF : i + F.length = j) (hX : j + X.length = k) (h : k ≤ L.length) : (splice (splice L j X) i F).take k = L.take i ++ F ++ X := by
  have e1 : (splice L j X).take i = L.take i := splice_take (by omega) (by omega)
  have e2 : (splice L j X).drop j = X ++ L.drop (j + X.length) := by
    have e3 : (L.take j).length = j := by rw [List.length_take]; omega
    exact List.drop_left' e3
  have e4 : splice (splice L j X) i F = L.take i ++ (F ++ (X ++ L.drop (j + X.length))) := by
    show (splice L j X).take i ++ (F ++ (splice L j X).drop (i + F.length)) = _
    rw [e1, hF, e2]
  have e5 : (L.take i).length = i := by rw [List.length_take]; omega
  rw [e4, take_three _ _ _ _ _ (by rw [e5]; omega)]
/-- a row of es's front, fs, es's hind part -/
theorem lay_own {w : World} {g c base n m i j : Nat} {L L' : List Value} {es fs : List Ec} (hR : RowAt w g c L') (ht : L.take (i * 3) = cellsE (es.take i)) (hl : L'.take ((i + m + (n - j)) * 3) = L.take (i * 3) ++ cellsE fs ++ cellsE (es.drop j)) (hn : n = es.length) (hm : m = fs.length) (hi : i ≤ j) (hj : j ≤ n) (hb : base ≤ g) (hfit : i + m + (n - j) ≤ c) (hc : c ≤ maxLen) :
    OwnE w base (.slice (some ⟨g, 0, none⟩) (i + m + (n - j)) c) (es.take i ++ fs ++ es.drop j) := by
  have e : (es.take i ++ fs ++ es.drop j).length = i + m + (n - j) := by simp only [List.length_append, List.length_take, List.length_drop]; omega
  rw [← e]
  refine OwnE.of_row hR ?_ hb (by omega) hc
  rw [e, hl, ht, cellsE_append, cellsE_append]
/-- TWO ROWS of the call's own, side by side: es, and what is to be laid into it -/
structure TwoR (w : World) (base g g2 n m c uc : Nat) (L L2 : List Value) (es fs : List Ec) : Prop where
  r : RowAt w g c L
  t : L.take (n * 3) = cellsE es
  r2 : RowAt w g2 uc L2
  t2 : L2.take (m * 3) = cellsE fs
  hn : n = es.length
  hm : m = fs.length
  ne : g ≠ g2
  ge : base ≤ g
  hc : c ≤ maxLen
  nc : n ≤ c
  uc : m ≤ uc
  m0 : 0 < m
  big : n + m ≤ 1000000000000
  hb : base ≤ w.heap.size
section
variable {w w' : World} {base g g2 n m c uc i j : Nat} {L L2 : List Value} {es fs : List Ec}
theorem TwoR.drew (T : TwoR w base g g2 n m c uc L L2 es fs) : TwoR w.drew base g g2 n m c uc L L2 es fs := ⟨⟨T.r.at_, T.r.len⟩, T.t, ⟨T.r2.at_, T.r2.len⟩, T.t2, T.hn, T.hm, T.ne, T.ge, T.hc, T.nc, T.uc, T.m0, T.big, T.hb⟩
theorem TwoR.drewN (T : TwoR w base g g2 n m c uc L L2 es fs) (k : Nat) : TwoR (w.drewN k) base g g2 n m c uc L L2 es fs := ⟨⟨T.r.at_, T.r.len⟩, T.t, ⟨T.r2.at_, T.r2.len⟩, T.t2, T.hn, T.hm, T.ne, T.ge, T.hc, T.nc, T.uc, T.m0, T.big, T.hb⟩
/-- fs, read -/
theorem TwoR.rd2 (T : TwoR w base g g2 n m c uc L L2 es fs) : RE w w.heap.size (some ⟨g2, 0, none⟩) fs := fun k p hk => by
  obtain ⟨c0, c1, c2⟩ := cellsE_get fs k p hk
  have e : ∀ t v, (cellsE fs)[t]? = some v → w.cell? ⟨g2, t, none⟩ = some v := fun t v hv => by
    rw [← T.t2, List.getElem?_take] at hv
    split at hv
    · exact T.r2.cell hv
    · cases hv
  exact ⟨g2, 0, rfl, T.r2.lt, by rw [Nat.zero_add]; exact e _ _ c0, by rw [Nat.zero_add]; exact e _ _ c1, by rw [Nat.zero_add]; exact e _ _ c2⟩
theorem TwoR.src (T : TwoR w base g g2 n m c uc L L2 es fs) (hk : w'.heap[g2]? = w.heap[g2]?) : ∀ t v, (cellsE fs)[t]? = some v → w'.cell? ((⟨g2, 0, none⟩ : Addr).add t) = some v := by
  refine (T.r2.move hk).reads 0 ?_
  rw [List.drop_zero, cellsE_length, ← T.hm, T.t2]
theorem TwoR.own (T : TwoR w base g g2 n m c uc L L2 es fs) (hi : i ≤ n) : OwnE w base (.slice (some ⟨g, 0, none⟩) i c) (es.take i) := by
  have e : (es.take i).length = i := by rw [List.length_take, ← T.hn]; exact Nat.min_eq_left hi
  have := OwnE.of_row (es := es.take i) T.r (by rw [e]; exact row_take T.t T.hn hi) T.ge (by rw [e]; have := T.nc; omega) T.hc
  rwa [e] at this
theorem TwoR.len1 (T : TwoR w base g g2 n m c uc L L2 es fs) (j : Nat) : (cellsE (es.drop j)).length = (n - j) * 3 := by rw [cellsE_length, List.length_drop, T.hn]
theorem TwoR.len2 (T : TwoR w base g g2 n m c uc L L2 es fs) : (cellsE fs).length = m * 3 := by rw [cellsE_length, T.hm]
theorem TwoR.lenL (T : TwoR w base g g2 n m c uc L L2 es fs) : L.length = c * 3 := T.r.len
end
section
set_option maxRecDepth 100000
set_option maxHeartbeats 8000000
theorem insert_zero (base base2 : Nat) (A A2 : Option Addr) (n i c m uc : Nat) (es fs : List Ec) (w : World) (ho : OwnE w base (.slice A n c) es) (hn : n = es.length) (hi : i ≤ n) (hu : OwnE w base2 (.slice A2 m uc) fs) (hm : m = fs.length)
    (hne : ∀ b, (Value.slice A n c).ownBlock = some b → (Value.slice A2 m uc).ownBlock ≠ some b) (hbase : base ≤ w.heap.size) (hl : n + m ≤ 1000000000000) (hm0 : m = 0) :
    Calls Try.prog 57 #[.slice A n c, .int .i64 (i : Int), .slice A2 m uc] w fun r w' => ∃ v', r = .returned v' ∧ OwnE w' base v' (es.take i ++ fs ++ es.drop i) ∧ Kept (fun k => (Value.slice A n c).ownBlock ≠ some k) w w' := by
  have H0 : Hid (OwnE w base (.slice A n c) es ∧ OwnE w base2 (.slice A2 m uc) fs ∧ n = es.length ∧ m = fs.length ∧ base ≤ w.heap.size) := ⟨ho, hu, hn, hm, hbase⟩
  have hnc : n ≤ c ∧ c ≤ 9223372036854775807 := by
    rcases ho.2 with ⟨e, h0⟩ | ⟨g, cap, cur, e, _, _, h1, h2, _⟩
    · cases e; exact ⟨by omega, by omega⟩
    · cases e; simp only [maxLen] at h2; omega
  have hin : (i : Int) ≤ (n : Int) := by omega
  have hinc : (n : Int) ≤ (c : Int) := by omega
  have hic : (i : Int) ≤ (c : Int) := by omega
  have hm0' : ((m : Int) == 0) = true := by simp [hm0]
  have hm0'' : (m : Int) = 0 := by omega
  have He : Hid (es.take i ++ fs ++ es.drop i = es) := by
    show _ = _
    have : fs = [] := List.eq_nil_of_length_eq_zero (by omega)
    rw [this, List.append_nil, List.take_append_drop]
  clear ho hu hm hn hne hbase hl hm0
  by_cases hci : c = i
  · have hci' : (c : Int) = (i : Int) := by omega
    go_enter Try.func57, Try.ntmps57
    go_wp2_with fail
    go_ret
    exact ⟨_, rfl, by rw [He.out]; exact H0.out.1, Kept.refl _ _⟩
  · go_enter Try.func57, Try.ntmps57
    go_wp2_with fail
    go_ret
    exact ⟨_, rfl, by rw [He.out]; exact H0.out.1, Kept.refl _ _⟩
theorem insert_end (base base2 : Nat) (A A2 : Option Addr) (n i c m uc : Nat) (es fs : List Ec) (w : World) (ho : OwnE w base (.slice A n c) es) (hn : n = es.length) (hi : i ≤ n) (hu : OwnE w base2 (.slice A2 m uc) fs) (hm : m = fs.length)
    (hne : ∀ b, (Value.slice A n c).ownBlock = some b → (Value.slice A2 m uc).ownBlock ≠ some b) (hbase : base ≤ w.heap.size) (hl : n + m ≤ 1000000000000) (hm0 : ¬ m = 0) (hin2 : i = n) :
    Calls Try.prog 57 #[.slice A n c, .int .i64 (i : Int), .slice A2 m uc] w fun r w' => ∃ v', r = .returned v' ∧ OwnE w' base v' (es.take i ++ fs ++ es.drop i) ∧ Kept (fun k => (Value.slice A n c).ownBlock ≠ some k) w w' := by
  have H0 : Hid (OwnE w base (.slice A n c) es ∧ OwnE w base2 (.slice A2 m uc) fs ∧ n = es.length ∧ m = fs.length ∧ base ≤ w.heap.size) := ⟨ho, hu, hn, hm, hbase⟩
  have hnc : n ≤ c ∧ c ≤ 9223372036854775807 := by
    rcases ho.2 with ⟨e, h0⟩ | ⟨g, cap, cur, e, _, _, h1, h2, _⟩
    · cases e; exact ⟨by omega, by omega⟩
    · cases e; simp only [maxLen] at h2; omega
  have hin : (i : Int) ≤ (n : Int) := by omega
  have hinc : (n : Int) ≤ (c : Int) := by omega
  have hic : (i : Int) ≤ (c : Int) := by omega
  have hm0' : ((m : Int) == 0) = false := by rw [beq_eq_false_iff_ne]; omega
  have hm0'' : ¬ (m : Int) = 0 := by omega
  obtain rfl := hin2
  have He : Hid (es.take i ++ fs ++ es.drop i = es ++ fs) := by
    show _ = _
    rw [hn, List.take_of_length_le (Nat.le_refl _), List.drop_eq_nil_of_le (Nat.le_refl _), List.append_nil]
  have Hr2 : Hid (RE w w.heap.size A2 fs) := by
    obtain ⟨A', c', e, _, _, hr, _⟩ := hu.rd
    cases e
    exact hr
  have hl2 : Hid (es.length + fs.length ≤ 1099511627776) := by show _ ≤ _; omega
  clear ho hu hm hn hne hbase hl hm0
  by_cases hci : c = i
  all_goals
    go_enter Try.func57, Try.ntmps57
    go_wp2_with (at_builtin; refine app_elisions rfl (.tmp 23) (.tmp 24) rfl rfl H0.out.1 m uc rfl H0.out.2.2.2.1 Hr2.out hl2.out H0.out.2.2.2.2 ?_; intro v6 w6 r6 g6 _; have H6 : Hid (OwnE w6 base v6 (es.take i ++ fs ++ es.drop i) ∧ Kept (fun k => (Value.slice A i c).ownBlock ≠ some k) w w6) := ⟨by rw [He.out]; exact r6, (Kept.refl _ _).grown g6 fun g hg q => q hg⟩; clear r6 g6)
    go_ret
    exact ⟨_, rfl, H6.out⟩
end
end Go.Proofs.Ytghcfmkmndldoaa
