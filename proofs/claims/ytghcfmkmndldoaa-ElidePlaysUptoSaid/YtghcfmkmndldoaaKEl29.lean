/-
  copy, clear and append on a row of elisions, as operations of a walk; slices.Insert.
-/
import Derived.Test.YtghcfmkmndldoaaEl28
import Derived.Lib.Overlaps
namespace Go.Proofs.Ytghcfmkmndldoaa
open Go.RowKit Go.Sort Go.Lib

section
variable {w w' : World} {g c n base : Nat} {L : List Value} {es fs : List Ec} {A : Option Addr} {B : Nat}
theorem cells_drop (i : Nat) (es : List Ec) (hi : i ≤ es.length) : cellsE (es.drop i) = (cellsE es).drop (i * 3) := by
  have e1 : cellsE es = cellsE (es.take i) ++ cellsE (es.drop i) := by rw [← cellsE_append, List.take_append_drop]
  have e3 : (cellsE (es.take i)).length = i * 3 := by rw [cellsE_length, List.length_take, Nat.min_eq_left hi]
  rw [e1, ← e3, List.drop_left]
theorem cells_take (i : Nat) (es : List Ec) (hi : i ≤ es.length) : cellsE (es.take i) = (cellsE es).take (i * 3) := by
  have e1 : cellsE es = cellsE (es.take i) ++ cellsE (es.drop i) := by rw [← cellsE_append, List.take_append_drop]
  have e3 : (cellsE (es.take i)).length = i * 3 := by rw [cellsE_length, List.length_take, Nat.min_eq_left hi]
  rw [e1, ← e3, List.take_left]
/-- a row read from its place i on -/
theorem RowAt.from_ (h : RowAt w g c L) (ht : L.take (n * 3) = cellsE es) (hn : n = es.length) (i : Nat) (hi : i ≤ n) : ∀ j v, (cellsE (es.drop i))[j]? = some v → w.cell? ((⟨g, i * 3, none⟩ : Addr).add j) = some v := fun j v hj => by
  rw [cells_drop i es (by omega), List.getElem?_drop, ← ht, List.getElem?_take] at hj
  split at hj
  · rw [Addr.add_lit]
    exact h.cell hj
  · cases hj
theorem wp_copy_row {ops : Array Oper} {rest : List Oper} {o : Oper} {a : Act} {Q : Exit → Act → World → Prop} (hgd : o.guard = none) (d s : Operand)
    (ho : o.op = .call { callee := .builtin .copy, args := #[d, s], argTypes := #[22, 22] }) {dp sp : Option Addr} {dl dc sl sc : Nat} (hd : a.eval d = .slice dp dl dc) (hs : a.eval s = .slice sp sl sc)
    (hr : RowAt w g c L) (i : Nat) (cs : List Value) (hn : cs.length = Nat.min sl dl * 3) (hpos : 0 < cs.length → ∃ ad, sp = some ad ∧ ∀ j v, cs[j]? = some v → w.cell? (ad.add j) = some v)
    (hdp : 0 < cs.length → dp = some ⟨g, i * 3, none⟩) (hfit : i * 3 + cs.length ≤ L.length) (h1 : ∀ v ∈ cs, v.oneCell' = true)
    (h : ∀ w', Hid (RowAt w' g c (splice L (i * 3) cs)) → Hid (Kept (fun k => k ≠ g) w w') → wpList Try.prog ops Q rest (a.put o.dst (goInt (Nat.min sl dl))) w') : wpList Try.prog ops Q (o :: rest) a w := by
  refine wpList_plain hgd fun K hK => ?_
  obtain ⟨w', hrun, h2, h3⟩ := copy_row_run o.type hr i dl dc sp sl sc cs hn hpos dp hdp hfit h1
  unfold Oper.wp execOp
  simp only [ho, resolve, invoke, builtin, Sem.run_bind, Sem.run_pure, Result.andThen_ok, List.map_toArray, List.map_cons, List.map_nil, hd, hs]
  rw [show (Builtin.copy_ #[22, 22] o.type #[.slice dp dl dc, .slice sp sl sc]).run Try.prog w = .ok (goInt (Nat.min sl dl)) w' from hrun]
  exact hK _ _ (h w' h2 h3)
theorem step_copy_row {ops : Array Oper} {K : Act → World → Prop} {E : Prop} {o : Oper} {a : Act} {Q : Exit → Act → World → Prop} (hgd : o.guard = none) (d s : Operand)
    (ho : o.op = .call { callee := .builtin .copy, args := #[d, s], argTypes := #[22, 22] }) {dp sp : Option Addr} {dl dc sl sc : Nat} (hd : a.eval d = .slice dp dl dc) (hs : a.eval s = .slice sp sl sc)
    (hr : RowAt w g c L) (i : Nat) (cs : List Value) (hn : cs.length = Nat.min sl dl * 3) (hpos : 0 < cs.length → ∃ ad, sp = some ad ∧ ∀ j v, cs[j]? = some v → w.cell? (ad.add j) = some v)
    (hdp : 0 < cs.length → dp = some ⟨g, i * 3, none⟩) (hfit : i * 3 + cs.length ≤ L.length) (h1 : ∀ v ∈ cs, v.oneCell' = true)
    (h : ∀ w', Hid (RowAt w' g c (splice L (i * 3) cs)) → Hid (Kept (fun k => k ≠ g) w w') → K (a.put o.dst (goInt (Nat.min sl dl))) w') :
    if Region.wanted o (yielded ops a.tmps) = true then Oper.wp Try.prog o a w K Q else E := by
  have hw : Region.wanted o (yielded ops a.tmps) = true := by simp [Region.wanted, hgd]
  rw [if_pos hw]
  obtain ⟨w', hrun, h2, h3⟩ := copy_row_run o.type hr i dl dc sp sl sc cs hn hpos dp hdp hfit h1
  unfold Oper.wp execOp
  simp only [ho, resolve, invoke, builtin, Sem.run_bind, Sem.run_pure, Result.andThen_ok, List.map_toArray, List.map_cons, List.map_nil, hd, hs]
  rw [show (Builtin.copy_ #[22, 22] o.type #[.slice dp dl dc, .slice sp sl sc]).run Try.prog w = .ok (goInt (Nat.min sl dl)) w' from hrun]
  exact h w' h2 h3
theorem wp_clear_row {ops : Array Oper} {rest : List Oper} {o : Oper} {a : Act} {Q : Exit → Act → World → Prop} (hgd : o.guard = none) (d : Operand)
    (ho : o.op = .call { callee := .builtin .clear, args := #[d], argTypes := #[22] }) {dp : Option Addr} {k kc : Nat} (hd : a.eval d = .slice dp k kc)
    (hr : RowAt w g c L) (i : Nat) (hfit : i + k ≤ c) (hdp : 0 < k → dp = some ⟨g, i * 3, none⟩)
    (h : ∀ v w' Z, Hid (RowAt w' g c (splice L (i * 3) Z) ∧ Z.length = k * 3) → Hid (Kept (fun k => k ≠ g) w w') → wpList Try.prog ops Q rest (a.put o.dst v) w') : wpList Try.prog ops Q (o :: rest) a w := by
  refine wpList_plain hgd fun K hK => ?_
  obtain ⟨v, w', Z, hrun, h2, h4, h3⟩ := clear_row_run o.type hr i k kc hfit dp hdp
  unfold Oper.wp execOp
  simp only [ho, resolve, invoke, builtin, Sem.run_bind, Sem.run_pure, Result.andThen_ok, List.map_toArray, List.map_cons, List.map_nil, hd]
  rw [show (Builtin.clear_ #[22] o.type #[.slice dp k kc]).run Try.prog w = .ok v w' from hrun]
  exact hK _ _ (h v w' Z ⟨h2, h4⟩ h3)
theorem wp_grow_row {ops : Array Oper} {rest : List Oper} {o : Oper} {a : Act} {Q : Exit → Act → World → Prop} (hgd : o.guard = none) (s x : Operand)
    (ho : o.op = .call { callee := .builtin .append, args := #[s, x], argTypes := #[22, 3] }) (i k : Nat) (hs : a.eval s = .slice (some ⟨g, 0, none⟩) i c) {z : Int} (hx : a.eval x = .int .i64 z) (hz : z = (k : Int))
    (hr : RowAt w g c L) (ht : L.take (n * 3) = cellsE es) (hn : n = es.length) (hin : i ≤ n) (h0 : 0 < k) (hg : c < i + k) (hbig : i + k ≤ 1099511627776)
    (h : ∀ c' L' w', Hid (RowAt w' w.heap.size c' L' ∧ L'.take (i * 3) = cellsE (es.take i) ∧ i + k ≤ c' ∧ c' ≤ maxLen) → Hid (Below w.heap.size w w') → wpList Try.prog ops Q rest (a.put o.dst (.slice (some ⟨w.heap.size, 0, none⟩) (i + k) c')) w') : wpList Try.prog ops Q (o :: rest) a w := by
  subst hz
  refine wpList_plain hgd fun K hK => ?_
  obtain ⟨c', L', hrun, h2, h3, h4, h5⟩ := grow_row_run o.type hr ht hn i k hin h0 hg hbig
  unfold Oper.wp execOp
  simp only [ho, resolve, invoke, builtin, Sem.run_bind, Sem.run_pure, Result.andThen_ok, List.map_toArray, List.map_cons, List.map_nil, hs, hx]
  rw [show (Builtin.append_ #[22, 3] o.type #[.slice (some ⟨g, 0, none⟩) i c, .int .i64 (k : Int)]).run Try.prog w = .ok _ _ from hrun]
  exact hK _ _ (h c' L' _ ⟨h2, h3, h4, h5⟩ (((Below.refl _ _).drew).alloc (Nat.le_refl _) _))
end
end Go.Proofs.Ytghcfmkmndldoaa

/-
  slices.Insert at elisions.
-/
namespace Go.Proofs.Ytghcfmkmndldoaa
open Go.RowKit Go.Sort Go.Lib

/-- a value of the block that was given, or of one that is new -/
def NewOr (w : World) (o : Option Nat) (v' : Value) : Prop := v'.ownBlock = o ∨ ∀ b, v'.ownBlock = some b → w.heap.size ≤ b
theorem oneDrop (i : Nat) (es : List Ec) : ∀ u ∈ cellsE (es.drop i), u.oneCell' = true := oneE _
/-- overlaps of two rows of the call's own: no -/
theorem overlaps_any {w : World} {g g2 c c2 : Nat} {L L2 : List Value} (h : RowAt w g c L) (h2 : RowAt w g2 c2 L2) (hne : g ≠ g2) (o o2 la ca lb cb : Nat) (hc2 : 0 < c2) :
    (callFunc 58 #[.slice (some ⟨g, o, none⟩) la ca, .slice (some ⟨g2, o2, none⟩) lb cb]).run Try.prog w = .ok (.value (.bool false)) w := by
  obtain ⟨i0, hi0, hz0, hz1, hz2⟩ := info_parts info_elision
  have hsz : ∀ w, (Go.sizeOf 32).run Try.prog w = .ok 3 w := fun w => by simp [sizeOf, typeInfo, hi0, hz1]
  have hs1 : w.shape? g = some (32, L.length) := by simp [World.shape?, h.at_]
  have hs2 : w.shape? g2 = some (32, L2.length) := by simp [World.shape?, h2.at_]
  rw [run_callFunc_extern Try.func58 (by kernel_rfl) (by kernel_rfl) (e := Extern.SlicesOverlaps.overlaps #[22, 22] #[4]) (by kernel_rfl),
    Lib.run_overlaps_apart w 22 4 32 Try.underlying22 3 hsz ⟨g, o, none⟩ ⟨g2, o2, none⟩ la ca lb cb hne _ _ _ _ hs1 hs2 (by have := h2.len; omega) (by simp [World.frozen?, h.at_]) (by simp [World.frozen?, h.at_])]
  · rfl
  · kernel_rfl
theorem take_three {α : Type} (a b c d : List α) (k : Nat) (hk : k = a.length + b.length + c.length) : (a ++ (b ++ (c ++ d))).take k = a ++ b ++ c := by
  rw [← List.append_assoc, ← List.append_assoc]
  have : k = (a ++ b ++ c).length := by simp; omega
  rw [this]
  exact List.take_left
theorem row_take {L : List Value} {es : List Ec} {n i : Nat} (ht : L.take (n * 3) = cellsE es) (hn : n = es.length) (hi : i ≤ n) : L.take (i * 3) = cellsE (es.take i) := by
  rw [cells_take i es (by omega), ← ht, List.take_take, Nat.min_eq_left (by omega)]
theorem row_drop {L : List Value} {es : List Ec} {n j : Nat} (ht : L.take (n * 3) = cellsE es) (hn : n = es.length) (hj : j ≤ n) : (L.drop (j * 3)).take (cellsE (es.drop j)).length = cellsE (es.drop j) := by
  rw [cellsE_length, List.length_drop, cells_drop j es (by omega), ← ht, List.drop_take]
  congr 1
  omega
theorem RowAt.reads {w : World} {g c : Nat} {L cs : List Value} (h : RowAt w g c L) (o : Nat) (hp : (L.drop o).take cs.length = cs) : ∀ t v, cs[t]? = some v → w.cell? ((⟨g, o, none⟩ : Addr).add t) = some v := fun t v hv => by
  rw [← hp, List.getElem?_take, List.getElem?_drop] at hv
  split at hv
  · rw [Addr.add_lit]
    exact h.cell hv
  · cases hv
theorem wp_app_room {ops : Array Oper} {rest : List Oper} {o : Oper} {a : Act} {Q : Exit → Act → World → Prop} {w : World} {g c B : Nat} {L : List Value} {fs : List Ec} {A : Option Addr} (hgd : o.guard = none) (s x : Operand)
    (ho : o.op = .call { callee := .builtin .append, args := #[s, x], argTypes := #[22, 22] }) (i m uc : Nat) (hs : a.eval s = .slice (some ⟨g, 0, none⟩) i c) (hx : a.eval x = .slice A m uc)
    (hr : RowAt w g c L) (hm : m = fs.length) (hroom : i + m ≤ c) (hu : RE w B A fs)
    (h : ∀ w', Hid (RowAt w' g c (splice L (i * 3) (cellsE fs))) → Hid (Kept (fun k => k ≠ g) w w') → wpList Try.prog ops Q rest (a.put o.dst (.slice (some ⟨g, 0, none⟩) (i + m) c)) w') : wpList Try.prog ops Q (o :: rest) a w := by
  refine wpList_plain hgd fun K hK => ?_
  obtain ⟨w', hrun, h2, h3⟩ := app_row_room o.type hr i m uc hm hroom hu
  unfold Oper.wp execOp
  simp only [ho, resolve, invoke, builtin, Sem.run_bind, Sem.run_pure, Result.andThen_ok, List.map_toArray, List.map_cons, List.map_nil, hs, hx]
  rw [show (Builtin.append_ #[22, 22] o.type #[.slice (some ⟨g, 0, none⟩) i c, .slice A m uc]).run Try.prog w = .ok _ _ from hrun]
  exact hK _ _ (h w' h2 h3)
/-- the middle first, then the hind part -/
theorem lay_list {L F X : List Value} {i j k : Nat} (hF : i + F.length = j) (hX : j + X.length = k) (h : k ≤ L.length) : (splice (splice L i F) j X).take k = L.take i ++ F ++ X := by
  rw [splice_upto hX.symm (by rw [length_splice _ _ _ (by omega)]; omega), splice_upto hF.symm (by omega)]
/-- the hind part first, then the middle -/
theorem lay_list2 {L F X : List Value} {i j k : Nat} (hF : i + F.length = j) (hX : j + X.length = k) (h : k ≤ L.length) : (splice (splice L j X) i F).take k = L.take i ++ F ++ X := by
  have e1 : (splice L j X).take i = L.take i := splice_take (by omega) (by omega)
  have e2 : (splice L j X).drop j = X ++ L.drop (j + X.length) := by
    have e3 : (L.take j).length = j := by rw [List.length_take]; omega
    exact List.drop_left' e3
  have e4 : splice (splice L j X) i F = L.take i ++ (F ++ (X ++ L.drop (j + X.length))) := by
    show (splice L j X).take i ++ (F ++ (splice L j X).drop (i + F.length)) = _
    rw [e1, hF, e2]
  have e5 : (L.take i).length = i := by rw [List.length_take]; omega
  rw [e4, take_three _ _ _ _ _ (by rw [e5]; omega)]
/-- a row of es's front, fs, es's hind part -/
theorem lay_own {w : World} {g c base n m i j : Nat} {L L' : List Value} {es fs : List Ec} (hR : RowAt w g c L') (ht : L.take (i * 3) = cellsE (es.take i)) (hl : L'.take ((i + m + (n - j)) * 3) = L.take (i * 3) ++ cellsE fs ++ cellsE (es.drop j)) (hn : n = es.length) (hm : m = fs.length) (hi : i ≤ j) (hj : j ≤ n) (hb : base ≤ g) (hfit : i + m + (n - j) ≤ c) (hc : c ≤ maxLen) :
    OwnE w base (.slice (some ⟨g, 0, none⟩) (i + m + (n - j)) c) (es.take i ++ fs ++ es.drop j) := by
  have e : (es.take i ++ fs ++ es.drop j).length = i + m + (n - j) := by simp only [List.length_append, List.length_take, List.length_drop]; omega
  rw [← e]
  refine OwnE.of_row hR ?_ hb (by omega) hc
  rw [e, hl, ht, cellsE_append, cellsE_append]
/-- TWO ROWS of the call's own, side by side: es, and what is to be laid into it -/
structure TwoR (w : World) (base g g2 n m c uc : Nat) (L L2 : List Value) (es fs : List Ec) : Prop where
  r : RowAt w g c L
  t : L.take (n * 3) = cellsE es
  r2 : RowAt w g2 uc L2
  t2 : L2.take (m * 3) = cellsE fs
  hn : n = es.length
  hm : m = fs.length
  ne : g ≠ g2
  ge : base ≤ g
  hc : c ≤ maxLen
  nc : n ≤ c
  uc : m ≤ uc
  m0 : 0 < m
  big : n + m ≤ 1000000000000
  hb : base ≤ w.heap.size
section
variable {w w' : World} {base g g2 n m c uc i j : Nat} {L L2 : List Value} {es fs : List Ec}
theorem TwoR.drew (T : TwoR w base g g2 n m c uc L L2 es fs) : TwoR w.drew base g g2 n m c uc L L2 es fs := ⟨⟨T.r.at_, T.r.len⟩, T.t, ⟨T.r2.at_, T.r2.len⟩, T.t2, T.hn, T.hm, T.ne, T.ge, T.hc, T.nc, T.uc, T.m0, T.big, T.hb⟩
theorem TwoR.drewN (T : TwoR w base g g2 n m c uc L L2 es fs) (k : Nat) : TwoR (w.drewN k) base g g2 n m c uc L L2 es fs := ⟨⟨T.r.at_, T.r.len⟩, T.t, ⟨T.r2.at_, T.r2.len⟩, T.t2, T.hn, T.hm, T.ne, T.ge, T.hc, T.nc, T.uc, T.m0, T.big, T.hb⟩
/-- fs, read -/
theorem TwoR.rd2 (T : TwoR w base g g2 n m c uc L L2 es fs) : RE w w.heap.size (some ⟨g2, 0, none⟩) fs := fun k p hk => by
  obtain ⟨c0, c1, c2⟩ := cellsE_get fs k p hk
  have e : ∀ t v, (cellsE fs)[t]? = some v → w.cell? ⟨g2, t, none⟩ = some v := fun t v hv => by
    rw [← T.t2, List.getElem?_take] at hv
    split at hv
    · exact T.r2.cell hv
    · cases hv
  exact ⟨g2, 0, rfl, T.r2.lt, by rw [Nat.zero_add]; exact e _ _ c0, by rw [Nat.zero_add]; exact e _ _ c1, by rw [Nat.zero_add]; exact e _ _ c2⟩
theorem TwoR.src (T : TwoR w base g g2 n m c uc L L2 es fs) (hk : w'.heap[g2]? = w.heap[g2]?) : ∀ t v, (cellsE fs)[t]? = some v → w'.cell? ((⟨g2, 0, none⟩ : Addr).add t) = some v := by
  refine (T.r2.move hk).reads 0 ?_
  rw [List.drop_zero, cellsE_length, ← T.hm, T.t2]
theorem TwoR.own (T : TwoR w base g g2 n m c uc L L2 es fs) (hi : i ≤ n) : OwnE w base (.slice (some ⟨g, 0, none⟩) i c) (es.take i) := by
  have e : (es.take i).length = i := by rw [List.length_take, ← T.hn]; exact Nat.min_eq_left hi
  have := OwnE.of_row (es := es.take i) T.r (by rw [e]; exact row_take T.t T.hn hi) T.ge (by rw [e]; have := T.nc; omega) T.hc
  rwa [e] at this
theorem TwoR.len1 (T : TwoR w base g g2 n m c uc L L2 es fs) (j : Nat) : (cellsE (es.drop j)).length = (n - j) * 3 := by rw [cellsE_length, List.length_drop, T.hn]
theorem TwoR.len2 (T : TwoR w base g g2 n m c uc L L2 es fs) : (cellsE fs).length = m * 3 := by rw [cellsE_length, T.hm]
theorem TwoR.lenL (T : TwoR w base g g2 n m c uc L L2 es fs) : L.length = c * 3 := T.r.len
end
section
set_option maxRecDepth 100000
set_option maxHeartbeats 8000000
theorem insert_zero (base base2 : Nat) (A A2 : Option Addr) (n i c m uc : Nat) (es fs : List Ec) (w : World) (ho : OwnE w base (.slice A n c) es) (hn : n = es.length) (hi : i ≤ n) (hu : OwnE w base2 (.slice A2 m uc) fs) (hm : m = fs.length)
    (hne : ∀ b, (Value.slice A n c).ownBlock = some b → (Value.slice A2 m uc).ownBlock ≠ some b) (hbase : base ≤ w.heap.size) (hl : n + m ≤ 1000000000000) (hm0 : m = 0) :
    Calls Try.prog 57 #[.slice A n c, .int .i64 (i : Int), .slice A2 m uc] w fun r w' => ∃ v', r = .returned v' ∧ OwnE w' base v' (es.take i ++ fs ++ es.drop i) ∧ Kept (fun k => (Value.slice A n c).ownBlock ≠ some k) w w' := by
  have H0 : Hid (OwnE w base (.slice A n c) es ∧ OwnE w base2 (.slice A2 m uc) fs ∧ n = es.length ∧ m = fs.length ∧ base ≤ w.heap.size) := ⟨ho, hu, hn, hm, hbase⟩
  have hnc : n ≤ c ∧ c ≤ 9223372036854775807 := by
    rcases ho.2 with ⟨e, h0⟩ | ⟨g, cap, cur, e, _, _, h1, h2, _⟩
    · cases e; exact ⟨by omega, by omega⟩
    · cases e; simp only [maxLen] at h2; omega
  have hin : (i : Int) ≤ (n : Int) := by omega
  have hinc : (n : Int) ≤ (c : Int) := by omega
  have hic : (i : Int) ≤ (c : Int) := by omega
  have hm0' : ((m : Int) == 0) = true := by simp [hm0]
  have hm0'' : (m : Int) = 0 := by omega
  have He : Hid (es.take i ++ fs ++ es.drop i = es) := by
    show _ = _
    have : fs = [] := List.eq_nil_of_length_eq_zero (by omega)
    rw [this, List.append_nil, List.take_append_drop]
  clear ho hu hm hn hne hbase hl hm0
  by_cases hci : c = i
  · have hci' : (c : Int) = (i : Int) := by omega
    go_enter Try.func57, Try.ntmps57
    go_wp2_with fail
    go_ret
    exact ⟨_, rfl, by rw [He.out]; exact H0.out.1, Kept.refl _ _⟩
  · go_enter Try.func57, Try.ntmps57
    go_wp2_with fail
    go_ret
    exact ⟨_, rfl, by rw [He.out]; exact H0.out.1, Kept.refl _ _⟩
theorem insert_end (base base2 : Nat) (A A2 : Option Addr) (n i c m uc : Nat) (es fs : List Ec) (w : World) (ho : OwnE w base (.slice A n c) es) (hn : n = es.length) (hi : i ≤ n) (hu : OwnE w base2 (.slice A2 m uc) fs) (hm : m = fs.length)
    (hne : ∀ b, (Value.slice A n c).ownBlock = some b → (Value.slice A2 m uc).ownBlock ≠ some b) (hbase : base ≤ w.heap.size) (hl : n + m ≤ 1000000000000) (hm0 : ¬ m = 0) (hin2 : i = n) :
    Calls Try.prog 57 #[.slice A n c, .int .i64 (i : Int), .slice A2 m uc] w fun r w' => ∃ v', r = .returned v' ∧ OwnE w' base v' (es.take i ++ fs ++ es.drop i) ∧ Kept (fun k => (Value.slice A n c).ownBlock ≠ some k) w w' ∧ NewOr w (Value.slice A n c).ownBlock v' := by
  have H0 : Hid (OwnE w base (.slice A n c) es ∧ OwnE w base2 (.slice A2 m uc) fs ∧ n = es.length ∧ m = fs.length ∧ base ≤ w.heap.size) := ⟨ho, hu, hn, hm, hbase⟩
  have hnc : n ≤ c ∧ c ≤ 9223372036854775807 := by
    rcases ho.2 with ⟨e, h0⟩ | ⟨g, cap, cur, e, _, _, h1, h2, _⟩
    · cases e; exact ⟨by omega, by omega⟩
    · cases e; simp only [maxLen] at h2; omega
  have hin : (i : Int) ≤ (n : Int) := by omega
  have hinc : (n : Int) ≤ (c : Int) := by omega
  have hic : (i : Int) ≤ (c : Int) := by omega
  have hm0' : ((m : Int) == 0) = false := by rw [beq_eq_false_iff_ne]; omega
  have hm0'' : ¬ (m : Int) = 0 := by omega
  obtain rfl := hin2
  have He : Hid (es.take i ++ fs ++ es.drop i = es ++ fs) := by
    show _ = _
    rw [hn, List.take_of_length_le (Nat.le_refl _), List.drop_eq_nil_of_le (Nat.le_refl _), List.append_nil]
  have Hr2 : Hid (RE w w.heap.size A2 fs) := by
    obtain ⟨A', c', e, _, _, hr, _⟩ := hu.rd
    cases e
    exact hr
  have hl2 : Hid (es.length + fs.length ≤ 1099511627776) := by show _ ≤ _; omega
  clear ho hu hm hn hne hbase hl hm0
  by_cases hci : c = i
  all_goals
    go_enter Try.func57, Try.ntmps57
    go_wp2_with (at_builtin; refine app_elisions rfl (.tmp 23) (.tmp 24) rfl rfl H0.out.1 m uc rfl H0.out.2.2.2.1 Hr2.out hl2.out H0.out.2.2.2.2 ?_; intro v6 w6 r6 g6 o6; have H6 : Hid (OwnE w6 base v6 (es.take i ++ fs ++ es.drop i) ∧ Kept (fun k => (Value.slice A i c).ownBlock ≠ some k) w w6 ∧ NewOr w (Value.slice A i c).ownBlock v6) := ⟨by rw [He.out]; exact r6, (Kept.refl _ _).grown g6 fun g hg q => q hg, o6.imp id fun q b hb => by rw [q] at hb; cases hb; exact Nat.le_refl _⟩; clear r6 g6 o6)
    go_ret
    exact ⟨_, rfl, H6.out⟩
end
end Go.Proofs.Ytghcfmkmndldoaa

/-
  slices.Insert at elisions: amid, where there is room.
-/
namespace Go.Proofs.Ytghcfmkmndldoaa
open Go.RowKit Go.Sort Go.Lib

section
variable {w : World} {base g g2 n m c uc : Nat} {L L2 : List Value} {es fs : List Ec}
set_option maxRecDepth 100000
set_option maxHeartbeats 8000000
theorem ins_room (i : Nat) (T : TwoR w base g g2 n m c uc L L2 es fs) (hi : i < n) (hroom : n + m ≤ c) :
    Calls Try.prog 57 #[.slice (some ⟨g, 0, none⟩) n c, .int .i64 (i : Int), .slice (some ⟨g2, 0, none⟩) m uc] w fun r w' => ∃ v', r = .returned v' ∧ OwnE w' base v' (es.take i ++ fs ++ es.drop i) ∧ Kept (fun k => k ≠ g) w w' ∧ NewOr w (some g) v' := by
  have hov : ∀ o lb cb, (callFunc 58 #[.slice (some ⟨g2, 0, none⟩) m uc, .slice (some ⟨g, o, none⟩) lb cb]).run Try.prog w = .ok (.value (.bool false)) w := fun o lb cb => overlaps_any T.r2 T.r (Ne.symm T.ne) 0 o m uc lb cb (by have := T.m0; omega)
  have Hx := Lib.hid T
  have h1 := T.m0
  have h2 := T.big
  have h3 := T.hc
  have h4 := T.nc
  have h5 := T.uc
  simp only [maxLen] at h3
  have hn9 : (n : Int) ≤ 1000000000000 := by omega
  have hnc : (n : Int) ≤ (c : Int) := by omega
  have hm0' : ((m : Int) == 0) = false := by rw [beq_eq_false_iff_ne]; omega
  have hm0'' : ¬ (m : Int) = 0 := by omega
  have hci : ¬ c = i := by omega
  have hic : (i : Int) ≤ (c : Int) := by omega
  have hin1 : (i : Int) ≤ (n : Int) := by omega
  have hlt : (i : Int) < (n : Int) := by omega
  have hin3 : ¬ (i : Int) = (n : Int) := by omega
  have hin4 : ((i : Int) == (n : Int)) = false := by rw [beq_eq_false_iff_ne]; omega
  have hroom' : ¬ (n : Int) + (m : Int) > (c : Int) := by omega
  have hroom2 : (n : Int) + (m : Int) ≤ (c : Int) := by omega
  have hw1 : IntKind.i64.wrap ((n : Int) + (m : Int)) = (n : Int) + (m : Int) := by rw [IntKind.wrap_i64]; omega
  have hw2 : IntKind.i64.wrap ((i : Int) + (m : Int)) = (i : Int) + (m : Int) := by rw [IntKind.wrap_i64]; omega
  have ht1 : ((i : Int) + (m : Int)).toNat = i + m := by omega
  have ht2 : ((n : Int) + (m : Int)).toNat = n + m := by omega
  have hb0 : (0 : Int) ≤ (i : Int) + (m : Int) := by omega
  have hb1 : (0 : Int) ≤ (n : Int) + (m : Int) := by omega
  have hb2 : ¬ (c = i + m) := by omega
  have hb3 : (i : Int) ≤ (n : Int) + (m : Int) := by omega
  have hb4 : (i : Int) + (m : Int) ≤ (n : Int) + (m : Int) := by omega
  have hgl2 := Lib.hid T.r2.lt
  generalize hr9 : es.take i ++ fs ++ es.drop i = res at *
  clear h1 h2 h3 h4 h5 T
  go_enter Try.func57, Try.ntmps57
  go_wp2_with (simp only [hov])
  go_still_tail 8, (by kernel_rfl)
  change wpList _ _ _ _ _ w.drew
  go_wp2_with fail
  obtain ⟨w2, hrun, h2, k2⟩ := copy_row_run 3 (w := w.drew) ⟨Hx.out.r.at_, Hx.out.r.len⟩ (i + m) (n + m - (i + m)) (c - (i + m)) (some ⟨g, i * 3, none⟩) (n + m - i) (c - i) (cellsE (es.drop i)) (by rw [Hx.out.len1]; show _ = min _ _ * 3; omega) (fun _ => ⟨_, rfl, RowAt.reads (w := w.drew) ⟨Hx.out.r.at_, Hx.out.r.len⟩ (i * 3) (row_drop Hx.out.t Hx.out.hn (by omega))⟩) (some ⟨g, (i + m) * 3, none⟩) (fun _ => rfl) (by rw [Hx.out.len1, Hx.out.lenL]; omega) (oneDrop i es)
  rw [hrun]
  have H2 : Hid (RowAt w2 g c (splice L ((i + m) * 3) (cellsE (es.drop i))) ∧ Kept (fun k => k ≠ g) w w2) := ⟨h2, ((Kept.refl _ _).below ((Below.refl _ _).drew)).trans k2⟩
  clear hrun h2 k2
  go_wp2_with fail
  obtain ⟨w3, hrun, h3, k3⟩ := copy_row_run 3 H2.out.1 i (n + m - i) (c - i) (some ⟨g2, 0, none⟩) m uc (cellsE fs) (by rw [Hx.out.len2]; show _ = min _ _ * 3; omega) (fun _ => ⟨_, rfl, Hx.out.src (H2.out.2.block g2 hgl2.out (Ne.symm Hx.out.ne))⟩) (some ⟨g, i * 3, none⟩) (fun _ => rfl) (by rw [Hx.out.len2, H2.out.1.len]; omega) (oneE fs)
  rw [hrun]
  have H3 : Hid (OwnE w3 base (.slice (some ⟨g, 0, none⟩) (n + m) c) res ∧ Kept (fun k => k ≠ g) w w3) := by
    refine ⟨?_, H2.out.2.trans k3⟩
    have q1 := Hx.out.len2
    have q2 := Hx.out.len1 i
    have q3 := Hx.out.lenL
    have := lay_own (n := n) (j := i) (i := i) (m := m) (fs := fs) (base := base) h3 (row_take Hx.out.t Hx.out.hn (by omega)) (lay_list2 (by omega) (by omega) (by omega)) Hx.out.hn Hx.out.hm (Nat.le_refl _) (by omega) Hx.out.ge (by omega) Hx.out.hc
    rw [hr9, show i + m + (n - i) = n + m by omega] at this
    exact this
  clear hrun h3 k3
  go_wp2_with fail
  go_ret
  exact ⟨_, rfl, H3.out.1, H3.out.2, .inl rfl⟩
end
end Go.Proofs.Ytghcfmkmndldoaa

/-
  slices.Insert at elisions: amid, where there is no room.
-/
namespace Go.Proofs.Ytghcfmkmndldoaa
open Go.RowKit Go.Sort Go.Lib

section
variable {w : World} {base g g2 n m c uc : Nat} {L L2 : List Value} {es fs : List Ec}
set_option maxRecDepth 100000
set_option maxHeartbeats 8000000
theorem ins_grow (i : Nat) (T : TwoR w base g g2 n m c uc L L2 es fs) (hi : i < n) (hroom : c < n + m) :
    Calls Try.prog 57 #[.slice (some ⟨g, 0, none⟩) n c, .int .i64 (i : Int), .slice (some ⟨g2, 0, none⟩) m uc] w fun r w' => ∃ v', r = .returned v' ∧ OwnE w' base v' (es.take i ++ fs ++ es.drop i) ∧ Kept (fun k => k ≠ g) w w' ∧ NewOr w (some g) v' := by
  have Hx := Lib.hid T
  have h1 := T.m0
  have h2 := T.big
  have h3 := T.hc
  have h4 := T.nc
  have h5 := T.uc
  simp only [maxLen] at h3
  have hn9 : (n : Int) ≤ 1000000000000 := by omega
  have hnc : (n : Int) ≤ (c : Int) := by omega
  have hm0' : ((m : Int) == 0) = false := by rw [beq_eq_false_iff_ne]; omega
  have hm0'' : ¬ (m : Int) = 0 := by omega
  have hci : ¬ c = i := by omega
  have hic : (i : Int) ≤ (c : Int) := by omega
  have hin1 : (i : Int) ≤ (n : Int) := by omega
  have hlt : (i : Int) < (n : Int) := by omega
  have hin3 : ¬ (i : Int) = (n : Int) := by omega
  have hin4 : ((i : Int) == (n : Int)) = false := by rw [beq_eq_false_iff_ne]; omega
  have hroom2 : (n : Int) + (m : Int) > (c : Int) := by omega
  obtain ⟨k, hk⟩ : ∃ k, n + m = i + k := ⟨n + m - i, by omega⟩
  have hk0 : 0 < k := by omega
  have hw1 : IntKind.i64.wrap ((n : Int) + (m : Int)) = (n : Int) + (m : Int) := by rw [IntKind.wrap_i64]; omega
  have hw2 : IntKind.i64.wrap ((i : Int) + (m : Int)) = (i : Int) + (m : Int) := by rw [IntKind.wrap_i64]; omega
  have hw3 : IntKind.i64.wrap ((n : Int) + (m : Int) - (i : Int)) = (k : Int) := by rw [IntKind.wrap_i64]; omega
  have ht1 : ((i : Int) + (m : Int)).toNat = i + m := by omega
  have hb0 : (0 : Int) ≤ (i : Int) + (m : Int) := by omega
  have hroom3 : (c : Int) < (n : Int) + (m : Int) := by omega
  have hroom4 : ¬ (n : Int) + (m : Int) ≤ (c : Int) := by omega
  have hH := Lib.hid h2
  have hgl := Lib.hid T.r.lt
  have hgl2 := Lib.hid T.r2.lt
  generalize hr9 : es.take i ++ fs ++ es.drop i = res at *
  clear h1 h2 h3 h4 h5 T
  go_enter Try.func57, Try.ntmps57
  go_wp2_with (at_builtin; refine wp_grow_row rfl (.tmp 34) (.tmp 39) rfl i k rfl rfl (by first | rfl | omega) Hx.out.r Hx.out.t Hx.out.hn (by omega) hk0 (by omega) (by have := hH.out; omega) ?_; intro c' L' w9 h9 k9; have e1 : ¬ c' = i := (by have := h9.out.2.2.1; omega); have e2 : ¬ c' = i + m := (by have := h9.out.2.2.1; omega); have e3 : (i : Int) ≤ (c' : Int) := (by have := h9.out.2.2.1; omega); have e4 : (i : Int) + (m : Int) ≤ (c' : Int) := (by have := h9.out.2.2.1; omega); have e5 : (i : Int) ≤ (i : Int) + (k : Int) := (by omega); have e6 : (m : Int) ≤ (k : Int) := (by omega); have e7 : m ≤ k := (by omega))
  obtain ⟨w10, hrun, h10, k10⟩ := copy_row_run 3 h9.out.1 i k (c' - i) (some ⟨g2, 0, none⟩) m uc (cellsE fs) (by rw [Hx.out.len2]; show _ = min _ _ * 3; omega) (fun _ => ⟨_, rfl, Hx.out.src (k9.out.block g2 hgl2.out)⟩) (some ⟨w.heap.size, i * 3, none⟩) (fun _ => rfl) (by rw [Hx.out.len2, h9.out.1.len]; have := h9.out.2.2.1; omega) (oneE fs)
  rw [hrun]
  have H10 : Hid (RowAt w10 w.heap.size c' (splice L' (i * 3) (cellsE fs)) ∧ Below w.heap.size w w10) := ⟨h10, k9.out.trans (k10.to_below (fun b hb => by omega) k9.out.size)⟩
  clear hrun h10 k10
  go_wp2_with fail
  go_still_tail 8, (by kernel_rfl)
  change wpList _ _ _ _ _ w10.drew
  go_wp2_with fail
  obtain ⟨w11, hrun, h11, k11⟩ := copy_row_run 3 (w := w10.drew) ⟨H10.out.1.at_, H10.out.1.len⟩ (i + m) (i + k - (i + m)) (c' - (i + m)) (some ⟨g, i * 3, none⟩) (n - i) (c - i) (cellsE (es.drop i)) (by rw [Hx.out.len1]; show _ = min _ _ * 3; omega) (fun _ => ⟨_, rfl, RowAt.reads (w := w10.drew) ⟨(H10.out.2.block g hgl.out).trans Hx.out.r.at_, Hx.out.r.len⟩ (i * 3) (row_drop Hx.out.t Hx.out.hn (by omega))⟩) (some ⟨w.heap.size, (i + m) * 3, none⟩) (fun _ => rfl) (by rw [Hx.out.len1, H10.out.1.len]; have := h9.out.2.2.1; omega) (oneDrop i es)
  rw [hrun]
  have H11 : Hid (OwnE w11 base (.slice (some ⟨w.heap.size, 0, none⟩) (i + k) c') res ∧ Kept (fun k => k ≠ g) w w11) := by
    refine ⟨?_, (Kept.refl _ _).below ((H10.out.2.drew).trans (k11.to_below (fun b hb => by omega) (by have := H10.out.2.size; simpa using this)))⟩
    have q1 := Hx.out.len2
    have q2 := Hx.out.len1 i
    have q3 := h9.out.1.len
    have q4 := h9.out.2.2.1
    have := lay_own (n := n) (j := i) (i := i) (m := m) (fs := fs) (base := base) h11 h9.out.2.1 (lay_list (by omega) (by omega) (by omega)) Hx.out.hn Hx.out.hm (Nat.le_refl _) (by omega) Hx.out.hb (by omega) h9.out.2.2.2
    rw [hr9, show i + m + (n - i) = i + k by omega] at this
    exact this
  clear hrun h11 k11
  go_wp2_with fail
  go_ret
  exact ⟨_, rfl, H11.out.1, H11.out.2, .inr fun b hb => by cases hb; exact Nat.le_refl _⟩
end
end Go.Proofs.Ytghcfmkmndldoaa

/-
  slices.Replace at elisions: up to the list's end.
-/
namespace Go.Proofs.Ytghcfmkmndldoaa
open Go.RowKit Go.Sort Go.Lib

section
variable {w : World} {base g g2 n m c uc : Nat} {L L2 : List Value} {es fs : List Ec}
set_option maxRecDepth 100000
set_option maxHeartbeats 8000000
theorem rep_end1 (i : Nat) (T : TwoR w base g g2 n m c uc L L2 es fs) (hi : i < n) (hx : i + m < n) :
    Calls Try.prog 37 #[.slice (some ⟨g, 0, none⟩) n c, .int .i64 (i : Int), .int .i64 (n : Int), .slice (some ⟨g2, 0, none⟩) m uc] w fun r w' => ∃ v', r = .returned v' ∧ OwnE w' base v' (es.take i ++ fs ++ es.drop n) ∧ Kept (fun k => k ≠ g) w w' ∧ NewOr w (some g) v' := by
  have Hx := Lib.hid T
  have h1 := T.m0
  have h2 := T.big
  have h3 := T.hc
  have h4 := T.nc
  have h5 := T.uc
  simp only [maxLen] at h3
  have hn9 : (n : Int) ≤ 1000000000000 := by omega
  have hnc : (n : Int) ≤ (c : Int) := by omega
  have hm0' : ((m : Int) == 0) = false := by rw [beq_eq_false_iff_ne]; omega
  have hm0'' : ¬ (m : Int) = 0 := by omega
  have hci : ¬ c = i := by omega
  have hic : (i : Int) ≤ (c : Int) := by omega
  have hin1 : (i : Int) ≤ (n : Int) := by omega
  have hin : ¬ (i : Int) = (n : Int) := by omega
  have hin' : ((i : Int) == (n : Int)) = false := by rw [beq_eq_false_iff_ne]; omega
  have hin2 : (i : Int) ≤ (n : Int) := by omega
  have hlt : (i : Int) + (m : Int) < (n : Int) := by omega
  have hci2 : ¬ c = i + m := by omega
  have HR : Hid (∀ W Z, RowAt W g c (splice (splice L (i * 3) (cellsE fs)) ((i + m) * 3) Z) → Z.length = (n - (i + m)) * 3 → OwnE W base (.slice (some ⟨g, 0, none⟩) (i + m) c) (es.take i ++ fs ++ es.drop n)) := fun W Z hW hZ => by
    have q1 := Hx.out.len2
    have q2 := Hx.out.lenL
    have := lay_own (n := n) (j := n) (i := i) (m := m) (fs := fs) (base := base) hW (row_take Hx.out.t Hx.out.hn (by omega)) (by
      rw [Nat.sub_self, Nat.add_zero, splice_take (by omega) (by rw [length_splice _ _ _ (by omega)]; omega), splice_upto (by omega) (by omega), Hx.out.hn, List.drop_eq_nil_of_le (Nat.le_refl _), show cellsE ([] : List Ec) = [] from rfl, List.append_nil]) Hx.out.hn Hx.out.hm (by omega) (Nat.le_refl _) Hx.out.ge (by omega) Hx.out.hc
    rwa [Nat.sub_self, Nat.add_zero] at this
  have hfit : Hid (i + m + (n - (i + m)) ≤ c) := by show _ ≤ _; omega
  generalize es.take i ++ fs ++ es.drop n = res at *
  clear h1 h2 h3 h4 h5 T
  go_enter Try.func37, Try.ntmps37
  go_wp2_with (at_builtin; refine wp_app_room rfl (.tmp 32) (.tmp 33) rfl i m uc rfl rfl Hx.out.r Hx.out.hm (by have := Hx.out.nc; omega) Hx.out.rd2 ?_; intro w5 h5 k5)
  obtain ⟨v7, w7, Z, hrun, h7, hZ, k7⟩ := clear_row_run 0 h5.out (i + m) (n - (i + m)) (c - (i + m)) hfit.out (some ⟨g, (i + m) * 3, none⟩) (fun _ => rfl)
  rw [hrun]
  have H7 : Hid (OwnE w7 base (.slice (some ⟨g, 0, none⟩) (i + m) c) res ∧ Kept (fun k => k ≠ g) w w7) := ⟨HR.out _ _ h7 hZ, k5.out.trans k7⟩
  clear hrun h7 hZ k7
  go_wp2_with fail
  go_ret
  exact ⟨_, rfl, H7.out.1, H7.out.2, .inl rfl⟩
theorem rep_end2 (i : Nat) (T : TwoR w base g g2 n m c uc L L2 es fs) (hi : i < n) (hx : n ≤ i + m) :
    Calls Try.prog 37 #[.slice (some ⟨g, 0, none⟩) n c, .int .i64 (i : Int), .int .i64 (n : Int), .slice (some ⟨g2, 0, none⟩) m uc] w fun r w' => ∃ v', r = .returned v' ∧ OwnE w' base v' (es.take i ++ fs ++ es.drop n) ∧ Kept (fun k => k ≠ g) w w' ∧ NewOr w (some g) v' := by
  have Hx := Lib.hid T
  have h1 := T.m0
  have h2 := T.big
  have h3 := T.hc
  have h4 := T.nc
  have h5 := T.uc
  simp only [maxLen] at h3
  have hn9 : (n : Int) ≤ 1000000000000 := by omega
  have hnc : (n : Int) ≤ (c : Int) := by omega
  have hm0' : ((m : Int) == 0) = false := by rw [beq_eq_false_iff_ne]; omega
  have hm0'' : ¬ (m : Int) = 0 := by omega
  have hci : ¬ c = i := by omega
  have hic : (i : Int) ≤ (c : Int) := by omega
  have hin1 : (i : Int) ≤ (n : Int) := by omega
  have hin : ¬ (i : Int) = (n : Int) := by omega
  have hin' : ((i : Int) == (n : Int)) = false := by rw [beq_eq_false_iff_ne]; omega
  have hin2 : (i : Int) ≤ (n : Int) := by omega
  have hlt : ¬ (i : Int) + (m : Int) < (n : Int) := by omega
  have hlen : Hid ((es.take i).length + fs.length ≤ 1099511627776 ∧ (es.take i ++ fs).length = i + m) := by
    have q1 := Hx.out.hn
    have q2 := Hx.out.hm
    constructor
    · rw [List.length_take]; omega
    · rw [List.length_append, List.length_take]; omega
  have hres : es.take i ++ fs ++ es.drop n = es.take i ++ fs := by rw [Hx.out.hn, List.drop_eq_nil_of_le (Nat.le_refl _), List.append_nil]
  rw [hres]
  generalize hr9 : es.take i ++ fs = res at *
  clear h1 h2 h3 h4 h5 T hres
  go_enter Try.func37, Try.ntmps37
  go_wp2_with (at_builtin; refine app_elisions rfl (.tmp 32) (.tmp 33) rfl rfl (Hx.out.own (i := i) (by omega)) m uc rfl Hx.out.hm Hx.out.rd2 hlen.out.1 Hx.out.hb ?_; intro v6 w6 r6 g6 o6; obtain ⟨A6, n6, e6, -⟩ := r6.rd; rw [hr9, hlen.out.2] at e6; subst e6; rw [hr9] at r6; have H6 : Hid (OwnE w6 base (.slice A6 (i + m) n6) res ∧ Kept (fun k => k ≠ g) w w6 ∧ NewOr w (some g) (.slice A6 (i + m) n6)) := ⟨r6, (Kept.refl _ _).grown g6 fun b hb q => q (by cases hb; rfl), o6.imp id fun q b hb => by rw [q] at hb; cases hb; exact Nat.le_refl _⟩; clear r6 g6 o6)
  go_ret
  exact ⟨_, rfl, H6.out⟩
end
end Go.Proofs.Ytghcfmkmndldoaa

/-
  slices.Replace at elisions: amid, where there is no room.
-/
namespace Go.Proofs.Ytghcfmkmndldoaa
open Go.RowKit Go.Sort Go.Lib

section
variable {w : World} {base g g2 n m c uc : Nat} {L L2 : List Value} {es fs : List Ec}
set_option maxRecDepth 100000
set_option maxHeartbeats 8000000
theorem rep_grow (i j : Nat) (T : TwoR w base g g2 n m c uc L L2 es fs) (hij : i < j) (hj : j < n) (hroom : c < i + m + (n - j)) :
    Calls Try.prog 37 #[.slice (some ⟨g, 0, none⟩) n c, .int .i64 (i : Int), .int .i64 (j : Int), .slice (some ⟨g2, 0, none⟩) m uc] w fun r w' => ∃ v', r = .returned v' ∧ OwnE w' base v' (es.take i ++ fs ++ es.drop j) ∧ Kept (fun k => k ≠ g) w w' ∧ NewOr w (some g) v' := by
  have H : Hid (TwoR w base g g2 n m c uc L L2 es fs ∧ ∀ nq, TwoR (w.drewN nq) base g g2 n m c uc L L2 es fs) := ⟨T, T.drewN⟩
  have Hx := Lib.hid T
  have h1 := T.m0
  have h2 := T.big
  have h3 := T.hc
  have h4 := T.nc
  have h5 := T.uc
  simp only [maxLen] at h3
  have hn9 : (n : Int) ≤ 1000000000000 := by omega
  have hnc : (n : Int) ≤ (c : Int) := by omega
  have hm0' : ((m : Int) == 0) = false := by rw [beq_eq_false_iff_ne]; omega
  have hm0'' : ¬ (m : Int) = 0 := by omega
  have hci : ¬ c = i := by omega
  have hic : (i : Int) ≤ (c : Int) := by omega
  have hin1 : (i : Int) ≤ (n : Int) := by omega
  have hij' : ¬ (i : Int) = (j : Int) := by omega
  have hij2 : ((i : Int) == (j : Int)) = false := by rw [beq_eq_false_iff_ne]; omega
  have hij3 : (i : Int) ≤ (j : Int) := by omega
  have hjn' : ¬ (j : Int) = (n : Int) := by omega
  have hjn2 : ((j : Int) == (n : Int)) = false := by rw [beq_eq_false_iff_ne]; omega
  have hjn3 : (j : Int) ≤ (n : Int) := by omega
  have hjc : (j : Int) ≤ (c : Int) := by omega
  have hcj : ¬ c = j := by omega
  have hw1 : IntKind.i64.wrap ((i : Int) + (m : Int)) = (i : Int) + (m : Int) := by rw [IntKind.wrap_i64]; omega
  have hw2 : IntKind.i64.wrap ((i : Int) + (m : Int) + ((n - j : Nat) : Int)) = (i : Int) + (m : Int) + ((n - j : Nat) : Int) := by rw [IntKind.wrap_i64]; omega
  have hw4 : IntKind.i64.wrap ((i : Int) + (m : Int) + ((n - j : Nat) : Int) - (i : Int)) = (m : Int) + ((n - j : Nat) : Int) := by rw [IntKind.wrap_i64]; omega
  have ht1 : ((i : Int) + (m : Int)).toNat = i + m := by omega
  have ht2 : ((i : Int) + (m : Int) + ((n - j : Nat) : Int)).toNat = i + m + (n - j) := by omega
  have hb0 : (0 : Int) ≤ (i : Int) + (m : Int) := by omega
  have hb1 : (0 : Int) ≤ (i : Int) + (m : Int) + ((n - j : Nat) : Int) := by omega
  have hgl := Lib.hid T.r.lt
  have hgl2 := Lib.hid T.r2.lt
  have hH := Lib.hid h2
  have hroom2 : (c : Int) < (i : Int) + (m : Int) + ((n - j : Nat) : Int) := by omega
  have hroom3 : ¬ (i : Int) + (m : Int) + ((n - j : Nat) : Int) ≤ (c : Int) := by omega
  generalize hr9 : es.take i ++ fs ++ es.drop j = res at *
  clear h1 h2 h3 h4 h5 T
  go_enter Try.func37, Try.ntmps37
  go_upto_region 9 with fail
  go_quiet (fail)
  have Hq : Hid (TwoR (w.drewN nq) base g g2 n m c uc L L2 es fs ∧ Below w.heap.size w (w.drewN nq)) := ⟨H.out.2 nq, below_dr (Below.refl _ _) nq⟩
  go_wp2_with (at_builtin; refine wp_grow_row rfl (.tmp 63) (.tmp 66) rfl i (m + (n - j)) rfl rfl (by first | rfl | omega) Hq.out.1.r Hq.out.1.t Hq.out.1.hn (by omega) (by omega) (by omega) (by have := hH.out; omega) ?_; intro c' L' w9 h9 k9; have e1 : ¬ c' = i := (by have := h9.out.2.2.1; omega); have e2 : ¬ c' = i + m := (by have := h9.out.2.2.1; omega); have e3 : (i : Int) ≤ (c' : Int) := (by have := h9.out.2.2.1; omega); have e4 : (i : Int) + (m : Int) ≤ (c' : Int) := (by have := h9.out.2.2.1; omega); have e5 : (i : Int) ≤ (i : Int) + ((m : Int) + ((n - j : Nat) : Int)) := (by omega); have e6 : (m : Int) ≤ (m : Int) + ((n - j : Nat) : Int) := (by omega))
  have H9 : Hid (RowAt w9 w.heap.size c' L' ∧ L'.take (i * 3) = cellsE (es.take i) ∧ i + (m + (n - j)) ≤ c' ∧ c' ≤ maxLen ∧ Below w.heap.size w w9) := ⟨h9.out.1, h9.out.2.1, h9.out.2.2.1, h9.out.2.2.2, Hq.out.2.trans k9.out⟩
  clear h9 k9
  obtain ⟨w10, hrun, h10, k10⟩ := copy_row_run 3 H9.out.1 i (m + (n - j)) (c' - i) (some ⟨g2, 0, none⟩) m uc (cellsE fs) (by rw [Hx.out.len2]; show _ = min _ _ * 3; omega) (fun _ => ⟨_, rfl, Hx.out.src (H9.out.2.2.2.2.block g2 hgl2.out)⟩) (some ⟨w.heap.size, i * 3, none⟩) (fun _ => rfl) (by rw [Hx.out.len2, H9.out.1.len]; have := H9.out.2.2.1; omega) (oneE fs)
  rw [hrun]
  have H10 : Hid (RowAt w10 w.heap.size c' (splice L' (i * 3) (cellsE fs)) ∧ Below w.heap.size w w10) := ⟨h10, H9.out.2.2.2.2.trans (k10.to_below (fun b hb => by omega) H9.out.2.2.2.2.size)⟩
  clear hrun h10 k10
  go_wp2_with fail
  go_still_tail 9, (by kernel_rfl)
  change wpList _ _ _ _ _ w10.drew
  go_wp2_with fail
  obtain ⟨w11, hrun, h11, k11⟩ := copy_row_run 3 (w := w10.drew) ⟨H10.out.1.at_, H10.out.1.len⟩ (i + m) (i + (m + (n - j)) - (i + m)) (c' - (i + m)) (some ⟨g, j * 3, none⟩) (n - j) (c - j) (cellsE (es.drop j)) (by rw [Hx.out.len1]; show _ = min _ _ * 3; omega) (fun _ => ⟨_, rfl, RowAt.reads (w := w10.drew) ⟨(H10.out.2.block g hgl.out).trans Hx.out.r.at_, Hx.out.r.len⟩ (j * 3) (row_drop Hx.out.t Hx.out.hn (by omega))⟩) (some ⟨w.heap.size, (i + m) * 3, none⟩) (fun _ => rfl) (by rw [Hx.out.len1, H10.out.1.len]; have := H9.out.2.2.1; omega) (oneDrop j es)
  rw [hrun]
  have H11 : Hid (OwnE w11 base (.slice (some ⟨w.heap.size, 0, none⟩) (i + (m + (n - j))) c') res ∧ Kept (fun k => k ≠ g) w w11) := by
    refine ⟨?_, (Kept.refl _ _).below ((H10.out.2.drew).trans (k11.to_below (fun b hb => by omega) (by have := H10.out.2.size; simpa using this)))⟩
    have q1 := Hx.out.len2
    have q2 := Hx.out.len1 j
    have q3 := H9.out.1.len
    have q4 := H9.out.2.2.1
    have := lay_own (n := n) (j := j) (i := i) (m := m) (fs := fs) (base := base) h11 H9.out.2.1 (lay_list (by omega) (by omega) (by omega)) Hx.out.hn Hx.out.hm (by omega) (by omega) Hx.out.hb (by omega) H9.out.2.2.2.1
    rw [hr9, Nat.add_assoc] at this
    exact this
  clear hrun h11 k11
  go_wp2_with fail
  go_ret
  exact ⟨_, rfl, H11.out.1, H11.out.2, .inr fun b hb => by cases hb; exact Nat.le_refl _⟩
end
end Go.Proofs.Ytghcfmkmndldoaa

/-
  slices.Replace at elisions: amid, in place, no longer than what it takes the place of.
-/
namespace Go.Proofs.Ytghcfmkmndldoaa
open Go.RowKit Go.Sort Go.Lib

section
variable {w : World} {base g g2 n m c uc : Nat} {L L2 : List Value} {es fs : List Ec}
set_option maxRecDepth 100000
set_option maxHeartbeats 8000000
theorem rep_short (i j : Nat) (T : TwoR w base g g2 n m c uc L L2 es fs) (hij : i < j) (hj : j < n) (hroom : i + m + (n - j) ≤ c) (hx : i + m ≤ j) :
    Calls Try.prog 37 #[.slice (some ⟨g, 0, none⟩) n c, .int .i64 (i : Int), .int .i64 (j : Int), .slice (some ⟨g2, 0, none⟩) m uc] w fun r w' => ∃ v', r = .returned v' ∧ OwnE w' base v' (es.take i ++ fs ++ es.drop j) ∧ Kept (fun k => k ≠ g) w w' ∧ NewOr w (some g) v' := by
  have H : Hid (TwoR w base g g2 n m c uc L L2 es fs ∧ ∀ nq, TwoR (w.drewN nq) base g g2 n m c uc L L2 es fs) := ⟨T, T.drewN⟩
  have Hx := Lib.hid T
  have h1 := T.m0
  have h2 := T.big
  have h3 := T.hc
  have h4 := T.nc
  have h5 := T.uc
  simp only [maxLen] at h3
  have hn9 : (n : Int) ≤ 1000000000000 := by omega
  have hnc : (n : Int) ≤ (c : Int) := by omega
  have hm0' : ((m : Int) == 0) = false := by rw [beq_eq_false_iff_ne]; omega
  have hm0'' : ¬ (m : Int) = 0 := by omega
  have hci : ¬ c = i := by omega
  have hic : (i : Int) ≤ (c : Int) := by omega
  have hin1 : (i : Int) ≤ (n : Int) := by omega
  have hij' : ¬ (i : Int) = (j : Int) := by omega
  have hij2 : ((i : Int) == (j : Int)) = false := by rw [beq_eq_false_iff_ne]; omega
  have hij3 : (i : Int) ≤ (j : Int) := by omega
  have hjn' : ¬ (j : Int) = (n : Int) := by omega
  have hjn2 : ((j : Int) == (n : Int)) = false := by rw [beq_eq_false_iff_ne]; omega
  have hjn3 : (j : Int) ≤ (n : Int) := by omega
  have hjc : (j : Int) ≤ (c : Int) := by omega
  have hcj : ¬ c = j := by omega
  have hw1 : IntKind.i64.wrap ((i : Int) + (m : Int)) = (i : Int) + (m : Int) := by rw [IntKind.wrap_i64]; omega
  have hw2 : IntKind.i64.wrap ((i : Int) + (m : Int) + ((n - j : Nat) : Int)) = (i : Int) + (m : Int) + ((n - j : Nat) : Int) := by rw [IntKind.wrap_i64]; omega
  have hw4 : IntKind.i64.wrap ((i : Int) + (m : Int) + ((n - j : Nat) : Int) - (i : Int)) = (m : Int) + ((n - j : Nat) : Int) := by rw [IntKind.wrap_i64]; omega
  have ht1 : ((i : Int) + (m : Int)).toNat = i + m := by omega
  have ht2 : ((i : Int) + (m : Int) + ((n - j : Nat) : Int)).toNat = i + m + (n - j) := by omega
  have hb0 : (0 : Int) ≤ (i : Int) + (m : Int) := by omega
  have hb1 : (0 : Int) ≤ (i : Int) + (m : Int) + ((n - j : Nat) : Int) := by omega
  have hgl := Lib.hid T.r.lt
  have hgl2 := Lib.hid T.r2.lt
  have hH := Lib.hid h2
  have hroom2 : ¬ (c : Int) < (i : Int) + (m : Int) + ((n - j : Nat) : Int) := by omega
  have hroom3 : (i : Int) + (m : Int) + ((n - j : Nat) : Int) ≤ (c : Int) := by omega
  have hcm : ¬ c = i + m := by omega
  have hb2 : (i : Int) ≤ (i : Int) + (m : Int) + ((n - j : Nat) : Int) := by omega
  have hb3 : (i : Int) + (m : Int) ≤ (i : Int) + (m : Int) + ((n - j : Nat) : Int) := by omega
  have hx2 : (i : Int) + (m : Int) ≤ (j : Int) := by omega
  have ht3 : (i : Int) + (m : Int) + ((n - j : Nat) : Int) ≤ (n : Int) := by omega
  generalize hr9 : es.take i ++ fs ++ es.drop j = res at *
  by_cases hct : c = i + m + (n - j)
  · clear h1 h2 h3 h4 h5 T
    go_enter Try.func37, Try.ntmps37
    go_upto_region 9 with fail
    go_quiet (fail)
    have Hq : Hid (TwoR (w.drewN nq) base g g2 n m c uc L L2 es fs ∧ Below w.heap.size w (w.drewN nq)) := ⟨H.out.2 nq, below_dr (Below.refl _ _) nq⟩
    go_wp2_with fail
    obtain ⟨w2, hrun, h2, k2⟩ := copy_row_run 3 (w := w.drewN nq) Hq.out.1.r i (i + m + (n - j) - i) ((i + m + (n - j)) - i) (some ⟨g2, 0, none⟩) m uc (cellsE fs) (by rw [Hx.out.len2]; show _ = min _ _ * 3; omega) (fun _ => ⟨_, rfl, Hx.out.src (w' := w.drewN nq) rfl⟩) (some ⟨g, i * 3, none⟩) (fun _ => rfl) (by rw [Hx.out.len2, Hx.out.lenL]; omega) (oneE fs)
    rw [hrun]
    have H2 : Hid (RowAt w2 g c (splice L (i * 3) (cellsE fs)) ∧ Kept (fun k => k ≠ g) w w2) := ⟨h2, ((Kept.refl _ _).below Hq.out.2).trans k2⟩
    clear hrun h2 k2
    go_wp2_with fail
    go_still_tail 9, (by kernel_rfl)
    change wpList _ _ _ _ _ w2.drew
    go_wp2_with fail
    obtain ⟨w3, hrun, h3, k3⟩ := copy_row_run 3 (w := w2.drew) ⟨H2.out.1.at_, H2.out.1.len⟩ (i + m) (n - j) (n - j) (some ⟨g, j * 3, none⟩) (n - j) ((i + m + (n - j)) - j) (cellsE (es.drop j)) (by rw [Hx.out.len1]; show _ = min _ _ * 3; omega) (fun _ => ⟨_, rfl, RowAt.reads (w := w2.drew) ⟨H2.out.1.at_, H2.out.1.len⟩ (j * 3) (by
      have q1 := Hx.out.len2
      have q3 := Hx.out.lenL
      rw [splice_drop (by omega) (by omega)]
      exact row_drop Hx.out.t Hx.out.hn (by omega))⟩) (some ⟨g, (i + m) * 3, none⟩) (fun _ => rfl) (by rw [Hx.out.len1, H2.out.1.len]; omega) (oneDrop j es)
    rw [hrun]
    have H3 : Hid (RowAt w3 g c (splice (splice L (i * 3) (cellsE fs)) ((i + m) * 3) (cellsE (es.drop j))) ∧ Kept (fun k => k ≠ g) w w3) := ⟨h3, (H2.out.2.trans ((Kept.refl _ _).below ((Below.refl _ _).drew))).trans k3⟩
    clear hrun h3 k3
    go_wp2_with fail
    obtain ⟨v4, w4, Z, hrun, h4, hZ, k4⟩ := clear_row_run 0 H3.out.1 (i + m + (n - j)) (n - (i + m + (n - j))) (0) (by omega) (some ⟨g, 0, none⟩) (fun q => by first | rfl | exact absurd q (by omega))
    rw [hrun]
    have H4 : Hid (OwnE w4 base (.slice (some ⟨g, 0, none⟩) (i + m + (n - j)) (i + m + (n - j))) res ∧ Kept (fun k => k ≠ g) w w4) := by
      refine ⟨?_, H3.out.2.trans k4⟩
      have q1 := Hx.out.len2
      have q2 := Hx.out.len1 j
      have q3 := Hx.out.lenL
      have q4 := H3.out.1.len
      have := lay_own (n := n) (j := j) (i := i) (m := m) (fs := fs) (base := base) h4 (row_take Hx.out.t Hx.out.hn (by omega)) (by rw [splice_take (Nat.le_refl _) (by omega)]; exact lay_list (by omega) (by omega) (by omega)) Hx.out.hn Hx.out.hm (by omega) (by omega) Hx.out.ge (by omega) Hx.out.hc
      rw [hr9] at this
      rw [hct] at this
      exact this
    clear hrun h4 hZ k4
    go_wp2_with fail
    go_ret
    exact ⟨_, rfl, H4.out.1, H4.out.2, .inl rfl⟩
  · clear h1 h2 h3 h4 h5 T
    go_enter Try.func37, Try.ntmps37
    go_upto_region 9 with fail
    go_quiet (fail)
    have Hq : Hid (TwoR (w.drewN nq) base g g2 n m c uc L L2 es fs ∧ Below w.heap.size w (w.drewN nq)) := ⟨H.out.2 nq, below_dr (Below.refl _ _) nq⟩
    go_wp2_with fail
    obtain ⟨w2, hrun, h2, k2⟩ := copy_row_run 3 (w := w.drewN nq) Hq.out.1.r i (i + m + (n - j) - i) (c - i) (some ⟨g2, 0, none⟩) m uc (cellsE fs) (by rw [Hx.out.len2]; show _ = min _ _ * 3; omega) (fun _ => ⟨_, rfl, Hx.out.src (w' := w.drewN nq) rfl⟩) (some ⟨g, i * 3, none⟩) (fun _ => rfl) (by rw [Hx.out.len2, Hx.out.lenL]; omega) (oneE fs)
    rw [hrun]
    have H2 : Hid (RowAt w2 g c (splice L (i * 3) (cellsE fs)) ∧ Kept (fun k => k ≠ g) w w2) := ⟨h2, ((Kept.refl _ _).below Hq.out.2).trans k2⟩
    clear hrun h2 k2
    go_wp2_with fail
    go_still_tail 9, (by kernel_rfl)
    change wpList _ _ _ _ _ w2.drew
    go_wp2_with fail
    obtain ⟨w3, hrun, h3, k3⟩ := copy_row_run 3 (w := w2.drew) ⟨H2.out.1.at_, H2.out.1.len⟩ (i + m) (n - j) (c - (i + m)) (some ⟨g, j * 3, none⟩) (n - j) (c - j) (cellsE (es.drop j)) (by rw [Hx.out.len1]; show _ = min _ _ * 3; omega) (fun _ => ⟨_, rfl, RowAt.reads (w := w2.drew) ⟨H2.out.1.at_, H2.out.1.len⟩ (j * 3) (by
      have q1 := Hx.out.len2
      have q3 := Hx.out.lenL
      rw [splice_drop (by omega) (by omega)]
      exact row_drop Hx.out.t Hx.out.hn (by omega))⟩) (some ⟨g, (i + m) * 3, none⟩) (fun _ => rfl) (by rw [Hx.out.len1, H2.out.1.len]; omega) (oneDrop j es)
    rw [hrun]
    have H3 : Hid (RowAt w3 g c (splice (splice L (i * 3) (cellsE fs)) ((i + m) * 3) (cellsE (es.drop j))) ∧ Kept (fun k => k ≠ g) w w3) := ⟨h3, (H2.out.2.trans ((Kept.refl _ _).below ((Below.refl _ _).drew))).trans k3⟩
    clear hrun h3 k3
    go_wp2_with fail
    obtain ⟨v4, w4, Z, hrun, h4, hZ, k4⟩ := clear_row_run 0 H3.out.1 (i + m + (n - j)) (n - (i + m + (n - j))) (c - (i + m + (n - j))) (by omega) (some ⟨g, (i + m + (n - j)) * 3, none⟩) (fun q => by first | rfl | exact absurd q (by omega))
    rw [hrun]
    have H4 : Hid (OwnE w4 base (.slice (some ⟨g, 0, none⟩) (i + m + (n - j)) c) res ∧ Kept (fun k => k ≠ g) w w4) := by
      refine ⟨?_, H3.out.2.trans k4⟩
      have q1 := Hx.out.len2
      have q2 := Hx.out.len1 j
      have q3 := Hx.out.lenL
      have q4 := H3.out.1.len
      have := lay_own (n := n) (j := j) (i := i) (m := m) (fs := fs) (base := base) h4 (row_take Hx.out.t Hx.out.hn (by omega)) (by rw [splice_take (Nat.le_refl _) (by omega)]; exact lay_list (by omega) (by omega) (by omega)) Hx.out.hn Hx.out.hm (by omega) (by omega) Hx.out.ge (by omega) Hx.out.hc
      rw [hr9] at this
      exact this
    clear hrun h4 hZ k4
    go_wp2_with fail
    go_ret
    exact ⟨_, rfl, H4.out.1, H4.out.2, .inl rfl⟩
end
end Go.Proofs.Ytghcfmkmndldoaa

/-
  slices.Replace at elisions: amid, in place, longer than what it takes the place of.
-/
namespace Go.Proofs.Ytghcfmkmndldoaa
open Go.RowKit Go.Sort Go.Lib

section
variable {w : World} {base g g2 n m c uc : Nat} {L L2 : List Value} {es fs : List Ec}
set_option maxRecDepth 100000
set_option maxHeartbeats 8000000
theorem rep_long (i j : Nat) (T : TwoR w base g g2 n m c uc L L2 es fs) (hij : i < j) (hj : j < n) (hroom : i + m + (n - j) ≤ c) (hx : j < i + m) :
    Calls Try.prog 37 #[.slice (some ⟨g, 0, none⟩) n c, .int .i64 (i : Int), .int .i64 (j : Int), .slice (some ⟨g2, 0, none⟩) m uc] w fun r w' => ∃ v', r = .returned v' ∧ OwnE w' base v' (es.take i ++ fs ++ es.drop j) ∧ Kept (fun k => k ≠ g) w w' ∧ NewOr w (some g) v' := by
  have hov : ∀ W, (W = w ∨ ∃ k, W = w.drewN k) → ∀ o la ca, (callFunc 58 #[.slice (some ⟨g, o, none⟩) la ca, .slice (some ⟨g2, 0, none⟩) m uc]).run Try.prog W = .ok (.value (.bool false)) W := fun W hW o la ca => by
    rcases hW with rfl | ⟨k, rfl⟩
    · exact overlaps_any T.r T.r2 T.ne o 0 la ca m uc (by have := T.m0; have := T.uc; omega)
    · exact overlaps_any (T.r.drew k) (T.r2.drew k) T.ne o 0 la ca m uc (by have := T.m0; have := T.uc; omega)
  have H : Hid (TwoR w base g g2 n m c uc L L2 es fs ∧ ∀ nq, TwoR (w.drewN nq) base g g2 n m c uc L L2 es fs) := ⟨T, T.drewN⟩
  have Hx := Lib.hid T
  have h1 := T.m0
  have h2 := T.big
  have h3 := T.hc
  have h4 := T.nc
  have h5 := T.uc
  simp only [maxLen] at h3
  have hn9 : (n : Int) ≤ 1000000000000 := by omega
  have hnc : (n : Int) ≤ (c : Int) := by omega
  have hm0' : ((m : Int) == 0) = false := by rw [beq_eq_false_iff_ne]; omega
  have hm0'' : ¬ (m : Int) = 0 := by omega
  have hci : ¬ c = i := by omega
  have hic : (i : Int) ≤ (c : Int) := by omega
  have hin1 : (i : Int) ≤ (n : Int) := by omega
  have hij' : ¬ (i : Int) = (j : Int) := by omega
  have hij2 : ((i : Int) == (j : Int)) = false := by rw [beq_eq_false_iff_ne]; omega
  have hij3 : (i : Int) ≤ (j : Int) := by omega
  have hjn' : ¬ (j : Int) = (n : Int) := by omega
  have hjn2 : ((j : Int) == (n : Int)) = false := by rw [beq_eq_false_iff_ne]; omega
  have hjn3 : (j : Int) ≤ (n : Int) := by omega
  have hjc : (j : Int) ≤ (c : Int) := by omega
  have hcj : ¬ c = j := by omega
  have hw1 : IntKind.i64.wrap ((i : Int) + (m : Int)) = (i : Int) + (m : Int) := by rw [IntKind.wrap_i64]; omega
  have hw2 : IntKind.i64.wrap ((i : Int) + (m : Int) + ((n - j : Nat) : Int)) = (i : Int) + (m : Int) + ((n - j : Nat) : Int) := by rw [IntKind.wrap_i64]; omega
  have hw4 : IntKind.i64.wrap ((i : Int) + (m : Int) + ((n - j : Nat) : Int) - (i : Int)) = (m : Int) + ((n - j : Nat) : Int) := by rw [IntKind.wrap_i64]; omega
  have ht1 : ((i : Int) + (m : Int)).toNat = i + m := by omega
  have ht2 : ((i : Int) + (m : Int) + ((n - j : Nat) : Int)).toNat = i + m + (n - j) := by omega
  have hb0 : (0 : Int) ≤ (i : Int) + (m : Int) := by omega
  have hb1 : (0 : Int) ≤ (i : Int) + (m : Int) + ((n - j : Nat) : Int) := by omega
  have hgl := Lib.hid T.r.lt
  have hgl2 := Lib.hid T.r2.lt
  have hH := Lib.hid h2
  have hroom2 : ¬ (c : Int) < (i : Int) + (m : Int) + ((n - j : Nat) : Int) := by omega
  have hroom3 : (i : Int) + (m : Int) + ((n - j : Nat) : Int) ≤ (c : Int) := by omega
  have hcm : ¬ c = i + m := by omega
  have hb2 : (i : Int) ≤ (i : Int) + (m : Int) + ((n - j : Nat) : Int) := by omega
  have hb3 : (i : Int) + (m : Int) ≤ (i : Int) + (m : Int) + ((n - j : Nat) : Int) := by omega
  have hx2 : ¬ (i : Int) + (m : Int) ≤ (j : Int) := by omega
  generalize hr9 : es.take i ++ fs ++ es.drop j = res at *
  clear h1 h2 h3 h4 h5 T
  go_enter Try.func37, Try.ntmps37
  go_upto_region 9 with fail
  go_quiet (fail)
  have Hq : Hid (TwoR (w.drewN nq) base g g2 n m c uc L L2 es fs ∧ Below w.heap.size w (w.drewN nq)) := ⟨H.out.2 nq, below_dr (Below.refl _ _) nq⟩
  have hov2 := hov _ (.inr ⟨nq, rfl⟩)
  go_wp2_with (simp only [hov2])
  clear hov2
  go_still_tail 9, (by kernel_rfl)
  change wpList _ _ _ _ _ (w.drewN nq).drew
  go_wp2_with fail
  obtain ⟨w2, hrun, h2, k2⟩ := copy_row_run 3 (w := w.drewN (nq + 1)) ⟨Hx.out.r.at_, Hx.out.r.len⟩ (i + m) (n - j) (c - (i + m)) (some ⟨g, j * 3, none⟩) (n - j) (c - j) (cellsE (es.drop j)) (by rw [Hx.out.len1]; show _ = min _ _ * 3; omega) (fun _ => ⟨_, rfl, RowAt.reads (w := w.drewN (nq + 1)) ⟨Hx.out.r.at_, Hx.out.r.len⟩ (j * 3) (row_drop Hx.out.t Hx.out.hn (by omega))⟩) (some ⟨g, (i + m) * 3, none⟩) (fun _ => rfl) (by rw [Hx.out.len1, Hx.out.lenL]; omega) (oneDrop j es)
  rw [hrun]
  have H2 : Hid (RowAt w2 g c (splice L ((i + m) * 3) (cellsE (es.drop j))) ∧ Kept (fun k => k ≠ g) w w2) := ⟨h2, ((Kept.refl _ _).below Hq.out.2.drew).trans k2⟩
  clear hrun h2 k2
  go_wp2_with fail
  obtain ⟨w3, hrun, h3, k3⟩ := copy_row_run 3 H2.out.1 i (i + m + (n - j) - i) (c - i) (some ⟨g2, 0, none⟩) m uc (cellsE fs) (by rw [Hx.out.len2]; show _ = min _ _ * 3; omega) (fun _ => ⟨_, rfl, Hx.out.src (H2.out.2.block g2 hgl2.out (Ne.symm Hx.out.ne))⟩) (some ⟨g, i * 3, none⟩) (fun _ => rfl) (by rw [Hx.out.len2, H2.out.1.len]; omega) (oneE fs)
  rw [hrun]
  have H3 : Hid (OwnE w3 base (.slice (some ⟨g, 0, none⟩) (i + m + (n - j)) c) res ∧ Kept (fun k => k ≠ g) w w3) := by
    refine ⟨?_, H2.out.2.trans k3⟩
    have q1 := Hx.out.len2
    have q2 := Hx.out.len1 j
    have q3 := Hx.out.lenL
    have := lay_own (n := n) (j := j) (i := i) (m := m) (fs := fs) (base := base) h3 (row_take Hx.out.t Hx.out.hn (by omega)) (lay_list2 (by omega) (by omega) (by omega)) Hx.out.hn Hx.out.hm (by omega) (by omega) Hx.out.ge (by omega) Hx.out.hc
    rw [hr9] at this
    exact this
  clear hrun h3 k3
  go_wp2_with fail
  go_ret
  exact ⟨_, rfl, H3.out.1, H3.out.2, .inl rfl⟩
end
end Go.Proofs.Ytghcfmkmndldoaa
