/-
  The order of keys, and quoted words between blanks: the law's walk.
-/
import Derived.Test.YtncaaiaffioegaaDoorNKnown
import Derived.Test.YtncaaiaffioegaaDoorNUnquote
import Derived.Test.YtncaaiaffioegaaDoorNOrdMath
import Derived.Test.YtncaaiaffioegaaDoorNKeyOne
namespace Go.Proofs.YtncaaiaffioegaaDoor
open Go.RowKit

/-- texts in memory, from A on -/
def RS (w : World) (B : Nat) (A : Option Addr) (zs : List ByteArray) : Prop :=
  ∀ k z, zs[k]? = some z → ∃ b o, A = some ⟨b, o, none⟩ ∧ b < B ∧ w.cell? ⟨b, o + k, none⟩ = some (.string z)
theorem RS.below {w w' : World} {B : Nat} {A : Option Addr} {zs : List ByteArray} (h : RS w B A zs) (hb : Below B w w') : RS w' B A zs := fun k z hz => by
  obtain ⟨b, o, e, hlt, hc⟩ := h k z hz
  exact ⟨b, o, e, hlt, (hb.cell (p := ⟨b, o + k, none⟩) hlt).trans hc⟩
def sizes (ls : List ByteArray) : Nat := (ls.map (·.size)).sum
theorem sizes_take {ls : List ByteArray} {k : Nat} (h : k < ls.length) : sizes (ls.take (k + 1)) = sizes (ls.take k) + ls[k].size := by
  unfold sizes
  rw [List.take_succ_eq_append_getElem h, List.map_append, List.sum_append]
  simp only [List.map_cons, List.map_nil, List.sum_cons, List.sum_nil, Nat.add_zero]
theorem sizes_take_le (ls : List ByteArray) (k : Nat) : sizes (ls.take k) ≤ sizes ls := by
  unfold sizes
  conv => rhs; rw [← List.take_append_drop k ls]
  rw [List.map_append, List.sum_append]
  exact Nat.le_add_right _ _
theorem size_mem_le {ls : List ByteArray} {k : Nat} (h : k < ls.length) : ls[k].size ≤ sizes ls := by
  have h1 := sizes_take_le ls (k + 1)
  rw [sizes_take h] at h1
  omega
/-- the lines so far -/
def lines (ls : List ByteArray) : List UInt8 := (ls.map (·.data.toList)).flatMap fun l => 32 :: (quoteL l ++ [10])
def quotes (ls : List ByteArray) : List ByteArray := ls.map fun s => ⟨(quoteL s.data.toList).toArray⟩
theorem lines_take {ls : List ByteArray} {k : Nat} (h : k < ls.length) : lines (ls.take (k + 1)) = lines (ls.take k) ++ [32] ++ quoteL ls[k].data.toList ++ [10] := by
  unfold lines
  rw [List.take_succ_eq_append_getElem h, List.map_append, List.flatMap_append]
  simp only [List.map_cons, List.map_nil, List.flatMap_cons, List.flatMap_nil, List.append_nil, List.append_assoc, List.cons_append, List.nil_append]
theorem lines_le (ls : List ByteArray) : (lines ls).length ≤ 4 * sizes ls + 4 * ls.length := by
  induction ls with
  | nil => simp [lines, sizes]
  | cons s ls ih =>
    have h1 : lines (s :: ls) = 32 :: (quoteL s.data.toList ++ [10]) ++ lines ls := by simp [lines]
    have h2 := quote_le s.data.toList
    have h3 : sizes (s :: ls) = s.size + sizes ls := by simp [sizes]
    have h4 : s.data.toList.length = s.size := rfl
    rw [h1, h3]
    simp only [List.length_append, List.length_cons, List.length_nil]
    omega

set_option maxRecDepth 20000 in
set_option maxHeartbeats 1000000 in
theorem orders_any (s : ByteArray) (a b : Nat) (A : Option Addr) (ls : List ByteArray) (c : Nat) (w : World) (hs : s.size ≤ 1048576) (ha : a < 18446744073709551616) (hb : b < 18446744073709551616) (hl : RS w w.heap.size A ls) (hls : sizes ls ≤ 1048576) (hln : ls.length ≤ 1048576) (hE : Err w) :
    Calls Tryd.prog 4 #[.string s, .int .u64 (a : Int), .int .u64 (b : Int), .slice A ls.length c] w fun e w' => e = .returned (.bool true) ∧ Below w.heap.size w w' := by
  have hs' : (s.size : Int) ≤ 1048576 := by omega
  have hln' : (ls.length : Int) ≤ 1048576 := by omega
  have Hl := Lib.hid hl
  have Hls := Lib.hid hls
  have HE := Lib.hid hE
  have Ha := Lib.hid ha
  have Hb := Lib.hid hb
  clear hl hls hE ha hb
  have Hk := Lib.hid (known_any w)
  go_enter Tryd.func4, Tryd.ntmps4
  go_wp2_with (go_at_call 5; refine Hk.out.mono ?_; rintro e w1 ⟨rfl, hb1⟩; have Hb1 := Lib.hid hb1; clear hb1 Hk)
  have Hl1 := Lib.hid (Hl.out.below Hb1.out)
  have HE1 := Lib.hid (HE.out.below Hb1.out)
  go_loop [9, 10] (fun n i => ∃ k : Nat, k ≤ ls.length ∧ i = .int .i64 (k : Int) ∧ n = .int .i64 ((s.size + sizes (ls.take k) : Nat) : Int)) (fun _ i => (ls.length - intOf i).toNat)
  case atStart => exact ⟨0, Nat.zero_le _, rfl, by simp [sizes]⟩
  case round =>
    obtain ⟨k, hk, rfl, rfl⟩ := hrel
    by_cases hp : k < ls.length
    · obtain ⟨bb, o, rfl, hlt, hc⟩ := Hl1.out k ls[k] (by simp [hp])
      have hst := sizes_take hp
      have hle := sizes_take_le ls (k + 1)
      have hp' : (k : Int) < (ls.length : Int) := by omega
      have hm : (ls[k].size : Int) ≤ 1048576 := by have := Hls.out; omega
      have hz : ((sizes (ls.take k) : Nat) : Int) ≤ 1048576 := by have := Hls.out; omega
      have Hst := Lib.hid hst
      generalize ls[k] = x at hc hm Hst
      generalize sizes (ls.take k) = z at hz Hst
      clear hst hle hlt
      go_wp2_with fail
      go_round
      case rel => exact ⟨k + 1, by omega, by go_num, by rw [Hst.out]; congr 1; omega⟩
      case measure => simp [intOf]; omega
    · obtain rfl : k = ls.length := by omega
      obtain ⟨N, hN⟩ : ∃ N, N = s.size + sizes (ls.take ls.length) := ⟨_, rfl⟩
      rw [← hN]
      rw [List.take_length] at hN
      have HN := Lib.hid hN
      have hN2 : (N : Int) ≤ 2097152 := by have := Hls.out; omega
      clear hN hp hk
      by_cases big : 8192 < N ∨ 200 < ls.length
      · have hd : decide ((8192 : Int) < (N : Int)) = true ∨ (decide ((8192 : Int) < (N : Int)) = false ∧ decide ((200 : Int) < (ls.length : Int)) = true) := by simp; omega
        clear big hs hln hN2
        rcases hd with hd | ⟨hd, hd2⟩
        all_goals
          go_wp2_with fail
          go_ret
          exact ⟨rfl, Hb1.out⟩
      · have hN8 : (N : Int) ≤ 8192 := by omega
        have hl2 : (ls.length : Int) ≤ 200 := by omega
        have Hsum : Hid (sizes ls ≤ 8192) := by show _ ≤ _; have := HN.out; omega
        have Hlen : Hid (ls.length ≤ 200) := by show _ ≤ _; omega
        obtain ⟨ka, hka⟩ : ∃ ka : ByteArray, ka = ⟨(keyL s.data.toList a).toArray⟩ := ⟨_, rfl⟩
        obtain ⟨kb, hkb⟩ : ∃ kb : ByteArray, kb = ⟨(keyL s.data.toList b).toArray⟩ := ⟨_, rfl⟩
        have HkA := Lib.hid (fun W => key_any s a W (by omega))
        have HkB := Lib.hid (fun W => key_any s b W (by omega))
        rw [← hka] at HkA
        rw [← hkb] at HkB
        have hless : Op.bytesLess ka.toList kb.toList = decide (a < b) := by
          rw [Lib.toList_data, Lib.toList_data, hka, hkb]
          exact key_less _ _ _ Ha.out Hb.out
        clear big hs hln hN2 hka hkb hln' hs'
        go_wp2_with fail
        refine (HkA.out _).mono ?_
        rintro e w2 ⟨rfl, hb2⟩
        have Hb2 := Lib.hid hb2
        clear hb2 HkA
        go_wp2_with fail
        refine (HkB.out _).mono ?_
        rintro e w3 ⟨rfl, hb3⟩
        have Hb3 : Hid (Below w.heap.size w w3) := Hb1.out.trans ((Hb2.out.mono Hb1.out.size).trans (hb3.mono (Nat.le_trans Hb1.out.size Hb2.out.size)))
        clear hb3 HkB Hl1 HE1
        go_wp2_with fail
        clear hless
        go_loopw [11, 12] (fun d i wr => ∃ (k : Nat) (u : ByteArray), k ≤ ls.length ∧ i = .int .i64 (k : Int) ∧ d = .string u ∧ Hid (u.data.toList = lines (ls.take k)) ∧ Hid (Below w.heap.size w wr)) (fun _ i _ => (ls.length - intOf i).toNat)
        case atStart => exact ⟨0, ⟨#[]⟩, Nat.zero_le _, rfl, rfl, rfl, Hb3.out⟩
        case round =>
          obtain ⟨k, u, hk, rfl, rfl, hu, hbel⟩ := hrel
          by_cases hp : k < ls.length
          · obtain ⟨bb, o, rfl, hlt, hc⟩ := (Hl.out.below hbel.out) k ls[k] (by simp [hp])
            have Hsz : Hid (w.heap.size ≤ wr.heap.size) := hbel.out.size
            have hlt2 := lines_take hp
            have hm := size_mem_le hp
            have HQ := Lib.hid (fun W => quote_any ls[k] W (by have := Hsum.out; omega))
            have hp' : (k : Int) < (ls.length : Int) := by omega
            have hnew : ((u ++ ⟨#[32]⟩ ++ ⟨(quoteL ls[k].data.toList).toArray⟩ ++ ⟨#[10]⟩ : ByteArray)).data.toList = lines (ls.take (k + 1)) := by
              rw [hlt2, ← hu.out]
              simp
            have Hnew := Lib.hid hnew
            have hus : (u.size : Int) ≤ 40000 := by
              have h1 := lines_le (ls.take k)
              have h2 := sizes_take_le ls k
              have h3 : u.size = (lines (ls.take k)).length := by rw [← hu.out]; rfl
              rw [List.length_take] at h1
              have := Hsum.out
              have := Hlen.out
              omega
            have hqs : ((⟨(quoteL ls[k].data.toList).toArray⟩ : ByteArray).size : Int) ≤ 40000 := by
              have h1 := quote_le ls[k].data.toList
              have h2 : ls[k].data.toList.length = ls[k].size := rfl
              show ((quoteL ls[k].data.toList).length : Int) ≤ _
              have := Hsum.out
              omega
            generalize (⟨(quoteL ls[k].data.toList).toArray⟩ : ByteArray) = q at HQ Hnew hqs
            generalize ls[k] = x at hc HQ
            clear hlt2 hm hnew hlt
            go_wp2_with fail
            refine (HQ.out _).mono ?_
            rintro e w4 ⟨rfl, hb4⟩
            have Hb4 : Hid (Below w.heap.size w w4) := hbel.out.trans (hb4.mono Hsz.out)
            clear hb4
            go_wp2_with fail
            exact ⟨⟨k + 1, _, by omega, by go_num, rfl, Hnew.out, Hb4.out⟩, by simp [intOf]; omega⟩
          · obtain rfl : k = ls.length := by omega
            have hu2 := hu.out
            rw [List.take_length] at hu2
            have hus : u.size ≤ 40000 := by
              have h1 := lines_le ls
              have h3 : u.size = (lines ls).length := by rw [← hu2]; rfl
              have := Hsum.out
              have := Hlen.out
              omega
            have HW := Lib.hid (words_any u wr (by omega))
            have hwl : texts (wordsL u.data.toList) = (quotes ls).map Value.string := by
              rw [hu2]
              unfold lines
              rw [words_lines]
              simp [texts, quotes]
            have hqlen : (texts (wordsL u.data.toList)).length = ls.length := by rw [hwl]; simp [quotes]
            have Hwl := Lib.hid hwl
            have Hqlen := Lib.hid hqlen
            have Hsz : Hid (w.heap.size ≤ wr.heap.size) := hbel.out.size
            generalize texts (wordsL u.data.toList) = V at HW Hwl Hqlen
            clear hus hwl hqlen hu2 hp hk
            go_wp2_with fail
            refine HW.out.mono ?_
            rintro e w5 ⟨v, rfl, hown5, hb5⟩
            obtain ⟨A1, c1, rfl, _, _, hrd⟩ := hown5.rd
            have Hb5 : Hid (Below w.heap.size w w5) := hbel.out.trans (hb5.mono Hsz.out)
            have Hrs : Hid (RS w5 w5.heap.size A1 (quotes ls)) := fun k z hz => by
              obtain ⟨b1, e1, hlt1, hc1⟩ := hrd k (.string z) (by rw [Hwl.out, List.getElem?_map, hz]; rfl)
              exact ⟨b1, 0, e1, hlt1, by rw [Nat.zero_add]; exact hc1⟩
            rw [Hqlen.out]
            clear hb5 hown5 hrd HW
            go_wp2_with fail
            go_loopw [14] (fun i wr => ∃ k : Nat, k ≤ ls.length ∧ i = .int .i64 (k : Int) ∧ Hid (Below w.heap.size w wr) ∧ Hid (Below w5.heap.size w5 wr)) (fun i _ => (ls.length - intOf i).toNat)
            case atStart => exact ⟨0, Nat.zero_le _, rfl, Hb5.out, Below.refl _ _⟩
            case round =>
              obtain ⟨k, hk, rfl, hbel, hbel5⟩ := hrel
              by_cases hp : k < ls.length
              · have hx : ls[k]? = some ls[k] := by simp [hp]
                have hqx : (quotes ls)[k]? = some ⟨(quoteL ls[k].data.toList).toArray⟩ := by unfold quotes; rw [List.getElem?_map, hx]; rfl
                have hm := size_mem_le hp
                have hp' : (k : Int) < (ls.length : Int) := by omega
                obtain ⟨b9, o9, e9, hlt9, hc9⟩ := (Hrs.out.below hbel5.out) k _ hqx
                have hA := (Hl.out.below hbel.out) k _ hx
                have HU : Hid (∀ W, Err W → Calls Tryd.prog 6 #[.string ⟨(quoteL ls[k].data.toList).toArray⟩] W fun e w' => e = .returned (.tuple #[.string ls[k], .int .i64 0]) ∧ Below W.heap.size W w') := fun W hE => by
                  have h1 := quote_le ls[k].data.toList
                  have h2 : ls[k].data.toList.length = ls[k].size := rfl
                  have := unquote_any ⟨(quoteL ls[k].data.toList).toArray⟩ W (by show (quoteL ls[k].data.toList).length ≤ _; have := Hsum.out; omega) hE
                  rw [show (⟨(quoteL ls[k].data.toList).toArray⟩ : ByteArray).data.toList = quoteL ls[k].data.toList from rfl, unquote_quote] at this
                  exact this
                have Hx : Hid (ls[k]? = some ls[k]) := hx
                generalize (⟨(quoteL ls[k].data.toList).toArray⟩ : ByteArray) = q at hc9 HU
                generalize ls[k] = x at HU Hx hA
                obtain ⟨bb, o, rfl, hlt, hc⟩ := hA
                subst e9
                have HE5 := Lib.hid (HE.out.below hbel.out)
                have Hsz5 : Hid (w.heap.size ≤ wr.heap.size) := hbel.out.size
                have Hsz6 : Hid (w5.heap.size ≤ wr.heap.size) := hbel5.out.size
                have Hlt : Hid (bb < w.heap.size) := hlt
                clear hx hqx hm hlt9 hlt
                go_wp2_with fail
                refine (HU.out _ HE5.out).mono ?_
                rintro e w6 ⟨rfl, hb6⟩
                have Hb6 : Hid (Below w.heap.size w w6) := hbel.out.trans (hb6.mono Hsz5.out)
                have Hb65 : Hid (Below w5.heap.size w5 w6) := hbel5.out.trans (hb6.mono Hsz6.out)
                have hc6 : w6.cell? ⟨bb, o + k, none⟩ = some (.string x) := ((hb6.mono Hsz5.out).cell (p := ⟨bb, o + k, none⟩) Hlt.out).trans hc
                clear hb6 hc9
                go_wp2_with fail
                exact ⟨⟨k + 1, by omega, by go_num, Hb6.out, Hb65.out⟩, by simp [intOf]; omega⟩
              · obtain rfl : k = ls.length := by omega
                go_wp2_with fail
                go_ret
                exact ⟨rfl, hbel.out⟩
end Go.Proofs.YtncaaiaffioegaaDoor
