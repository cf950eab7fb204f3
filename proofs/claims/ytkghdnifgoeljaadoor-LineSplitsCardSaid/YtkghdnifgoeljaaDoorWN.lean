/-
  The walk of the joining of arguments. A premise: their line is no longer than 65536 bytes.
-/
import Derived.Test.YtkghdnifgoeljaaDoorWM
import Derived.Test.YtkghdnifgoeljaaDoorWH
namespace Go.Proofs.YtkghdnifgoeljaaDoor
open Go.RowKit Ln

/-- A row of texts that is read, below a block. -/
def SB (w : World) (B : Nat) (A : Option Addr) (ss : List ByteArray) : Prop := ∀ i x, ss[i]? = some x → ∃ a, A = some a ∧ a.block < B ∧ w.cell? (a.add i) = some (.string x)
theorem block_add (a : Addr) (n : Nat) : (a.add n).block = a.block := by unfold Addr.add; split <;> rfl
theorem SB.below {w w' : World} {B : Nat} {A : Option Addr} {ss : List ByteArray} (h : SB w B A ss) (hb : Below B w w') : SB w' B A ss := by
  intro i x hx
  obtain ⟨a, h1, h2, h3⟩ := h i x hx
  exact ⟨a, h1, h2, (hb.cell (p := a.add i) (by rw [block_add]; exact h2)).trans h3⟩
theorem SB.mono {w : World} {B B' : Nat} {A : Option Addr} {ss : List ByteArray} (h : SB w B A ss) (hB : B ≤ B') : SB w B' A ss := by
  intro i x hx
  obtain ⟨a, h1, h2, h3⟩ := h i x hx
  exact ⟨a, h1, Nat.lt_of_lt_of_le h2 hB, h3⟩
theorem joinF_snoc (l : List (List UInt8)) (a : List UInt8) : joinF (l ++ [a]) = if l = [] then tok a else joinF l ++ 32 :: tok a := by
  induction l with
  | nil => rfl
  | cons b l ih =>
    rw [if_neg (by simp)]
    cases l with
    | nil => rfl
    | cons c l =>
      rw [if_neg (by simp)] at ih
      show joinF (b :: c :: (l ++ [a])) = _
      rw [joinF]
      have : c :: (l ++ [a]) = (c :: l) ++ [a] := rfl
      rw [this, ih, joinF]
      simp
theorem joinF_take (l : List (List UInt8)) (k : Nat) : (joinF (l.take k)).length ≤ (joinF l).length := by
  have key : ∀ (m n : List (List UInt8)), (joinF m).length ≤ (joinF (m ++ n)).length := by
    intro m n
    induction n generalizing m with
    | nil => simp
    | cons a n ih =>
      have h1 := ih (m ++ [a])
      rw [List.append_assoc] at h1
      refine Nat.le_trans ?_ h1
      rw [joinF_snoc]
      by_cases hm : m = []
      · subst hm; simp [joinF]
      · rw [if_neg hm]; simp
  have := key (l.take k) (l.drop k)
  rwa [List.take_append_drop] at this
theorem txt_take (ss : List ByteArray) (k : Nat) : txt (ss.take k) = (txt ss).take k := by simp [txt]
theorem take_row {ss : List ByteArray} {k : Nat} {x : ByteArray} (h : ss[k]? = some x) : ss.take (k + 1) = ss.take k ++ [x] := by
  obtain ⟨hk, rfl⟩ := List.getElem?_eq_some_iff.1 h
  exact List.take_succ_eq_append_getElem hk
/-- The line of the first so many. -/
def jn (ss : List ByteArray) (k : Nat) : List UInt8 := joinF (txt (ss.take k))
theorem jn_first {ss : List ByteArray} {x : ByteArray} (h : ss[0]? = some x) : jn ss 1 = tok x.data.toList := by
  unfold jn; rw [take_row h]; simp [txt, joinF]
theorem jn_next {ss : List ByteArray} {k : Nat} {x : ByteArray} (h : ss[k]? = some x) (hk : 0 < k) : jn ss (k + 1) = jn ss k ++ [32] ++ tok x.data.toList := by
  unfold jn
  rw [take_row h]
  have e : txt (ss.take k ++ [x]) = txt (ss.take k) ++ [x.data.toList] := by simp [txt]
  rw [e, joinF_snoc, if_neg]
  · simp
  · intro hn
    have h0 : (txt (ss.take k)).length = 0 := by rw [hn]; rfl
    have hl := (List.getElem?_eq_some_iff.1 h).1
    unfold txt at h0
    rw [List.length_map, List.length_take] at h0
    omega
theorem jn_len (ss : List ByteArray) (k : Nat) : (jn ss k).length ≤ (joinF (txt ss)).length := by
  unfold jn; rw [txt_take]; exact joinF_take _ _
theorem jn_all (ss : List ByteArray) : jn ss ss.length = joinF (txt ss) := by unfold jn; rw [List.take_length]

theorem fresh_one (w : World) : Lib.IsBuilderF 43 5 w.heap.size w.heap.size (Lib.byteCells []) (w.alloc (.cells #[.pointer none, .slice none 0 0] 43)) := Lib.IsBuilderF.of (Lib.fresh_isBuilder 43 5 w)
set_option maxRecDepth 100000 in
set_option maxHeartbeats 4000000 in
theorem join_any (A : Option Addr) (c : Nat) (ss : List ByteArray) (w : World) (hn : ss.length ≤ 65536) (hz : Hid (∀ x ∈ ss, x.size ≤ 65536)) (hj : (joinF (txt ss)).length ≤ 1048576) (hr : SB w w.heap.size A ss) :
    Calls Tryd.prog 12 #[.slice A ss.length c] w fun e w' => e = .returned (.string ⟨(joinF (txt ss)).toArray⟩) ∧ Below w.heap.size w w' := by
  go_enter Tryd.func12, Tryd.ntmps12
  go_upto_region 2 with fail
  have hB := fresh_one w
  have hL : Kp w.heap.size w.heap.size w (w.alloc (.cells #[.pointer none, .slice none 0 0] 43)) := Kp.of_below ((Below.refl _ _).alloc (Nat.le_refl _) _) (Nat.le_refl _)
  have hrH := Lib.hid hr
  clear hr
  generalize w.alloc (.cells #[.pointer none, .slice none 0 0] 43) = W at hB hL ⊢
  go_wp2_with fail
  go_loopw [8] (fun i wr => ∃ k : Nat, i = .int .i64 k ∧ k ≤ ss.length ∧ Lib.IsBuilderF 43 5 w.heap.size w.heap.size (Lib.byteCells (jn ss k)) wr ∧ Kp w.heap.size w.heap.size w wr) (fun i _ => ss.length - (intOf i).toNat)
  case atStart => exact ⟨0, rfl, by omega, hB, hL⟩
  case round =>
    clear hB hL
    obtain ⟨k, rfl, hk, hB, hL⟩ := hrel
    have hzz := hL.size
    have hjl := jn_len ss k
    by_cases hlt : k < ss.length
    · obtain ⟨x, hx⟩ : ∃ x, ss[k]? = some x := ⟨_, List.getElem?_eq_getElem hlt⟩
      obtain ⟨a, rfl, hab, hc0⟩ := hrH.out k x hx
      have hc : wr.cell? (a.add k) = some (.string x) := (hL.1.cell (p := a.add k) (by rw [block_add]; exact hab)).trans hc0
      have hxs := hz.out x (List.mem_of_getElem? hx)
      have hxl : x.data.toList.length = x.size := by simp
      have hxH := Lib.hid hx
      clear hx hc0
      rcases Nat.eq_zero_or_pos k with h0 | h0
      · subst h0
        have hN := Lib.hid (jn_first hxH.out)
        have hc' : wr.cell? a = some (.string x) := by simpa [Addr.add] using hc
        clear hc
        cases hp : plainA x.data.toList with
        | true =>
          have hpH := Lib.hid hp
          have ht : Hid (tok x.data.toList = x.data.toList) := Lib.hid (by unfold tok; rw [if_pos hp])
          have hW := Lib.hid (ws_as (s := x) hB (by omega) hzz)
          clear hp hxl
          go_wp2_with (first
            | (go_at_call 19; ((with_reducible refine (plain_any x _ hxs true hpH).mono ?_); rintro e w' ⟨rfl, rfl⟩))
            | (go_at_call 20; ((with_reducible refine hW.out.mono ?_); rintro e w1 ⟨⟨n, rfl⟩, hB1, hK1⟩)))
          go_roundw
          case rel => exact ⟨0 + 1, by go_num, by omega, by rw [hN.out, ht.out]; simpa [jn, txt, joinF] using hB1, hL.trans hK1⟩
          case measure => simp [intOf]; omega
        | false =>
          have hpH := Lib.hid hp
          have ht : Hid (tok x.data.toList = 34 :: encs x.data.toList ++ [34]) := Lib.hid (by unfold tok; rw [if_neg (by rw [hp]; decide)])
          have hW := Lib.hid (quote_any w.heap.size w.heap.size _ x wr hxs (by omega) hB hzz)
          clear hp hxl
          go_wp2_with (first
            | (go_at_call 19; ((with_reducible refine (plain_any x _ hxs false hpH).mono ?_); rintro e w' ⟨rfl, rfl⟩))
            | (go_at_call 21; ((with_reducible refine hW.out.mono ?_); rintro e w1 ⟨rfl, hB1, hK1⟩)))
          go_roundw
          case rel => exact ⟨0 + 1, by go_num, by omega, by rw [hN.out, ht.out]; simpa [jn, txt, joinF] using hB1, hL.trans hK1⟩
          case measure => simp [intOf]; omega
      · have hN := Lib.hid (jn_next hxH.out h0)
        have hW0 := Lib.hid (wb_as 32 (show ((32 : UInt8).toNat : Int) = 32 from rfl) hB (by omega) hzz)
        cases hp : plainA x.data.toList with
        | true =>
          have hpH := Lib.hid hp
          have ht : Hid (tok x.data.toList = x.data.toList) := Lib.hid (by unfold tok; rw [if_pos hp])
          clear hp hxl
          go_wp2_with (first
            | (go_at_call 18; ((with_reducible refine hW0.out.mono ?_); rintro e w1 ⟨rfl, hB1, hK1⟩; have hz1 := Nat.le_trans hzz hK1.size; have hc1 := (hK1.1.cell (p := a.add k) (by rw [block_add]; exact hab)).trans hc))
            | (go_at_call 19; ((with_reducible refine (plain_any x _ hxs true hpH).mono ?_); rintro e w' ⟨rfl, rfl⟩))
            | (go_at_call 20; ((with_reducible refine (ws_as (s := x) hB1 (by rw [List.length_append]; simp only [List.length_cons, List.length_nil]; omega) hz1).mono ?_); rintro e w2 ⟨⟨n, rfl⟩, hB2, hK2⟩)))
          go_roundw
          case rel => exact ⟨k + 1, by go_num, by omega, by rw [hN.out, ht.out]; exact hB2, (hL.trans hK1).trans hK2⟩
          case measure => simp [intOf]; omega
        | false =>
          have hpH := Lib.hid hp
          have ht : Hid (tok x.data.toList = 34 :: encs x.data.toList ++ [34]) := Lib.hid (by unfold tok; rw [if_neg (by rw [hp]; decide)])
          clear hp hxl
          go_wp2_with (first
            | (go_at_call 18; ((with_reducible refine hW0.out.mono ?_); rintro e w1 ⟨rfl, hB1, hK1⟩; have hz1 := Nat.le_trans hzz hK1.size; have hc1 := (hK1.1.cell (p := a.add k) (by rw [block_add]; exact hab)).trans hc))
            | (go_at_call 19; ((with_reducible refine (plain_any x _ hxs false hpH).mono ?_); rintro e w' ⟨rfl, rfl⟩))
            | (go_at_call 21; ((with_reducible refine (quote_any w.heap.size w.heap.size _ x w1 hxs (by rw [List.length_append]; simp only [List.length_cons, List.length_nil]; omega) hB1 hz1).mono ?_); rintro e w2 ⟨rfl, hB2, hK2⟩)))
          go_roundw
          case rel => exact ⟨k + 1, by go_num, by omega, by rw [hN.out, ht.out]; exact hB2, (hL.trans hK1).trans hK2⟩
          case measure => simp [intOf]; omega
    · have hE : Hid (jn ss k = joinF (txt ss)) := Lib.hid (by rw [← jn_all, show k = ss.length by omega])
      go_wp2_with (go_at_call 22; ((with_reducible refine (Tryd.Builder_String_any_f w.heap.size w.heap.size _ wr hB hzz).mono ?_); rintro e w2 ⟨rfl, _, hb2⟩))
      go_ret
      exact ⟨by rw [hE.out]; rfl, hL.1.trans hb2⟩
end Go.Proofs.YtkghdnifgoeljaaDoor
