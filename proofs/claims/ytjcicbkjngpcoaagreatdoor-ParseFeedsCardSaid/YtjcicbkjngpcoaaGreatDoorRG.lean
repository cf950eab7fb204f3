/-
  The walk of the reference's reader of a line's end; what is gone past of a Many, as mathematics. Premises: none but that lengths are small.
-/
import Derived.Test.YtjcicbkjngpcoaaGreatDoorRF
import Derived.Test.YtjcicbkjngpcoaaGreatDoorQS
namespace Go.Proofs.YtjcicbkjngpcoaaGreatDoor
open Go.RowKit Dec Pq S4

/-- What is left to ask of a line's end, behind so many bytes. -/
def endK (l : List UInt8) (k : Nat) : Int := if k = 0 then endsF l else if k = 1 then lfE (l.drop 1) else 0
set_option maxRecDepth 100000 in
set_option maxHeartbeats 2000000 in
theorem rends_any (s : ByteArray) (w : World) (hs : s.size ≤ 1048576) : Calls Tryz.prog 35 #[.string s] w fun e w' => e = .returned (.int .i64 (endsF s.data.toList)) ∧ ∃ m, w' = w.drewN m := by
  obtain ⟨R, hR⟩ : ∃ R, endsF s.data.toList = R := ⟨_, rfl⟩
  rw [hR]
  have hR0 : Hid (endK s.data.toList 0 = R) := Lib.hid hR
  clear hR
  go_enter Tryz.func35, Tryz.ntmps35
  go_wp2_with fail
  go_loopw [4] (fun i wr => ∃ k : Nat, k ≤ 2 ∧ i = .int .i64 k ∧ Hid (endK s.data.toList k = R) ∧ Hid (∃ m, wr = w.drewN m)) (fun i _ => 2 - (intOf i).toNat)
  case atStart => exact ⟨0, by omega, rfl, hR0, Lib.hid ⟨0, rfl⟩⟩
  case round =>
    clear hR0
    obtain ⟨k, hk, rfl, hR, hW⟩ := hrel
    obtain rfl | rfl | rfl : k = 0 ∨ k = 1 ∨ k = 2 := by omega
    · by_cases h0 : s = ByteArray.empty
      · subst h0
        have hRR : Hid (R = -1) := Lib.hid (by rw [← hR.out]; rfl)
        clear hR
        go_wp2_with fail
        go_ret
        exact ⟨by rw [hRR.out]; rfl, hW.out⟩
      · have h1 : 0 < s.size := Nat.pos_of_ne_zero fun e => h0 (bytes_inj (by rw [List.eq_nil_of_length_eq_zero (l := s.data.toList) (by rw [size_len]; exact e)]; rfl))
        have hcons := str_cons s 0 h1
        rw [List.drop_zero] at hcons
        by_cases h13 : s[(0 : Nat)] = 13
        · have hq : ((s[(0 : Nat)].toNat : Int) != (((⟨#[13, 10]⟩ : ByteArray)[(0 : Nat)]'(by decide)).toNat : Int)) = false := by rw [h13]; rfl
          have hRR : Hid (endK s.data.toList 1 = R) := Lib.hid (by rw [← hR.out, hcons, h13]; rfl)
          clear hR hcons h13
          go_wp2_with fail
          go_quiet (fail)
          go_wp2_with fail
          go_roundw
          case rel => exact ⟨1, by omega, rfl, hRR, Lib.hid (drewN_trans hW.out _)⟩
          case measure => simp [intOf]
        · have hq : ((s[(0 : Nat)].toNat : Int) != (((⟨#[13, 10]⟩ : ByteArray)[(0 : Nat)]'(by decide)).toNat : Int)) = true := bne_iff_ne.2 fun e => h13 (UInt8.toNat_inj.1 (Int.ofNat_inj.1 e))
          have hRR : Hid (R = 5) := Lib.hid (by rw [← hR.out, hcons]; simp [endK, endsF, h13])
          clear hR hcons h13
          go_wp2_with fail
          go_quiet (fail)
          go_wp2_with fail
          go_ret
          exact ⟨by rw [hRR.out]; rfl, drewN_trans hW.out _⟩
    · by_cases h0 : s.size ≤ 1
      · have hRR : Hid (R = -1) := Lib.hid (by rw [← hR.out]; unfold endK; rw [drop_end (by omega)]; rfl)
        clear hR
        go_wp2_with fail
        go_ret
        exact ⟨by rw [hRR.out]; rfl, hW.out⟩
      · have h1 : 1 < s.size := by omega
        have hcons := str_cons s 1 h1
        by_cases h13 : s[(1 : Nat)] = 10
        · have hq : ((s[(1 : Nat)].toNat : Int) != (((⟨#[13, 10]⟩ : ByteArray)[(1 : Nat)]'(by decide)).toNat : Int)) = false := by rw [h13]; rfl
          have hRR : Hid (endK s.data.toList 2 = R) := Lib.hid (by rw [← hR.out]; simp only [endK]; rw [hcons, h13]; rfl)
          clear hR hcons h13
          go_wp2_with fail
          go_quiet (fail)
          go_wp2_with fail
          go_roundw
          case rel => exact ⟨2, by omega, rfl, hRR, Lib.hid (drewN_trans hW.out _)⟩
          case measure => simp [intOf]
        · have hq : ((s[(1 : Nat)].toNat : Int) != (((⟨#[13, 10]⟩ : ByteArray)[(1 : Nat)]'(by decide)).toNat : Int)) = true := bne_iff_ne.2 fun e => h13 (UInt8.toNat_inj.1 (Int.ofNat_inj.1 e))
          have hRR : Hid (R = 5) := Lib.hid (by rw [← hR.out]; simp only [endK]; rw [hcons]; simp [lfE, h13])
          clear hR hcons h13
          go_wp2_with fail
          go_quiet (fail)
          go_wp2_with fail
          go_ret
          exact ⟨by rw [hRR.out]; rfl, drewN_trans hW.out _⟩
    · have hRR : Hid (R = 0) := Lib.hid (by rw [← hR.out]; rfl)
      clear hR
      go_wp2_with fail
      go_ret
      exact ⟨by rw [hRR.out]; rfl, hW.out⟩

section
variable {A B L : Nat}
/-- What is told from a Many's place on, where so many arguments are left. -/
def afterM (A B L : Nat) (s : List UInt8) (ss : List (List UInt8)) (left size : Nat) : Sum Int Inp × List Rq :=
  if left = 0 then ((feedF A B L (Inp.none (s.drop size))).1, (if ss = [] then [] else [(ss, size)]) ++ (feedF A B L (Inp.none (s.drop size))).2)
  else feedF A B L ⟨s.drop size, ss, left, size, false, 0⟩
theorem none_step {c : UInt8} {t : List UInt8} (hc : c = 42) : stepF A B L (Inp.none (c :: t)) = (match firstF 42 A 7 (c :: t) with | .inl e => .inl e | .inr (n, k) => .inr (goneM (c :: t) n k)) := by
  unfold stepF Inp.none
  rw [if_pos rfl]
  show startF A B L (c :: t) = _
  rw [startF, if_pos hc]
  cases firstF 42 A 7 (c :: t) with
  | inl e => rfl
  | inr p => rfl
theorem many_bad {s : List UInt8} {e : Int} (hs : s.head? = some 42) (h : firstF 42 A 7 s = .inl e) : stepF A B L (Inp.none s) = .inl e := by
  cases s with
  | nil => cases hs
  | cons c t => rw [none_step (by simpa using hs), h]
theorem many_ok {s : List UInt8} {n k : Nat} (hs : s.head? = some 42) (h : firstF 42 A 7 s = .inr (n, k)) : feedF A B L (Inp.none s) = afterM A B L s [] n k := by
  have h1 : stepF A B L (Inp.none s) = .inr (goneM s n k) := by
    cases s with
    | nil => cases hs
    | cons c t => rw [none_step (by simpa using hs), h]
  unfold goneM at h1
  unfold afterM
  by_cases hn : n = 0
  · rw [if_pos hn] at h1
    rw [feed_next h1, if_pos hn]
    rfl
  · rw [if_neg hn] at h1
    rw [feed_next h1, if_neg hn, List.nil_append]
theorem arg_step {s : List UInt8} {ss : List (List UInt8)} {left size : Nat} (hl : left ≠ 0) : stepF A B L ⟨s.drop size, ss, left, size, false, 0⟩ = (match firstF 36 B 6 (s.drop size) with | .inl e => .inl e | .inr (k, m) => .inr (⟨(s.drop size).drop m, ss, left, size + m, true, k⟩, [])) := by
  unfold stepF
  rw [if_neg hl, if_pos rfl]
  rfl
theorem arg_stop {s : List UInt8} {ss : List (List UInt8)} {left size : Nat} (hl : left ≠ 0) (h : firstF 36 B 6 (s.drop size) = .inl (-1)) : afterM A B L s ss left size = (.inr ⟨s.drop size, ss, left, size, false, 0⟩, []) := by
  unfold afterM
  rw [if_neg hl]
  exact feed_stop (by rw [arg_step hl, h])
theorem arg_dead {s : List UInt8} {ss : List (List UInt8)} {left size : Nat} {e : Int} (hl : left ≠ 0) (h : firstF 36 B 6 (s.drop size) = .inl e) (he : e ≠ -1) : afterM A B L s ss left size = (.inl e, []) := by
  unfold afterM
  rw [if_neg hl]
  exact feed_dead (by rw [arg_step hl, h]) he
theorem arg_next {s : List UInt8} {ss : List (List UInt8)} {left size k m : Nat} (hl : left ≠ 0) (h : firstF 36 B 6 (s.drop size) = .inr (k, m)) : afterM A B L s ss left size = feedF A B L ⟨s.drop (size + m), ss, left, size + m, true, k⟩ := by
  unfold afterM
  rw [if_neg hl, feed_next (y := ⟨(s.drop size).drop m, ss, left, size + m, true, k⟩) (q := []) (by rw [arg_step hl, h]), List.nil_append, List.drop_drop]
theorem body_step {r : List UInt8} {ss : List (List UInt8)} {left size k : Nat} (hl : left ≠ 0) : stepF A B L ⟨r, ss, left, size, true, k⟩ = bodyG r ss left size k := by
  unfold stepF
  rw [if_neg hl, if_neg (by simp)]
  rfl
theorem body_short {r : List UInt8} {ss : List (List UInt8)} {left size k : Nat} (hl : left ≠ 0) (h : r.length < k) : feedF A B L ⟨r, ss, left, size, true, k⟩ = (.inr ⟨r, ss, left, size, true, k⟩, []) :=
  feed_stop (by rw [body_step hl, bodyG, if_pos h])
theorem body_part {r : List UInt8} {ss : List (List UInt8)} {left size k : Nat} (hl : left ≠ 0) (h : endsF (r.drop k) = -1) : feedF A B L ⟨r, ss, left, size, true, k⟩ = (.inr ⟨r, ss, left, size, true, k⟩, []) :=
  feed_stop (by
    rw [body_step hl, bodyG]
    by_cases hk : r.length < k
    · rw [if_pos hk]
    · rw [if_neg hk, if_neg (by rw [h]; decide), h])
theorem body_dead {r : List UInt8} {ss : List (List UInt8)} {left size k : Nat} (hl : left ≠ 0) (h : endsF (r.drop k) = 5) : feedF A B L ⟨r, ss, left, size, true, k⟩ = (.inl 5, []) :=
  feed_dead (by
    have hk : ¬ r.length < k := fun hk => by rw [List.drop_eq_nil_of_le (by omega)] at h; exact absurd h (by decide)
    rw [body_step hl, bodyG, if_neg hk, if_neg (by rw [h]; decide), h]) (by decide)
theorem body_whole {s : List UInt8} {ss : List (List UInt8)} {left size k : Nat} (h : endsF ((s.drop size).drop k) = 0) :
    feedF A B L ⟨s.drop size, ss, left + 1, size, true, k⟩ = afterM A B L s (ss ++ [(s.drop size).take k]) left (size + k + 2) := by
  have hk : ¬ (s.drop size).length < k := fun hk => by rw [List.drop_eq_nil_of_le (show (s.drop size).length ≤ k by omega)] at h; exact absurd h (by decide)
  have hs : stepF A B L ⟨s.drop size, ss, left + 1, size, true, k⟩ = .inr (goneB (s.drop size) ss (left + 1) size k) := by
    rw [body_step (by omega), bodyG, if_neg hk, if_pos h]
  have hd : (s.drop size).drop (k + 2) = s.drop (size + k + 2) := by rw [List.drop_drop]; congr 1
  unfold goneB at hs
  rw [hd] at hs
  unfold afterM
  by_cases h0 : left = 0
  · rw [if_pos (by omega)] at hs
    rw [feed_next hs, if_pos h0, if_neg (by simp)]
  · rw [if_neg (by omega)] at hs
    rw [feed_next hs, if_neg h0, List.nil_append]
    rfl
end

/-- How the reference's reader of a request ends: a fault; what there is of it; it is whole. -/
def OneEnd (A B L : Nat) (s : ByteArray) (w : World) (e : Ending) (w' : World) : Prop := Below w.heap.size w w' ∧
  ((∃ (k : Int) (r : ByteArray) (a : Option Addr) (n c l z nd : Nat) (b : Bool), k ≠ 0 ∧ k ≠ -1 ∧ feedF A B L (Inp.none s.data.toList) = (.inl k, []) ∧
      e = .returned (.tuple #[.agg #[.string r, .slice a n c, .int .i64 l, .int .i64 z, .bool b, .int .i64 nd, .int .i64 0], .int .i64 k])) ∨
   (∃ (y : MI) (a : Option Addr) (c : Nat), feedF A B L (Inp.none s.data.toList) = (.inr y.inp, []) ∧ y.args.length ≤ 65536 ∧ w'.ownsRow w.heap.size 9 1 (.slice a y.args.length c) y.args.length (strV y.args) ∧
      e = .returned (.tuple #[.agg #[.string y.rest, .slice a y.args.length c, .int .i64 y.left, .int .i64 y.size, .bool y.body, .int .i64 y.need, .int .i64 0], .int .i64 (-1)])) ∨
   (∃ (ss : List ByteArray) (a : Option Addr) (c size : Nat), 0 < size ∧ size ≤ s.size ∧ ss.length ≤ 65536 ∧ feedF A B L (Inp.none s.data.toList) = afterM A B L s.data.toList (txt ss) 0 size ∧ w'.ownsRow w.heap.size 9 1 (.slice a ss.length c) ss.length (strV ss) ∧
      e = .returned (.tuple #[.agg #[.string ⟨#[]⟩, .slice a ss.length c, .int .i64 0, .int .i64 size, .bool false, .int .i64 0, .int .i64 0], .int .i64 0])))
end Go.Proofs.YtjcicbkjngpcoaaGreatDoor
