/-
  The walk of the reference's reader of a line's end; what is gone past of a Many, as mathematics. Premises: none but that lengths are small.
-/
import Derived.Test.YtjidopgohdlfdaaGreatDoorRF
import Derived.Test.YtjidopgohdlfdaaGreatDoorJB

namespace Go.Proofs.YtjidopgohdlfdaaGreatDoor
open Go.RowKit Dec Pq S4

/-- What is left to ask of a line's end, behind so many bytes. -/
def endK (l : List UInt8) (k : Nat) : Int := if k = 0 then endsF l else if k = 1 then lfE (l.drop 1) else 0
set_option maxRecDepth 100000 in
set_option maxHeartbeats 2000000 in
theorem rends_any (s : ByteArray) (w : World) (hs : s.size ≤ 1000000000) : Calls Tryz.prog 63 #[.string s] w fun e w' => e = .returned (.int .i64 (endsF s.data.toList)) ∧ ∃ m, w' = w.drewN m := by
  obtain ⟨R, hR⟩ : ∃ R, endsF s.data.toList = R := ⟨_, rfl⟩
  rw [hR]
  have hR0 : Hid (endK s.data.toList 0 = R) := Lib.hid hR
  clear hR
  go_enter Tryz.func63, Tryz.ntmps63
  go_wp2_with fail
  go_loopw [4] (fun i wr => ∃ k : Nat, k ≤ 2 ∧ i = .int .i64 k ∧ Hid (endK s.data.toList k = R) ∧ Hid (∃ m, wr = w.drewN m)) (fun i _ => 2 - (intOf i).toNat)
  case atStart => exact ⟨0, by omega, rfl, hR0, Lib.hid ⟨0, rfl⟩⟩
  case round =>
    clear hR0
    obtain ⟨k, hk, rfl, hR, hW⟩ := hrel
    obtain rfl | rfl | rfl : k = 0 ∨ k = 1 ∨ k = 2 := by omega
    · by_cases h0 : s = ByteArray.empty
      · subst h0
        have hRR : Hid (R = -1) := Lib.hid (by rw [← hR.out]; rfl)
        clear hR
        go_wp2_with fail
        go_ret
        exact ⟨by rw [hRR.out]; rfl, hW.out⟩
      · have h1 : 0 < s.size := Nat.pos_of_ne_zero fun e => h0 (bytes_inj (by rw [List.eq_nil_of_length_eq_zero (l := s.data.toList) (by rw [size_len]; exact e)]; rfl))
        have hcons := str_cons s 0 h1
        rw [List.drop_zero] at hcons
        by_cases h13 : s[(0 : Nat)] = 13
        · have hq : ((s[(0 : Nat)].toNat : Int) != (((⟨#[13, 10]⟩ : ByteArray)[(0 : Nat)]'(by decide)).toNat : Int)) = false := by rw [h13]; rfl
          have hRR : Hid (endK s.data.toList 1 = R) := Lib.hid (by rw [← hR.out, hcons, h13]; rfl)
          clear hR hcons h13
          go_wp2_with fail
          go_quiet (fail)
          go_wp2_with fail
          go_roundw
          case rel => exact ⟨1, by omega, rfl, hRR, Lib.hid (drewN_trans hW.out _)⟩
          case measure => simp [intOf]
        · have hq : ((s[(0 : Nat)].toNat : Int) != (((⟨#[13, 10]⟩ : ByteArray)[(0 : Nat)]'(by decide)).toNat : Int)) = true := bne_iff_ne.2 fun e => h13 (UInt8.toNat_inj.1 (Int.ofNat_inj.1 e))
          have hRR : Hid (R = 5) := Lib.hid (by rw [← hR.out, hcons]; simp [endK, endsF, h13])
          clear hR hcons h13
          go_wp2_with fail
          go_quiet (fail)
          go_wp2_with fail
          go_ret
          exact ⟨by rw [hRR.out]; rfl, drewN_trans hW.out _⟩
    · by_cases h0 : s.size ≤ 1
      · have hRR : Hid (R = -1) := Lib.hid (by rw [← hR.out]; unfold endK; rw [drop_end (by omega)]; rfl)
        clear hR
        go_wp2_with fail
        go_ret
        exact ⟨by rw [hRR.out]; rfl, hW.out⟩
      · have h1 : 1 < s.size := by omega
        have hcons := str_cons s 1 h1
        by_cases h13 : s[(1 : Nat)] = 10
        · have hq : ((s[(1 : Nat)].toNat : Int) != (((⟨#[13, 10]⟩ : ByteArray)[(1 : Nat)]'(by decide)).toNat : Int)) = false := by rw [h13]; rfl
          have hRR : Hid (endK s.data.toList 2 = R) := Lib.hid (by rw [← hR.out]; simp only [endK]; rw [hcons, h13]; rfl)
          clear hR hcons h13
          go_wp2_with fail
          go_quiet (fail)
          go_wp2_with fail
          go_roundw
          case rel => exact ⟨2, by omega, rfl, hRR, Lib.hid (drewN_trans hW.out _)⟩
          case measure => simp [intOf]
        · have hq : ((s[(1 : Nat)].toNat : Int) != (((⟨#[13, 10]⟩ : ByteArray)[(1 : Nat)]'(by decide)).toNat : Int)) = true := bne_iff_ne.2 fun e => h13 (UInt8.toNat_inj.1 (Int.ofNat_inj.1 e))
          have hRR : Hid (R = 5) := Lib.hid (by rw [← hR.out]; simp only [endK]; rw [hcons]; simp [lfE, h13])
          clear hR hcons h13
          go_wp2_with fail
          go_quiet (fail)
          go_wp2_with fail
          go_ret
          exact ⟨by rw [hRR.out]; rfl, drewN_trans hW.out _⟩
    · have hRR : Hid (R = 0) := Lib.hid (by rw [← hR.out]; rfl)
      clear hR
      go_wp2_with fail
      go_ret
      exact ⟨by rw [hRR.out]; rfl, hW.out⟩

section
variable {A B L : Nat}
/-- What is told from a Many's place on, where so many arguments are left. -/
def afterM (A B L : Nat) (s : List UInt8) (ss : List (List UInt8)) (left size : Nat) : Sum Int Inp × List Rq :=
  if left = 0 then ((feedF A B L (Inp.none (s.drop size))).1, (if ss = [] then [] else [(ss, size)]) ++ (feedF A B L (Inp.none (s.drop size))).2)
  else feedF A B L ⟨s.drop size, ss, left, size, false, 0⟩
theorem none_step {c : UInt8} {t : List UInt8} (hc : c = 42) : stepF A B L (Inp.none (c :: t)) = (match firstF 42 A 7 (c :: t) with | .inl e => .inl e | .inr (n, k) => .inr (goneM (c :: t) n k)) := by
  unfold stepF Inp.none
  rw [if_pos rfl]
  show startF A B L (c :: t) = _
  rw [startF, if_pos hc]
  cases firstF 42 A 7 (c :: t) with
  | inl e => rfl
  | inr p => rfl
theorem many_bad {s : List UInt8} {e : Int} (hs : s.head? = some 42) (h : firstF 42 A 7 s = .inl e) : stepF A B L (Inp.none s) = .inl e := by
  cases s with
  | nil => cases hs
  | cons c t => rw [none_step (by simpa using hs), h]
theorem many_ok {s : List UInt8} {n k : Nat} (hs : s.head? = some 42) (h : firstF 42 A 7 s = .inr (n, k)) : feedF A B L (Inp.none s) = afterM A B L s [] n k := by
  have h1 : stepF A B L (Inp.none s) = .inr (goneM s n k) := by
    cases s with
    | nil => cases hs
    | cons c t => rw [none_step (by simpa using hs), h]
  unfold goneM at h1
  unfold afterM
  by_cases hn : n = 0
  · rw [if_pos hn] at h1
    rw [feed_next h1, if_pos hn]
    rfl
  · rw [if_neg hn] at h1
    rw [feed_next h1, if_neg hn, List.nil_append]
theorem arg_step {s : List UInt8} {ss : List (List UInt8)} {left size : Nat} (hl : left ≠ 0) : stepF A B L ⟨s.drop size, ss, left, size, false, 0⟩ = (match firstF 36 B 6 (s.drop size) with | .inl e => .inl e | .inr (k, m) => .inr (⟨(s.drop size).drop m, ss, left, size + m, true, k⟩, [])) := by
  unfold stepF
  rw [if_neg hl, if_pos rfl]
  rfl
theorem arg_stop {s : List UInt8} {ss : List (List UInt8)} {left size : Nat} (hl : left ≠ 0) (h : firstF 36 B 6 (s.drop size) = .inl (-1)) : afterM A B L s ss left size = (.inr ⟨s.drop size, ss, left, size, false, 0⟩, []) := by
  unfold afterM
  rw [if_neg hl]
  exact feed_stop (by rw [arg_step hl, h])
theorem arg_dead {s : List UInt8} {ss : List (List UInt8)} {left size : Nat} {e : Int} (hl : left ≠ 0) (h : firstF 36 B 6 (s.drop size) = .inl e) (he : e ≠ -1) : afterM A B L s ss left size = (.inl e, []) := by
  unfold afterM
  rw [if_neg hl]
  exact feed_dead (by rw [arg_step hl, h]) he
theorem arg_next {s : List UInt8} {ss : List (List UInt8)} {left size k m : Nat} (hl : left ≠ 0) (h : firstF 36 B 6 (s.drop size) = .inr (k, m)) : afterM A B L s ss left size = feedF A B L ⟨s.drop (size + m), ss, left, size + m, true, k⟩ := by
  unfold afterM
  rw [if_neg hl, feed_next (y := ⟨(s.drop size).drop m, ss, left, size + m, true, k⟩) (q := []) (by rw [arg_step hl, h]), List.nil_append, List.drop_drop]
theorem body_step {r : List UInt8} {ss : List (List UInt8)} {left size k : Nat} (hl : left ≠ 0) : stepF A B L ⟨r, ss, left, size, true, k⟩ = bodyG r ss left size k := by
  unfold stepF
  rw [if_neg hl, if_neg (by simp)]
  rfl
theorem body_short {r : List UInt8} {ss : List (List UInt8)} {left size k : Nat} (hl : left ≠ 0) (h : r.length < k) : feedF A B L ⟨r, ss, left, size, true, k⟩ = (.inr ⟨r, ss, left, size, true, k⟩, []) :=
  feed_stop (by rw [body_step hl, bodyG, if_pos h])
theorem body_part {r : List UInt8} {ss : List (List UInt8)} {left size k : Nat} (hl : left ≠ 0) (h : endsF (r.drop k) = -1) : feedF A B L ⟨r, ss, left, size, true, k⟩ = (.inr ⟨r, ss, left, size, true, k⟩, []) :=
  feed_stop (by
    rw [body_step hl, bodyG]
    by_cases hk : r.length < k
    · rw [if_pos hk]
    · rw [if_neg hk, if_neg (by rw [h]; decide), h])
theorem body_dead {r : List UInt8} {ss : List (List UInt8)} {left size k : Nat} (hl : left ≠ 0) (h : endsF (r.drop k) = 5) : feedF A B L ⟨r, ss, left, size, true, k⟩ = (.inl 5, []) :=
  feed_dead (by
    have hk : ¬ r.length < k := fun hk => by rw [List.drop_eq_nil_of_le (by omega)] at h; exact absurd h (by decide)
    rw [body_step hl, bodyG, if_neg hk, if_neg (by rw [h]; decide), h]) (by decide)
theorem body_whole {s : List UInt8} {ss : List (List UInt8)} {left size k : Nat} (h : endsF ((s.drop size).drop k) = 0) :
    feedF A B L ⟨s.drop size, ss, left + 1, size, true, k⟩ = afterM A B L s (ss ++ [(s.drop size).take k]) left (size + k + 2) := by
  have hk : ¬ (s.drop size).length < k := fun hk => by rw [List.drop_eq_nil_of_le (show (s.drop size).length ≤ k by omega)] at h; exact absurd h (by decide)
  have hs : stepF A B L ⟨s.drop size, ss, left + 1, size, true, k⟩ = .inr (goneB (s.drop size) ss (left + 1) size k) := by
    rw [body_step (by omega), bodyG, if_neg hk, if_pos h]
  have hd : (s.drop size).drop (k + 2) = s.drop (size + k + 2) := by rw [List.drop_drop]; congr 1
  unfold goneB at hs
  rw [hd] at hs
  unfold afterM
  by_cases h0 : left = 0
  · rw [if_pos (by omega)] at hs
    rw [feed_next hs, if_pos h0, if_neg (by simp)]
  · rw [if_neg (by omega)] at hs
    rw [feed_next hs, if_neg h0, List.nil_append]
    rfl
end

/-- How the reference's reader of a request ends: a fault; what there is of it; it is whole. -/
def OneEnd (A B L : Nat) (s : ByteArray) (w : World) (e : Ending) (w' : World) : Prop := Below w.heap.size w w' ∧
  ((∃ (k : Int) (r : ByteArray) (a : Option Addr) (n c l z nd : Nat) (b : Bool), k ≠ 0 ∧ k ≠ -1 ∧ feedF A B L (Inp.none s.data.toList) = (.inl k, []) ∧
      e = .returned (.tuple #[.agg #[.string r, .slice a n c, .int .i64 l, .int .i64 z, .bool b, .int .i64 nd, .int .i64 0], .int .i64 k])) ∨
   (∃ (y : MI) (a : Option Addr) (c : Nat), feedF A B L (Inp.none s.data.toList) = (.inr y.inp, []) ∧ y.args.length ≤ 65536 ∧ w'.ownsRow w.heap.size 9 1 (.slice a y.args.length c) y.args.length (strV y.args) ∧
      e = .returned (.tuple #[.agg #[.string y.rest, .slice a y.args.length c, .int .i64 y.left, .int .i64 y.size, .bool y.body, .int .i64 y.need, .int .i64 0], .int .i64 (-1)])) ∨
   (∃ (ss : List ByteArray) (a : Option Addr) (c size : Nat), 0 < size ∧ size ≤ s.size ∧ ss.length ≤ 65536 ∧ feedF A B L (Inp.none s.data.toList) = afterM A B L s.data.toList (txt ss) 0 size ∧ w'.ownsRow w.heap.size 9 1 (.slice a ss.length c) ss.length (strV ss) ∧
      e = .returned (.tuple #[.agg #[.string ⟨#[]⟩, .slice a ss.length c, .int .i64 0, .int .i64 size, .bool false, .int .i64 0, .int .i64 0], .int .i64 0])))
end Go.Proofs.YtjidopgohdlfdaaGreatDoor

/-
  The walk of the reference's reader of a Many. Premises: lengths are small; the limits are such as the document's.
-/
namespace Go.Proofs.YtjidopgohdlfdaaGreatDoor
open Go.RowKit Dec Pq S4

/-- A Many under way: the block g holds the Input so far, whose arguments are a row of their own. -/
structure MS (W1 : World) (g : Nat) (u : Value) (ss : List ByteArray) (cs : Array Value) (X : World) : Prop where
  blk : X.heap[g]? = some (.cells cs 62 (0, 0))
  own : X.ownsRow W1.heap.size 9 1 u ss.length (strV ss)
  ne : u.ownBlock ≠ some g
  bel : Below W1.heap.size W1 X
  ge : W1.heap.size ≤ g
section
variable {W1 X Y : World} {g : Nat} {u : Value} {ss : List ByteArray} {cs : Array Value}
theorem MS.lt (h : MS W1 g u ss cs X) : g < X.heap.size := heap_lt h.blk
theorem MS.on (h : MS W1 g u ss cs X) (hb : Below X.heap.size X Y) : MS W1 g u ss cs Y :=
  ⟨(hb.block g h.lt).trans h.blk, h.own.kept (row := some X.heap.size) (grown_on hb _) (Or.inr fun e => by have := (h.own.lt _ e).2; omega), h.ne, h.bel.trans (hb.mono h.bel.size), h.ge⟩
theorem MS.drew (h : MS W1 g u ss cs X) : MS W1 g u ss cs X.drew := h.on (Below.drew (Below.refl _ _))
theorem MS.poke (h : MS W1 g u ss cs X) (i : Nat) (v : Value) (cs' : Array Value) (e : cs.setIfInBounds i v = cs') : MS W1 g u ss cs' (X.setCell ⟨g, i, none⟩ v) := by
  refine ⟨?_, h.own.kept (row := some g) (grown_poke X g i v) (Or.inr h.ne), h.ne, h.bel.setCell (p := ⟨g, i, none⟩) h.ge _, h.ge⟩
  rw [← e]
  have hb := h.blk
  simp [World.setCell, Array.getElem?_modify, hb]
theorem own_low {b b' : Nat} {n : Nat} {xs : List Value} (h : X.ownsRow b 9 1 u n xs) (hb : b' ≤ b) : X.ownsRow b' 9 1 u n xs := by
  refine ⟨h.1, ?_⟩
  rcases h.2 with h0 | ⟨k, cap, cur, e1, e2, e3⟩
  · exact Or.inl h0
  · exact Or.inr ⟨k, cap, cur, e1, Nat.le_trans hb e2, e3⟩
theorem MS.fin {w : World} {b : Nat} {o0 o1 o2 o3 o4 o5 o6 : Value} (h : MS W1 g u ss cs X) (hr : W1.heap[b]? = some (.cells #[o0, o1, o2, o3, o4, o5, o6] 62 (0, 0))) (hbW : Below w.heap.size w W1) (hb : w.heap.size ≤ b) (v0 v1 v2 v3 v4 v5 v6 : Value) :
    (((((((X.setCell ⟨b, 0, none⟩ v0).setCell ⟨b, 1, none⟩ v1).setCell ⟨b, 2, none⟩ v2).setCell ⟨b, 3, none⟩ v3).setCell ⟨b, 4, none⟩ v4).setCell ⟨b, 5, none⟩ v5).setCell ⟨b, 6, none⟩ v6).heap[b]? = some (.cells #[v0, v1, v2, v3, v4, v5, v6] 62 (0, 0)) ∧
    Below w.heap.size w (((((((X.setCell ⟨b, 0, none⟩ v0).setCell ⟨b, 1, none⟩ v1).setCell ⟨b, 2, none⟩ v2).setCell ⟨b, 3, none⟩ v3).setCell ⟨b, 4, none⟩ v4).setCell ⟨b, 5, none⟩ v5).setCell ⟨b, 6, none⟩ v6) ∧
    (((((((X.setCell ⟨b, 0, none⟩ v0).setCell ⟨b, 1, none⟩ v1).setCell ⟨b, 2, none⟩ v2).setCell ⟨b, 3, none⟩ v3).setCell ⟨b, 4, none⟩ v4).setCell ⟨b, 5, none⟩ v5).setCell ⟨b, 6, none⟩ v6).ownsRow w.heap.size 9 1 u ss.length (strV ss) := by
  have hlt := heap_lt hr
  have hX := (h.bel.block b hlt).trans hr
  obtain ⟨k1, k2, k3, k4⟩ := store7 hX v0 v1 v2 v3 v4 v5 v6
  have kb := k4 0 X (Nat.zero_le _) (Below.refl 0 X)
  refine ⟨k1, k4 _ _ hb (hbW.trans (h.bel.mono hbW.size)), own_low (h.own.kept (row := some b) ⟨kb.os, kb.tape, kb.output, kb.size, fun i _ hi => k2 i (fun e => hi (by rw [e]))⟩ (Or.inr fun e => by have := (h.own.lt _ e).1; omega)) hbW.size⟩
theorem MS.arg {W2 w1 : World} {x : ByteArray} {n cap gb : Nat} (h : MS W1 g u ss cs X) (hb : Below X.heap.size X W2)
    (hown : w1.ownsRow W1.heap.size 9 1 (.slice (some ⟨gb, 0, none⟩) n cap) (ss.length + 1) (strV ss ++ [.string x])) (hg : W2.grownBy w1 u.ownBlock) (hat : u.ownBlock = some gb ∨ gb = W2.heap.size) :
    MS W1 g (.slice (some ⟨gb, 0, none⟩) n cap) (ss ++ [x]) cs w1 := by
  have h2 := h.on hb
  have e : strV (ss ++ [x]) = strV ss ++ [.string x] := by simp [strV]
  refine ⟨?_, by rw [e, List.length_append]; exact hown, ?_, h2.bel.grown hg h2.bel.size (fun k hk => (h.own.lt k hk).1), h.ge⟩
  · rw [hg.block g h2.lt (fun e => h.ne e.symm)]; exact h2.blk
  · intro e2
    have e3 : gb = g := Option.some.inj e2
    rcases hat with h3 | h3
    · exact h.ne (by rw [h3, e3])
    · have := h2.lt; omega
end
/-- How much is left in a block. -/
def leftAt (w : World) (g : Nat) : Nat := match w.cell? ⟨g, 2, none⟩ with
  | some (.int _ z) => z.toNat
  | _ => 0
theorem leftAt_of {w : World} {g : Nat} {r u b n d z : Value} {l : Nat} (h : w.heap[g]? = some (.cells #[r, u, .int .i64 (l : Int), z, b, n, d] 62 (0, 0))) : leftAt w g = l := by
  unfold leftAt
  rw [Lib.cell_of_heap h 2]
  simp
theorem none_mi (s : ByteArray) : (MI.inp ⟨s, [], 0, 0, false, 0⟩) = Inp.none s.data.toList := rfl
set_option maxRecDepth 100000 in
set_option maxHeartbeats 8000000 in
theorem rmany_any (s : ByteArray) (A B L : Nat) (w : World) (hs : s.size ≤ 1000000000) (hh : s.data.toList.head? = some 42) (hA : A ≤ 65536) (hB : B ≤ 1048576) :
    Calls Tryz.prog 46 #[.string s, .agg #[.int .i64 A, .int .i64 B, .int .i64 L]] w (OneEnd A B L s w) := by
  have n3 := heap_alloc_new w (.cells #[.int .i64 A, .int .i64 B, .int .i64 L] 67)
  have n4 := heap_alloc_new (w.alloc (.cells #[.int .i64 A, .int .i64 B, .int .i64 L] 67)) (.cells #[.string ⟨#[]⟩, .slice none 0 0, .int .i64 0, .int .i64 0, .bool false, .int .i64 0, .int .i64 0] 62)
  have n3' := (Lib.alloc_old (w.alloc (.cells #[.int .i64 A, .int .i64 B, .int .i64 L] 67)) (.cells #[.string ⟨#[]⟩, .slice none 0 0, .int .i64 0, .int .i64 0, .bool false, .int .i64 0, .int .i64 0] 62) w.heap.size (by simp)).trans n3
  simp only [World.size_alloc] at n4
  have hWs : ((w.alloc (.cells #[.int .i64 A, .int .i64 B, .int .i64 L] 67)).alloc (.cells #[.string ⟨#[]⟩, .slice none 0 0, .int .i64 0, .int .i64 0, .bool false, .int .i64 0, .int .i64 0] 62)).heap.size = w.heap.size + 2 := by simp
  have hWb : Below w.heap.size w ((w.alloc (.cells #[.int .i64 A, .int .i64 B, .int .i64 L] 67)).alloc (.cells #[.string ⟨#[]⟩, .slice none 0 0, .int .i64 0, .int .i64 0, .bool false, .int .i64 0, .int .i64 0] 62)) := ((Below.refl _ _).alloc (Nat.le_refl _) _).alloc (by simp) _
  clear n3
  go_enter Tryz.func46, Tryz.ntmps46
  go_upto_region 1 with fail
  generalize ((w.alloc (.cells #[.int .i64 A, .int .i64 B, .int .i64 L] 67)).alloc (.cells #[.string ⟨#[]⟩, .slice none 0 0, .int .i64 0, .int .i64 0, .bool false, .int .i64 0, .int .i64 0] 62)) = W1 at n3' n4 hWs hWb ⊢
  have n3H := Lib.hid n3'
  have n4H := Lib.hid n4
  have hWsH := Lib.hid hWs
  have hWbH := Lib.hid hWb
  obtain ⟨l0, l1, l2⟩ := lim_facts n3'
  have hlt0 : w.heap.size < W1.heap.size := by omega
  have hlt1 : w.heap.size + 1 < W1.heap.size := by omega
  have hF0 : Calls Tryz.prog 62 #[.string s, .int .u8 42, .int .i64 A, .int .i64 7] W1 (FirstEnd (firstF 42 A 7 s.data.toList) W1) := rfirst_any s 42 A 7 W1 (by omega) (by omega)
  clear n3' n4 hWs hWb
  cases hR : firstF 42 A 7 s.data.toList with
  | inl e =>
    rw [hR] at hF0
    have hst := Lib.hid (many_bad (B := B) (L := L) hh hR)
    have hF : Hid (Calls Tryz.prog 62 #[.string s, .int .u8 42, .int .i64 A, .int .i64 7] W1 fun x w' => x = .returned (.tuple #[.int .i64 0, .int .i64 0, .int .i64 e]) ∧ Below W1.heap.size W1 w') := Lib.hid hF0
    have hne : (e != 0) = true := bne_iff_ne.2 (by rcases step_err hst.out with h | h <;> omega)
    clear hF0 hR
    go_wp2_with (go_at_call 62; ((with_reducible refine hF.out.mono ?_); rintro e w2 ⟨rfl, hb2⟩; obtain ⟨i0, i1, i2, i3, i4, i5, i6, j0, j1, j2, j3, j4, j5, j6⟩ := in_facts ((hb2.block (w.heap.size + 1) hlt1).trans n4H.out)))
    have hms : MS W1 W1.heap.size (.slice none 0 0) [] #[] (w2.alloc (.cells #[] 9)) → True := fun _ => trivial
    have hX := (hb2.block (w.heap.size + 1) hlt1).trans n4H.out
    obtain ⟨k1, k2, k3, k4⟩ := store7 hX (.string s) (.slice none 0 0) (.int .i64 0) (.int .i64 0) (.bool false) (.int .i64 0) (.int .i64 0)
    have k4' := k4 w.heap.size w (by omega) (onB hWbH.out hb2)
    clear k2 k3 k4 hX hms i0 i1 i2 i3 i4 i5 i6 j0 j1 j2 j3 j4 j5 j6
    generalize (((((((w2.setCell ⟨w.heap.size + 1, 0, none⟩ (.string s)).setCell ⟨w.heap.size + 1, 1, none⟩ (.slice none 0 0)).setCell ⟨w.heap.size + 1, 2, none⟩ (.int .i64 0)).setCell ⟨w.heap.size + 1, 3, none⟩ (.int .i64 0)).setCell ⟨w.heap.size + 1, 4, none⟩ (.bool false)).setCell ⟨w.heap.size + 1, 5, none⟩ (.int .i64 0)).setCell ⟨w.heap.size + 1, 6, none⟩ (.int .i64 0)) = w9 at k1 k4' ⊢
    obtain ⟨d0, d1, d2, d3, d4, d5, d6, _⟩ := in_facts k1
    refine bodyPost_ret (v := .tuple #[.agg #[.string s, .slice none 0 0, .int .i64 0, .int .i64 0, .bool false, .int .i64 0, .int .i64 0], .int .i64 e]) (by simp [results, Tryz.results46, go_sem, d0, d1, d2, d3, d4, d5, d6]) rfl ⟨k4', ?_⟩
    by_cases hem : e = -1
    · subst hem
      exact Or.inr (Or.inl ⟨⟨s, [], 0, 0, false, 0⟩, none, 0, feed_stop hst.out, by simp, World.ownsRow_nil _ _ _ _, rfl⟩)
    · exact Or.inl ⟨e, s, none, 0, 0, 0, 0, 0, false, bne_iff_ne.1 hne, hem, feed_dead hst.out hem, rfl⟩
  | inr p =>
    obtain ⟨n, k⟩ := p
    rw [hR] at hF0
    have hst := Lib.hid (many_ok (B := B) (L := L) hh hR)
    have hkl := firstF_len hR
    have hn := firstF_most (by omega) hR
    rw [size_len] at hkl
    have hF : Hid (Calls Tryz.prog 62 #[.string s, .int .u8 42, .int .i64 A, .int .i64 7] W1 fun x w' => x = .returned (.tuple #[.int .i64 n, .int .i64 k, .int .i64 0]) ∧ Below W1.heap.size W1 w') := Lib.hid hF0
    clear hF0 hR
    go_wp2_with (go_at_call 62; ((with_reducible refine hF.out.mono ?_); rintro e w2 ⟨rfl, hb2⟩))
    have hM0 : MS W1 w2.heap.size (.slice none 0 0) [] #[.string ⟨#[]⟩, .slice none 0 0, .int .i64 n, .int .i64 k, .bool false, .int .i64 0, .int .i64 0] (w2.alloc (.cells #[.string ⟨#[]⟩, .slice none 0 0, .int .i64 n, .int .i64 k, .bool false, .int .i64 0, .int .i64 0] 62)) :=
      ⟨heap_alloc_new _ _, World.ownsRow_nil _ _ _ _, by simp [Value.ownBlock], hb2.alloc hb2.size _, hb2.size⟩
    have hM0H := Lib.hid hM0
    clear hM0 hF l0 l1 l2
    generalize w2.alloc (.cells #[.string ⟨#[]⟩, .slice none 0 0, .int .i64 n, .int .i64 k, .bool false, .int .i64 0, .int .i64 0] 62) = W2 at hM0H ⊢
    generalize w2.heap.size = g at hM0H ⊢
    clear hb2
    obtain ⟨i0, hi, hz0, hz1', hz2'⟩ := info_parts str_info
    go_loopw [10] (fun _ wr => ∃ (ss : List ByteArray) (a : Option Addr) (c left size : Nat), Hid (MS W1 g (.slice a ss.length c) ss #[.string ⟨#[]⟩, .slice a ss.length c, .int .i64 left, .int .i64 size, .bool false, .int .i64 0, .int .i64 0] wr) ∧ 0 < size ∧ size ≤ s.size ∧ ss.length + left ≤ A ∧ Hid (feedF A B L (Inp.none s.data.toList) = afterM A B L s.data.toList (txt ss) left size)) (fun _ wr => leftAt wr g)
    case atStart => exact ⟨[], none, 0, n, k, hM0H, by omega, hkl.2, by simp; omega, Lib.hid hst.out⟩
    case round =>
      clear hM0H hst hkl hn
      obtain ⟨ss, a, c, left, size, hM, hs0, hsz, hlen, hfe⟩ := hrel
      have hla := leftAt_of hM.out.blk
      obtain ⟨i0', i1, i2, i3, i4, i5, i6, j0, j1, j2, j3, j4, j5, j6⟩ := in_facts hM.out.blk
      have hbl := Lib.hid hM.out.bel
      obtain ⟨l0, l1, l2⟩ := lim_facts ((hM.out.bel.block w.heap.size hlt0).trans n3H.out)
      obtain ⟨r0, r1, r2, r3, r4, r5, r6, q0, q1, q2, q3, q4, q5, q6⟩ := in_facts ((hM.out.bel.block (w.heap.size + 1) hlt1).trans n4H.out)
      by_cases hl0 : left = 0
      · subst hl0
        go_wp2_with fail
        obtain ⟨k1, k2, k3⟩ := hM.out.fin (w := w) n4H.out hWbH.out (Nat.le_add_right _ _) (.string ⟨#[]⟩) (.slice a ss.length c) (.int .i64 0) (.int .i64 size) (.bool false) (.int .i64 0) (.int .i64 0)
        clear i0' i1 i2 i3 i4 i5 i6 j0 j1 j2 j3 j4 j5 j6 r0 r1 r2 r3 r4 r5 r6 q0 q1 q2 q3 q4 q5 q6 l0 l1 l2
        generalize (((((((wr.setCell ⟨w.heap.size + 1, 0, none⟩ (.string ⟨#[]⟩)).setCell ⟨w.heap.size + 1, 1, none⟩ (.slice a ss.length c)).setCell ⟨w.heap.size + 1, 2, none⟩ (.int .i64 0)).setCell ⟨w.heap.size + 1, 3, none⟩ (.int .i64 size)).setCell ⟨w.heap.size + 1, 4, none⟩ (.bool false)).setCell ⟨w.heap.size + 1, 5, none⟩ (.int .i64 0)).setCell ⟨w.heap.size + 1, 6, none⟩ (.int .i64 0)) = w9 at k1 k2 k3 ⊢
        obtain ⟨d0, d1, d2, d3, d4, d5, d6, _⟩ := in_facts k1
        refine bodyPost_ret (v := .tuple #[.agg #[.string ⟨#[]⟩, .slice a ss.length c, .int .i64 0, .int .i64 size, .bool false, .int .i64 0, .int .i64 0], .int .i64 0]) (by simp [results, Tryz.results46, go_sem, d0, d1, d2, d3, d4, d5, d6]) rfl ⟨k2, ?_⟩
        exact Or.inr (Or.inr ⟨ss, a, c, size, hs0, hsz, by omega, hfe.out, k3, rfl⟩)
      · obtain ⟨l', rfl⟩ : ∃ l', left = l' + 1 := ⟨left - 1, by omega⟩
        have hFR := fun w => rfirst_any (s.extract size s.size) 36 B 6 w (by simp; omega) (by omega)
        rw [ext_data] at hFR
        obtain ⟨R, hR⟩ : ∃ R, firstF 36 B 6 (s.data.toList.drop size) = R := ⟨_, rfl⟩
        have hFH : Hid (∀ w, Calls Tryz.prog 62 #[.string (s.extract size s.size), .int .u8 36, .int .i64 B, .int .i64 6] w (FirstEnd R w)) := Lib.hid (by rw [← hR]; exact hFR)
        have hRH := Lib.hid hR
        have hD0 := Lib.hid (Below.drew (Below.refl wr.heap.size wr))
        clear hFR hR
        go_upto_region 6 with fail
        go_cut [10, 11, 12] from 34 to 44 (fun s10 s11 s12 wx => s10 = .int .i64 (rfN R) ∧ s11 = .int .i64 (rfS R) ∧ s12 = .int .i64 (rfE R) ∧ Below wr.heap.size wr wx)
        case first =>
          go_region_with ((go_at_call 62; ((with_reducible refine (hFH.out _).mono ?_); rintro e wn ⟨rfl, hbn⟩; have hbX : Below wr.heap.size wr wn := (by with_reducible exact onB hD0.out hbn))))
          all_goals go_wp2_with fail
          all_goals go_meet
          all_goals exact ⟨rfl, rfl, rfl, hbX⟩
        case rest =>
          obtain ⟨rfl, rfl, rfl, hb3⟩ := hcut
          have hM3 := hM.out.on hb3
          have hM3H := Lib.hid hM3
          have hg1 : w.heap.size + 1 < g := Nat.lt_of_lt_of_le hlt1 hM3.ge
          have hg0 : w.heap.size < g := by omega
          have hg2 : ¬ g = w.heap.size + 1 := by omega
          have hg3 : ¬ w.heap.size + 1 = g := by omega
          obtain ⟨i0', i1, i2, i3, i4, i5, i6, j0, j1, j2, j3, j4, j5, j6⟩ := in_facts hM3.blk
          obtain ⟨l0, l1, l2⟩ := lim_facts ((hM3.bel.block w.heap.size hlt0).trans n3H.out)
          obtain ⟨r0, r1, r2, r3, r4, r5, r6, q0, q1, q2, q3, q4, q5, q6⟩ := in_facts ((hM3.bel.block (w.heap.size + 1) hlt1).trans n4H.out)
          clear hM3 hb3 hD0 hFH
          cases R with
          | inl f =>
            have hst := Lib.hid (show stepF A B L ⟨s.data.toList.drop size, txt ss, l' + 1, size, false, 0⟩ = .inl f by rw [arg_step (Nat.succ_ne_zero _), hRH.out])
            have hne : (f != 0) = true := bne_iff_ne.2 (by rcases step_err hst.out with h | h <;> omega)
            have hres : f ≠ -1 → feedF A B L (Inp.none s.data.toList) = (.inl f, []) := fun h => by rw [hfe.out]; exact arg_dead (Nat.succ_ne_zero _) hRH.out h
            have hres2 : f = -1 → feedF A B L (Inp.none s.data.toList) = (.inr (MI.inp ⟨s.extract size s.size, ss, l' + 1, size, false, 0⟩), []) := fun h => by
              subst h
              rw [hfe.out, arg_stop (Nat.succ_ne_zero _) hRH.out]
              unfold MI.inp
              simp only []
              rw [ext_data]
            have hresH := Lib.hid hres
            have hres2H := Lib.hid hres2
            have hM4 := Lib.hid (hM3H.out.poke 0 (.string (s.extract size s.size)) #[.string (s.extract size s.size), .slice a ss.length c, .int .i64 ((l' + 1 : Nat) : Int), .int .i64 size, .bool false, .int .i64 0, .int .i64 0] rfl)
            have ern : rfN (.inl f) = 0 := rfl
            have ers : rfS (.inl f) = 0 := rfl
            have ere : rfE (.inl f) = f := rfl
            rw [ern, ers, ere]
            clear hres hres2 hst hM3H ern ers ere
            go_wp2_with fail
            obtain ⟨k1, k2, k3⟩ := hM4.out.fin (w := w) n4H.out hWbH.out (Nat.le_add_right _ _) (.string (s.extract size s.size)) (.slice a ss.length c) (.int .i64 ((l' : Int) + 1)) (.int .i64 size) (.bool false) (.int .i64 0) (.int .i64 0)
            clear i0' i1 i2 i3 i4 i5 i6 j0 j1 j2 j3 j4 j5 j6 r0 r1 r2 r3 r4 r5 r6 q0 q1 q2 q3 q4 q5 q6 l0 l1 l2
            generalize (((((((((wc.setCell ⟨g, 0, none⟩ (.string (s.extract size s.size))).setCell ⟨w.heap.size + 1, 0, none⟩ (.string (s.extract size s.size))).setCell ⟨w.heap.size + 1, 1, none⟩ (.slice a ss.length c)).setCell ⟨w.heap.size + 1, 2, none⟩ (.int .i64 ((l' : Int) + 1))).setCell ⟨w.heap.size + 1, 3, none⟩ (.int .i64 size)).setCell ⟨w.heap.size + 1, 4, none⟩ (.bool false)).setCell ⟨w.heap.size + 1, 5, none⟩ (.int .i64 0)).setCell ⟨w.heap.size + 1, 6, none⟩ (.int .i64 0))) = w9 at k1 k2 k3 ⊢
            obtain ⟨d0, d1, d2, d3, d4, d5, d6, _⟩ := in_facts k1
            refine bodyPost_ret (v := .tuple #[.agg #[.string (s.extract size s.size), .slice a ss.length c, .int .i64 ((l' : Int) + 1), .int .i64 size, .bool false, .int .i64 0, .int .i64 0], .int .i64 f]) (by simp [results, Tryz.results46, go_sem, d0, d1, d2, d3, d4, d5, d6]) rfl ⟨k2, ?_⟩
            by_cases hf : f = -1
            · exact Or.inr (Or.inl ⟨⟨s.extract size s.size, ss, l' + 1, size, false, 0⟩, a, c, hres2H.out hf, by show ss.length ≤ _; omega, k3, by rw [hf]; rfl⟩)
            · exact Or.inl ⟨f, s.extract size s.size, a, ss.length, c, l' + 1, size, 0, false, bne_iff_ne.1 hne, hf, hresH.out hf, rfl⟩
          | inr p =>
            obtain ⟨k9, m⟩ := p
            have hkl := firstF_len hRH.out
            have hkB := firstF_most (by omega) hRH.out
            rw [List.length_drop, size_len] at hkl
            have hnx := Lib.hid (show feedF A B L (Inp.none s.data.toList) = feedF A B L ⟨s.data.toList.drop (size + m), txt ss, l' + 1, size + m, true, k9⟩ by rw [hfe.out]; exact arg_next (Nat.succ_ne_zero _) hRH.out)
            have ern : rfN (.inr (k9, m)) = (k9 : Int) := rfl
            have ers : rfS (.inr (k9, m)) = (m : Int) := rfl
            have ere : rfE (.inr (k9, m)) = 0 := rfl
            rw [ern, ers, ere]
            clear ern ers ere hRH hfe
            have hM4 := Lib.hid (hM3H.out.poke 3 (.int .i64 ((size : Int) + m)) #[.string ⟨#[]⟩, .slice a ss.length c, .int .i64 ((l' + 1 : Nat) : Int), .int .i64 ((size : Int) + m), .bool false, .int .i64 0, .int .i64 0] rfl)
            clear hM3H
            obtain ⟨z, hz⟩ : ∃ z : Nat, z = size + m := ⟨_, rfl⟩
            rw [← hz] at hnx
            have hze : ((size : Int) + m) = (z : Int) := by omega
            have hz1 : z ≤ s.size := by omega
            have hz2 : size < z := by omega
            rw [hze] at hM4
            have hzeH := Lib.hid hze
            clear hz hze
            go_upto_region 11 with fail
            rw [hzeH.out]
            generalize wc.setCell ⟨g, 3, none⟩ (.int .i64 (z : Int)) = w4 at hM4 ⊢
            clear i0' i1 i2 i3 i4 i5 i6 j0 j1 j2 j3 j4 j5 j6 r0 r1 r2 r3 r4 r5 r6 q0 q1 q2 q3 q4 q5 q6 l0 l1 l2
            obtain ⟨i0', i1, i2, i3, i4, i5, i6, j0, j1, j2, j3, j4, j5, j6⟩ := in_facts hM4.out.blk
            obtain ⟨l0, l1, l2⟩ := lim_facts ((hM4.out.bel.block w.heap.size hlt0).trans n3H.out)
            obtain ⟨r0, r1, r2, r3, r4, r5, r6, q0, q1, q2, q3, q4, q5, q6⟩ := in_facts ((hM4.out.bel.block (w.heap.size + 1) hlt1).trans n4H.out)
            have hrd : Hid ((s.extract z s.size).data.toList = s.data.toList.drop z) := Lib.hid (ext_data s z)
            have hrz : (s.extract z s.size).size = s.size - z := by simp
            go_upto_region 12 with fail
            generalize s.extract z s.size = rest at hrd hrz ⊢
            have hrs : rest.size ≤ s.size := by omega
            have hrzH := Lib.hid hrz
            clear hrz
            by_cases hsh : rest.size < k9
            · have hL := Lib.hid (body_short (A := A) (B := B) (L := L) (r := s.data.toList.drop z) (ss := txt ss) (left := l' + 1) (size := z) (k := k9) (Nat.succ_ne_zero _) (by rw [← hrd.out, size_len]; exact hsh))
              go_wp2_with fail
              have hM4D := hM4.out
              have hM5 := Lib.hid (((hM4D.poke 4 (.bool true) #[.string ⟨#[]⟩, .slice a ss.length c, .int .i64 ((l' + 1 : Nat) : Int), .int .i64 (z : Int), .bool true, .int .i64 0, .int .i64 0] rfl).poke 5 (.int .i64 k9) #[.string ⟨#[]⟩, .slice a ss.length c, .int .i64 ((l' + 1 : Nat) : Int), .int .i64 (z : Int), .bool true, .int .i64 k9, .int .i64 0] rfl).poke 0 (.string rest) #[.string rest, .slice a ss.length c, .int .i64 ((l' + 1 : Nat) : Int), .int .i64 (z : Int), .bool true, .int .i64 k9, .int .i64 0] rfl)
              obtain ⟨k1, k2, k3⟩ := hM5.out.fin (w := w) n4H.out hWbH.out (Nat.le_add_right _ _) (.string rest) (.slice a ss.length c) (.int .i64 ((l' : Int) + 1)) (.int .i64 z) (.bool true) (.int .i64 k9) (.int .i64 0)
              clear i0' i1 i2 i3 i4 i5 i6 j0 j1 j2 j3 j4 j5 j6 r0 r1 r2 r3 r4 r5 r6 q0 q1 q2 q3 q4 q5 q6 l0 l1 l2
              generalize ((((((((((w4.setCell ⟨g, 4, none⟩ (.bool true)).setCell ⟨g, 5, none⟩ (.int .i64 k9)).setCell ⟨g, 0, none⟩ (.string rest)).setCell ⟨w.heap.size + 1, 0, none⟩ (.string rest)).setCell ⟨w.heap.size + 1, 1, none⟩ (.slice a ss.length c)).setCell ⟨w.heap.size + 1, 2, none⟩ (.int .i64 ((l' : Int) + 1))).setCell ⟨w.heap.size + 1, 3, none⟩ (.int .i64 z)).setCell ⟨w.heap.size + 1, 4, none⟩ (.bool true)).setCell ⟨w.heap.size + 1, 5, none⟩ (.int .i64 k9)).setCell ⟨w.heap.size + 1, 6, none⟩ (.int .i64 0)) = w9 at k1 k2 k3 ⊢
              obtain ⟨d0, d1, d2, d3, d4, d5, d6, _⟩ := in_facts k1
              refine bodyPost_ret (v := .tuple #[.agg #[.string rest, .slice a ss.length c, .int .i64 ((l' : Int) + 1), .int .i64 z, .bool true, .int .i64 k9, .int .i64 0], .int .i64 (-1)]) (by simp [results, Tryz.results46, go_sem, d0, d1, d2, d3, d4, d5, d6]) rfl ⟨k2, ?_⟩
              exact Or.inr (Or.inl ⟨⟨rest, ss, l' + 1, z, true, k9⟩, a, c, by rw [hnx.out, hL.out, ← hrd.out]; rfl, by show ss.length ≤ _; omega, k3, rfl⟩)
            · have hE := Lib.hid (fun w => rends_any (rest.extract k9 rest.size) w (by simp; omega))
              rw [ext_data, hrd.out] at hE
              rcases endsF_cases ((s.data.toList.drop z).drop k9) with he | he | he
              · rw [he] at hE
                have hend := Lib.hid he
                clear he
                go_upto_region 20 with (go_at_call 63; ((with_reducible refine (hE.out _).mono ?_); rintro e w5 ⟨rfl, n5, rfl⟩))
                have hM4D : MS W1 g (.slice a ss.length c) ss #[.string ⟨#[]⟩, .slice a ss.length c, .int .i64 ((l' + 1 : Nat) : Int), .int .i64 (z : Int), .bool false, .int .i64 0, .int .i64 0] (w4.drewN n5) := hM4.out.on (drewN_below w4 n5)
                have hk9 : k9 ≤ rest.size := by omega
                have hlen2 := endsF_len hend.out
                rw [List.length_drop, List.length_drop, size_len] at hlen2
                have hnx2 := Lib.hid (show feedF A B L (Inp.none s.data.toList) = afterM A B L s.data.toList (txt (ss ++ [rest.extract 0 k9])) l' (z + k9 + 2) by
                  rw [hnx.out, body_whole hend.out, ← hrd.out, ← S4.head_data, txt_snoc])
                clear i0' i1 i2 i3 i4 i5 i6 j0 j1 j2 j3 j4 j5 j6 r0 r1 r2 r3 r4 r5 r6 q0 q1 q2 q3 q4 q5 q6 l0 l1 l2 hnx hrd hend
                generalize w4.drewN n5 = w6 at hM4D ⊢
                obtain ⟨i0', i1, i2, i3, i4, i5, i6, j0, j1, j2, j3, j4, j5, j6⟩ := in_facts hM4D.blk
                have hM6 := Lib.hid hM4D
                have hglt := hM4D.lt
                have hsz6 := hM4D.bel.size
                have hM4H := Lib.hid hM4
                clear hM4D hM4 hM4H
                go_region_law (refine step_append_lies _ rfl (.tmp 81) (.tmp 85) 49 rfl W1.heap.size 9 i0 _ 1 16 Tryz.underlying49 hi hz0 hz1' hz2' rfl (by decide) (.slice a ss.length c) ss.length (strV ss) (by simp [Act.eval]) (hM6.out.own.alloc _) ⟨w6.heap.size, 0, none⟩ 1 1 [.string (rest.extract 0 k9)] (by simp [Act.eval]) rfl (one_cell w6 _) (one_str _) (by decide) (by unfold maxLen; omega) (by omega) (by simp; omega) _ rfl ?_; intro gb cap2 w7 hown hgr hat hlt; have hM7 := hM6.out.arg ((Below.refl _ _).alloc (Nat.le_refl _) _).drew hown hgr hat; obtain ⟨d0, d1, d2, d3, d4, d5, d6, e0, e1, e2, e3, e4, e5, e6⟩ := in_facts hM7.blk; have hM7H := Lib.hid hM7; clear hown hgr hat hM7)
                all_goals go_wp2_with fail
                all_goals (
                  have hl1 : (ss ++ [rest.extract 0 k9]).length = ss.length + 1 := by simp
                  have ez : ((z : Int) + ((k9 : Int) + 2)) = ((z + k9 + 2 : Nat) : Int) := by omega
                  have hM8 := ((hM7H.out.poke 1 (.slice (some ⟨gb, 0, none⟩) (ss.length + 1) cap2) #[.string ⟨#[]⟩, .slice (some ⟨gb, 0, none⟩) (ss.length + 1) cap2, .int .i64 ((l' + 1 : Nat) : Int), .int .i64 (z : Int), .bool false, .int .i64 0, .int .i64 0] rfl).poke 2 (.int .i64 l') #[.string ⟨#[]⟩, .slice (some ⟨gb, 0, none⟩) (ss.length + 1) cap2, .int .i64 l', .int .i64 (z : Int), .bool false, .int .i64 0, .int .i64 0] rfl).poke 3 (.int .i64 ((z : Int) + ((k9 : Int) + 2))) #[.string ⟨#[]⟩, .slice (some ⟨gb, 0, none⟩) (ss.length + 1) cap2, .int .i64 l', .int .i64 ((z : Int) + ((k9 : Int) + 2)), .bool false, .int .i64 0, .int .i64 0] rfl
                  have hla2 := leftAt_of hM8.blk
                  refine ⟨⟨ss ++ [rest.extract 0 k9], some ⟨gb, 0, none⟩, cap2, l', z + k9 + 2, Lib.hid ?_, by omega, by omega, by rw [hl1]; omega, hnx2⟩, by rw [hla2, hla]; omega⟩
                  rw [hl1, ← ez]
                  exact hM8)
              · rw [he] at hE
                have hL := Lib.hid (body_part (A := A) (B := B) (L := L) (r := s.data.toList.drop z) (ss := txt ss) (left := l' + 1) (size := z) (k := k9) (Nat.succ_ne_zero _) he)
                clear he
                go_wp2_with (go_at_call 63; ((with_reducible refine (hE.out _).mono ?_); rintro e w5 ⟨rfl, n5, rfl⟩))
                have hM4D : MS W1 g (.slice a ss.length c) ss #[.string ⟨#[]⟩, .slice a ss.length c, .int .i64 ((l' + 1 : Nat) : Int), .int .i64 (z : Int), .bool false, .int .i64 0, .int .i64 0] (w4.drewN n5) := hM4.out.on (drewN_below w4 n5)
                have hM5 := Lib.hid (((hM4D.poke 4 (.bool true) #[.string ⟨#[]⟩, .slice a ss.length c, .int .i64 ((l' + 1 : Nat) : Int), .int .i64 (z : Int), .bool true, .int .i64 0, .int .i64 0] rfl).poke 5 (.int .i64 k9) #[.string ⟨#[]⟩, .slice a ss.length c, .int .i64 ((l' + 1 : Nat) : Int), .int .i64 (z : Int), .bool true, .int .i64 k9, .int .i64 0] rfl).poke 0 (.string rest) #[.string rest, .slice a ss.length c, .int .i64 ((l' + 1 : Nat) : Int), .int .i64 (z : Int), .bool true, .int .i64 k9, .int .i64 0] rfl)
                obtain ⟨k1, k2, k3⟩ := hM5.out.fin (w := w) n4H.out hWbH.out (Nat.le_add_right _ _) (.string rest) (.slice a ss.length c) (.int .i64 ((l' : Int) + 1)) (.int .i64 z) (.bool true) (.int .i64 k9) (.int .i64 0)
                clear i0' i1 i2 i3 i4 i5 i6 j0 j1 j2 j3 j4 j5 j6 r0 r1 r2 r3 r4 r5 r6 q0 q1 q2 q3 q4 q5 q6 l0 l1 l2
                generalize (((((((((((w4.drewN n5).setCell ⟨g, 4, none⟩ (.bool true)).setCell ⟨g, 5, none⟩ (.int .i64 k9)).setCell ⟨g, 0, none⟩ (.string rest)).setCell ⟨w.heap.size + 1, 0, none⟩ (.string rest)).setCell ⟨w.heap.size + 1, 1, none⟩ (.slice a ss.length c)).setCell ⟨w.heap.size + 1, 2, none⟩ (.int .i64 ((l' : Int) + 1))).setCell ⟨w.heap.size + 1, 3, none⟩ (.int .i64 z)).setCell ⟨w.heap.size + 1, 4, none⟩ (.bool true)).setCell ⟨w.heap.size + 1, 5, none⟩ (.int .i64 k9)).setCell ⟨w.heap.size + 1, 6, none⟩ (.int .i64 0)) = w9 at k1 k2 k3 ⊢
                obtain ⟨d0, d1, d2, d3, d4, d5, d6, _⟩ := in_facts k1
                refine bodyPost_ret (v := .tuple #[.agg #[.string rest, .slice a ss.length c, .int .i64 ((l' : Int) + 1), .int .i64 z, .bool true, .int .i64 k9, .int .i64 0], .int .i64 (-1)]) (by simp [results, Tryz.results46, go_sem, d0, d1, d2, d3, d4, d5, d6]) rfl ⟨k2, ?_⟩
                exact Or.inr (Or.inl ⟨⟨rest, ss, l' + 1, z, true, k9⟩, a, c, by rw [hnx.out, hL.out, ← hrd.out]; rfl, by show ss.length ≤ _; omega, k3, rfl⟩)
              · rw [he] at hE
                have hend := Lib.hid he
                clear he
                go_wp2_with (go_at_call 63; ((with_reducible refine (hE.out _).mono ?_); rintro e w5 ⟨rfl, n5, rfl⟩))
                have hM4D : MS W1 g (.slice a ss.length c) ss #[.string ⟨#[]⟩, .slice a ss.length c, .int .i64 ((l' + 1 : Nat) : Int), .int .i64 (z : Int), .bool false, .int .i64 0, .int .i64 0] (w4.drewN n5) := hM4.out.on (drewN_below w4 n5)
                have hM5 := Lib.hid (((hM4D.poke 4 (.bool true) #[.string ⟨#[]⟩, .slice a ss.length c, .int .i64 ((l' + 1 : Nat) : Int), .int .i64 (z : Int), .bool true, .int .i64 0, .int .i64 0] rfl).poke 5 (.int .i64 k9) #[.string ⟨#[]⟩, .slice a ss.length c, .int .i64 ((l' + 1 : Nat) : Int), .int .i64 (z : Int), .bool true, .int .i64 k9, .int .i64 0] rfl).poke 0 (.string rest) #[.string rest, .slice a ss.length c, .int .i64 ((l' + 1 : Nat) : Int), .int .i64 (z : Int), .bool true, .int .i64 k9, .int .i64 0] rfl)
                obtain ⟨k1, k2, k3⟩ := hM5.out.fin (w := w) n4H.out hWbH.out (Nat.le_add_right _ _) (.string rest) (.slice a ss.length c) (.int .i64 ((l' : Int) + 1)) (.int .i64 z) (.bool true) (.int .i64 k9) (.int .i64 0)
                clear i0' i1 i2 i3 i4 i5 i6 j0 j1 j2 j3 j4 j5 j6 r0 r1 r2 r3 r4 r5 r6 q0 q1 q2 q3 q4 q5 q6 l0 l1 l2
                generalize (((((((((((w4.drewN n5).setCell ⟨g, 4, none⟩ (.bool true)).setCell ⟨g, 5, none⟩ (.int .i64 k9)).setCell ⟨g, 0, none⟩ (.string rest)).setCell ⟨w.heap.size + 1, 0, none⟩ (.string rest)).setCell ⟨w.heap.size + 1, 1, none⟩ (.slice a ss.length c)).setCell ⟨w.heap.size + 1, 2, none⟩ (.int .i64 ((l' : Int) + 1))).setCell ⟨w.heap.size + 1, 3, none⟩ (.int .i64 z)).setCell ⟨w.heap.size + 1, 4, none⟩ (.bool true)).setCell ⟨w.heap.size + 1, 5, none⟩ (.int .i64 k9)).setCell ⟨w.heap.size + 1, 6, none⟩ (.int .i64 0)) = w9 at k1 k2 k3 ⊢
                obtain ⟨d0, d1, d2, d3, d4, d5, d6, _⟩ := in_facts k1
                refine bodyPost_ret (v := .tuple #[.agg #[.string rest, .slice a ss.length c, .int .i64 ((l' : Int) + 1), .int .i64 z, .bool true, .int .i64 k9, .int .i64 0], .int .i64 5]) (by simp [results, Tryz.results46, go_sem, d0, d1, d2, d3, d4, d5, d6]) rfl ⟨k2, ?_⟩
                exact Or.inl ⟨5, rest, a, ss.length, c, l' + 1, z, k9, true, by decide, by decide, by rw [hnx.out]; exact body_dead (Nat.succ_ne_zero _) hend.out, rfl⟩
end Go.Proofs.YtjidopgohdlfdaaGreatDoor
