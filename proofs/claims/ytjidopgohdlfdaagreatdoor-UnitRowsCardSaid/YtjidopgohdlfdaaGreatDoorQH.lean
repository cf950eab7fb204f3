/-
  The walk of what goes past an argument. Premises: how the holder lies, and that numbers are small.
-/
import Derived.Test.YtjidopgohdlfdaaGreatDoorQG
namespace Go.Proofs.YtjidopgohdlfdaaGreatDoor
open Go.RowKit Dec Pq S4

section
variable {w0 W : World} {g A B L : Nat} {q : List MR} {x : MI}
theorem own_at {W2 : World} {u : Value} {ss : List ByteArray} {o : Obj} {b : Nat} (h : W.ownsRow b 9 1 u ss.length (strV ss)) (hb : Below W.heap.size W W2) : (W2.alloc o).ownsRow b 9 1 u ss.length (strV ss) := by
  refine (h.kept (row := some W2.heap.size) (grown_on hb _) (Or.inr fun e => ?_)).alloc o
  have := (h.lt _ e).2
  have := hb.size
  omega
theorem rq_fin (ss : List ByteArray) (n : Nat) (h : ss ≠ []) : (fins ss n).map rq = [(txt ss, n)] := by unfold fins; rw [if_neg h]; rfl
theorem txt_snoc (ss : List ByteArray) (y : ByteArray) : txt (ss ++ [y]) = txt ss ++ [y.data.toList] := by simp [txt]
set_option maxRecDepth 100000 in
set_option maxHeartbeats 4000000 in
theorem argument_any (hR : RD w0 g A B L x q W) (hleft : x.left ≠ 0) (hok : x.Ok A) (hsz : q.length + x.size + x.rest.size ≤ 1000000000) (hA : A ≤ 65536) :
    Calls Tryz.prog 73 #[.pointer (some ⟨g, 0, none⟩)] W (StepEnd w0 g A B L x q (bodyF x.inp)) := by
  have hRH := Lib.hid hR
  obtain ⟨u, v, hh, hH, hnu⟩ := hR
  obtain ⟨A', cap', rfl, _, _⟩ := own_sok hH.args
  have hhH := Lib.hid hh
  have hHH := Lib.hid hH
  obtain ⟨c0, c1, c2, c3, c4, c5, c6, c7, c8, c9, c10, f0, f1, f2, f3, f4, f5, f6, f7⟩ := hold_facts hh
  clear hh hH
  have hG0 : bodyF x.inp = bodyG x.rest.data.toList (txt x.args) x.left x.size x.need := rfl
  by_cases hn : x.rest.size ≤ x.need
  · have hG : Hid (bodyF x.inp = .inl (-1)) := Lib.hid (by
      rw [hG0, bodyG, size_len]
      by_cases h1 : x.rest.size < x.need
      · rw [if_pos h1]
      · rw [if_neg h1, drop_end hn]; rfl)
    clear hG0
    go_enter Tryz.func73, Tryz.ntmps73
    go_wp2_with fail
    refine bodyPost_ret (v := .tuple #[.bool false, .int .i64 (hdE (.inl (-1)))]) (by simp [results, Tryz.results73, go_sem]; rfl) rfl ?_
    rw [hG.out]
    exact step_no hRH.out rfl
  have hE := ended_as (x.rest.extract x.need x.rest.size)
  rw [ext_data] at hE
  have hz0 : endsF (x.rest.data.toList.drop x.need) = 0 ∨ endsF (x.rest.data.toList.drop x.need) ≠ 0 := by omega
  rcases hz0 with hz | hz
  · have hlen := endsF_len hz
    rw [List.length_drop, size_len] at hlen
    have hG : Hid (bodyF x.inp = .inr (goneB x.rest.data.toList (txt x.args) x.left x.size x.need)) := Lib.hid (by
      rw [hG0, bodyG, size_len, if_neg (by omega), if_pos hz])
    have hE0 := Lib.hid (fun w => hE w 0 (Lib.hid hz))
    have hcl := Lib.hid (fun w => clone_any (x.rest.extract 0 x.need) w (by simp; omega))
    have hal := hok.2 hleft
    have hge0 := hHH.out.bel.size
    have hargs := hHH.out.args
    have hagH := Lib.hid hargs
    have hne1 : x.need ≤ x.rest.size := by omega
    have hwh := hHH.out.lt
    obtain ⟨i0, hi, hz0, hz1, hz2⟩ := info_parts str_info
    clear hE hG0 hz hok hargs
    go_enter Tryz.func73, Tryz.ntmps73
    go_upto_region 7 with (go_at_call 83; ((with_reducible refine (hE0.out _).mono ?_); rintro e w' ⟨rfl, rfl⟩))
    go_region_law (first
      | (refine step_append_lies _ rfl (.tmp 39) (.tmp 48) 49 rfl w0.heap.size 9 i0 _ 1 16 Tryz.underlying49 hi hz0 hz1 hz2 rfl (by decide) (.slice A' x.args.length cap') x.args.length (strV x.args) (by simp [Act.eval]) (own_at hagH.out hbw) ⟨w1.heap.size, 0, none⟩ 1 1 [.string (x.rest.extract 0 x.need)] (by simp [Act.eval]) rfl (one_cell w1 _) (one_str _) (by decide) (by unfold maxLen; omega) (by omega) (by simp; omega) _ rfl ?_; intro gb cap2 w2 hown hgr hat hlt; obtain ⟨hb2, hH2⟩ := arg_after (hbw.alloc hbw.size _) hhH.out hHH.out hown hgr hat; obtain ⟨d0, d1, d2, d3, d4, d5, d6, d7, d8, d9, d10, e0, e1, e2, e3, e4, e5, e6, e7⟩ := hold_facts hb2; have hb2H := Lib.hid hb2; have hH2H := Lib.hid hH2; clear hown hgr hat hb2 hH2)
      | (go_simp; go_at_call 60; (with_reducible refine (hcl.out _).mono ?_); rintro e w1 ⟨rfl, hb1⟩; have hbw : Below W.heap.size W w1 := (Below.drew (Below.refl W.heap.size W)).trans hb1; have hbz := hbw.size; have kl : g < w1.heap.size := Nat.lt_of_lt_of_le hwh hbz; have k1 := (hbw.cell (p := ⟨g, 1, none⟩) hwh).trans c1; have k0 := (hbw.cell (p := ⟨g, 0, none⟩) hwh).trans c0))
    all_goals (
      clear c0 c1 c2 c3 c4 c5 c6 c7 c8 c9 c10 f0 f1 f2 f3 f4 f5 f6 f7 d0 d1 d2 d3 d4 d5 d6 d7 d8 d9 d10 e0 e1 e2 e3 e4 e5 e6 e7 hbw hbz hb1 hlt kl k0 k1
      have hh3 : (w2.setCell ⟨g, 1, none⟩ (.slice (some ⟨gb, 0, none⟩) (x.args.length + 1) cap2)).heap[g]? = some (.cells (hold x.rest (.slice (some ⟨gb, 0, none⟩) (x.args.length + 1) cap2) x.left x.size x.body x.need v A B L) 103 (0, 0)) := by
        simp [World.setCell, Array.getElem?_modify, hb2H.out, hold]
      have hH3 := hH2H.out.poke 1 (.slice (some ⟨gb, 0, none⟩) (x.args.length + 1) cap2)
      generalize w2.setCell ⟨g, 1, none⟩ (.slice (some ⟨gb, 0, none⟩) (x.args.length + 1) cap2) = w3 at hh3 hH3 ⊢
      clear hb2H hH2H
      obtain ⟨c0, c1, c2, c3, c4, c5, c6, c7, c8, c9, c10, f0, f1, f2, f3, f4, f5, f6, f7⟩ := hold_facts hh3
      have hh3H := Lib.hid hh3
      have hH3H := Lib.hid hH3
      clear hh3 hH3
      go_upto_region 10 with fail
      obtain ⟨l', hl'⟩ : ∃ l', x.left = l' + 1 := ⟨x.left - 1, by omega⟩
      have hh4 : (((w3.setCell ⟨g, 2, none⟩ (.int .i64 ((x.left : Int) - 1))).setCell ⟨g, 4, none⟩ (.bool false)).setCell ⟨g, 5, none⟩ (.int .i64 0)).heap[g]? = some (.cells (hold x.rest (.slice (some ⟨gb, 0, none⟩) (x.args.length + 1) cap2) l' x.size false 0 v A B L) 103 (0, 0)) := by
        rw [show ((x.left : Int) - 1) = ((l' : Nat) : Int) by omega]
        simp [World.setCell, Array.getElem?_modify, hh3H.out, hold]
      have hH4 := ((hH3H.out.poke 2 (.int .i64 ((x.left : Int) - 1))).poke 4 (.bool false)).poke 5 (.int .i64 0)
      clear c0 c1 c2 c3 c4 c5 c6 c7 c8 c9 c10 f0 f1 f2 f3 f4 f5 f6 f7 hh3H hH3H
      generalize (((w3.setCell ⟨g, 2, none⟩ (.int .i64 ((x.left : Int) - 1))).setCell ⟨g, 4, none⟩ (.bool false)).setCell ⟨g, 5, none⟩ (.int .i64 0)) = w4 at hh4 hH4 ⊢
      have hP := Lib.hid (pass_as (x.need + 2) ((x.need : Int) + 2) (Lib.hid (by omega)) hh4 (by omega) (by omega) hH4)
      clear hh4 hH4
      have hgoB : Hid (goneB x.rest.data.toList (txt x.args) (l' + 1) x.size x.need = (if l' = 0 then (Inp.none (x.rest.extract (x.need + 2) x.rest.size).data.toList, [(txt (x.args ++ [x.rest.extract 0 x.need]), x.size + x.need + 2)]) else (⟨(x.rest.extract (x.need + 2) x.rest.size).data.toList, txt (x.args ++ [x.rest.extract 0 x.need]), l', x.size + x.need + 2, false, 0⟩, []))) := Lib.hid (by
        unfold goneB
        rw [ext_data, txt_snoc, S4.head_data]
        by_cases h : l' = 0
        · rw [if_pos (by omega), if_pos h]
        · rw [if_neg (by omega), if_neg h]; rfl)
      rw [hl'] at hG
      by_cases h0 : l' = 0
      · subst h0
        rw [hgoB.out, if_pos rfl] at hG
        clear hgoB
        go_wp2_with (first
          | (go_at_call 84; ((with_reducible refine hP.out.mono ?_); rintro e w5 ⟨rfl, hh5, hH5⟩; have hFi := Lib.hid (finish_any hh5 hH5 (by simp; omega) (by omega)); obtain ⟨c0, c1, c2, c3, c4, c5, c6, c7, c8, c9, c10, f0, f1, f2, f3, f4, f5, f6, f7⟩ := hold_facts hh5; clear hh5 hH5))
          | (go_at_call 85; ((with_reducible refine hFi.out.mono ?_); rintro e w6 ⟨rfl, v', hh6, hH6⟩)))
        refine bodyPost_ret (v := .tuple #[.bool true, .int .i64 0]) (by simp [results, Tryz.results73, go_sem]) rfl ?_
        rw [hG.out]
        refine ⟨MI.none (x.rest.extract (x.need + 2) x.rest.size), fins (x.args ++ [x.rest.extract 0 x.need]) (x.size + (x.need + 2)), rfl, rq_fin _ _ (by simp), none_ok _, ?_, ⟨_, v', hh6, hH6, Lib.hid fun _ => rfl⟩, rfl⟩
        have hes : (x.rest.extract (x.need + 2) x.rest.size).size = x.rest.size - (x.need + 2) := by simp
        rw [show (MI.none (x.rest.extract (x.need + 2) x.rest.size)).rest.size = x.rest.size - (x.need + 2) from hes, show (MI.none (x.rest.extract (x.need + 2) x.rest.size)).size = 0 from rfl]
        simp [fins]
        omega
      · rw [hgoB.out, if_neg h0] at hG
        clear hgoB
        go_wp2_with (go_at_call 84; ((with_reducible refine hP.out.mono ?_); rintro e w5 ⟨rfl, hh5, hH5⟩; obtain ⟨c0, c1, c2, c3, c4, c5, c6, c7, c8, c9, c10, f0, f1, f2, f3, f4, f5, f6, f7⟩ := hold_facts hh5; have hh5H := Lib.hid hh5; have hH5H := Lib.hid hH5; clear hh5 hH5))
        refine bodyPost_ret (v := .tuple #[.bool true, .int .i64 0]) (by simp [results, Tryz.results73, go_sem]) rfl ?_
        rw [hG.out]
        refine ⟨⟨x.rest.extract (x.need + 2) x.rest.size, x.args ++ [x.rest.extract 0 x.need], l', x.size + (x.need + 2), false, 0⟩, [], rfl, rfl, ⟨fun h => absurd h h0, fun _ => ?_⟩, ?_, ⟨_, v, hh5H.out, ?_, Lib.hid fun h => absurd h (by simp)⟩, rfl⟩
        · simp; omega
        · simp; omega
        · rw [List.append_nil]; exact hH5H.out)
  · have hG : Hid (bodyF x.inp = .inl (endsF (x.rest.data.toList.drop x.need))) := Lib.hid (by
      rw [hG0, bodyG, size_len, if_neg (by omega), if_neg hz])
    have hE0 := Lib.hid (fun w => hE w _ (Lib.hid rfl))
    have hbz : (endsF (x.rest.data.toList.drop x.need) == 0) = false := by simpa using hz
    have hv : (if endsF (x.rest.data.toList.drop x.need) = 5 then (5 : Int) else 0) = hdE (.inl (endsF (x.rest.data.toList.drop x.need))) := by
      rcases endsF_cases (x.rest.data.toList.drop x.need) with h | h | h
      · exact absurd h hz
      · rw [h]; rfl
      · rw [h]; rfl
    rw [hv, hbz] at hE0
    generalize endsF (x.rest.data.toList.drop x.need) = k at hG hE0
    clear hE hG0 hz hok hbz hv
    go_enter Tryz.func73, Tryz.ntmps73
    go_wp2_with (go_at_call 83; ((with_reducible refine (hE0.out _).mono ?_); rintro e w' ⟨rfl, rfl⟩))
    refine bodyPost_ret (v := .tuple #[.bool false, .int .i64 (hdE (.inl k))]) (by simp [results, Tryz.results73, go_sem]) rfl ?_
    rw [hG.out]
    exact step_no hRH.out rfl
end
end Go.Proofs.YtjidopgohdlfdaaGreatDoor
