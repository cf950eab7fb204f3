/-
  The walks of what goes past a Many's first line, and an argument. Premises: how the holder lies, and that numbers are small.
-/
import Derived.Test.YtjidopgohdlfdaaGreatDoorQE
import Derived.Test.YtjidopgohdlfdaaGreatDoorQF
namespace Go.Proofs.YtjidopgohdlfdaaGreatDoor
open Go.RowKit Dec Pq S4

section
variable {w0 W : World} {g A B L : Nat} {q : List MR}
theorem pass_as {ss : List ByteArray} {rest : ByteArray} {u0 u v : Value} {left size need : Nat} {body : Bool} (n : Nat) (k : Int) (hk : Hid ((n : Int) = k)) (h : W.heap[g]? = some (.cells (hold rest u0 left size body need v A B L) 103 (0, 0))) (hn : n ≤ rest.size) (hs : size + n ≤ 1000000000) (hH : Held w0 g u v ss q W) :
    Calls Tryz.prog 84 #[.pointer (some ⟨g, 0, none⟩), .int .i64 k] W fun e w' => e = .returned (.tuple #[]) ∧ w'.heap[g]? = some (.cells (hold (rest.extract n rest.size) u0 left (size + n) body need v A B L) 103 (0, 0)) ∧ Held w0 g u v ss q w' := by
  rw [← hk.out]
  refine (pass_any n h hn hs).mono fun e w' ⟨h1, h2⟩ => ?_
  subst h2
  exact ⟨h1, pass_hold n h, (hH.poke 0 _).poke 3 _⟩
def MI.none (rest : ByteArray) : MI := ⟨rest, [], 0, 0, false, 0⟩
theorem none_inp (rest : ByteArray) : (MI.none rest).inp = Inp.none rest.data.toList := rfl
theorem none_ok (rest : ByteArray) : MI.Ok A (MI.none rest) := ⟨fun _ => ⟨rfl, rfl, rfl, rfl⟩, fun h => absurd rfl h⟩
def countF (A : Nat) (s : List UInt8) : Sum Int (Inp × List Rq) := match firstF 42 A 7 s with
  | .inl e => .inl e
  | .inr (n, k) => .inr (goneM s n k)
set_option maxRecDepth 100000 in
set_option maxHeartbeats 2000000 in
theorem count_any {rest : ByteArray} (hR : RD w0 g A B L (MI.none rest) q W) (hsz : q.length + rest.size ≤ 1000000000) (hA : A ≤ 65536) :
    Calls Tryz.prog 75 #[.pointer (some ⟨g, 0, none⟩)] W (StepEnd w0 g A B L (MI.none rest) q (countF A rest.data.toList)) := by
  have hRH := Lib.hid hR
  obtain ⟨u, v, hh, hH, hnu⟩ := hR
  change W.heap[g]? = some (.cells (hold rest u 0 0 false 0 v A B L) 103 (0, 0)) at hh
  change Held w0 g u v [] q W at hH
  have hhH := Lib.hid hh
  have hHH := Lib.hid hH
  obtain ⟨c0, c1, c2, c3, c4, c5, c6, c7, c8, c9, c10, f0, f1, f2, f3, f4, f5, f6, f7⟩ := hold_facts hh
  cases hF : firstF 42 (A : Int) 7 rest.data.toList with
  | inl k =>
    have hG : Hid (countF A rest.data.toList = .inl k) := Lib.hid (by unfold countF; rw [hF])
    have hC := Lib.hid (head_no rest 42 A 7 k (by omega) (by omega) (by decide) hF)
    clear hh hH hF
    go_enter Tryz.func75, Tryz.ntmps75
    go_wp2_with fail
    go_quiet ((go_at_call 86; exact Calls.quiet_of_same (hC.out _)))
    have hR2 := Lib.hid (hRH.out.on (drewN_below W nq))
    generalize W.drewN nq = w2 at hR2 ⊢
    go_wp2_with fail
    refine bodyPost_ret (v := .tuple #[.bool false, .int .i64 (hdE (.inl k))]) (by simp [results, Tryz.results75, go_sem]) rfl ?_
    rw [hG.out]
    exact step_no hR2.out rfl
  | inr p =>
    obtain ⟨n, k⟩ := p
    obtain ⟨k4, kle⟩ := firstF_len hF
    rw [size_len] at kle
    have hG : Hid (countF A rest.data.toList = .inr (goneM rest.data.toList n k)) := Lib.hid (by unfold countF; rw [hF])
    have hC := Lib.hid (head_yes rest 42 A 7 n k (by omega) (by omega) (by decide) hF)
    have hnm := firstF_most (by omega) hF
    clear hh hH hF
    have hh2 : ∀ j, (W.drewN j).heap[g]? = some (.cells (hold rest u 0 0 false 0 v A B L) 103 (0, 0)) := fun _ => hhH.out
    have hH2 := Lib.hid (fun j => hHH.out.on (drewN_below W j))
    have hh2H := Lib.hid hh2
    clear hh2
    go_enter Tryz.func75, Tryz.ntmps75
    go_wp2_with fail
    go_quiet ((go_at_call 86; exact Calls.quiet_of_same (hC.out _)))
    have hh3 := hh2H.out nq
    have hH3 := hH2.out nq
    clear c0 c1 c2 c3 c4 c5 c6 c7 c8 c9 c10 f0 f1 f2 f3 f4 f5 f6 f7
    generalize W.drewN nq = w2 at hh3 hH3 ⊢
    have hP := Lib.hid (pass_as k k (Lib.hid rfl) hh3 kle (by omega) hH3)
    clear hh3 hH3
    go_upto_region 6 with (go_at_call 84; ((with_reducible refine hP.out.mono ?_); rintro e w3 ⟨rfl, hh3, hH3⟩; obtain ⟨c0, c1, c2, c3, c4, c5, c6, c7, c8, c9, c10, f0, f1, f2, f3, f4, f5, f6, f7⟩ := hold_facts hh3; have hh3H := Lib.hid hh3; have hH3H := Lib.hid hH3; clear hh3 hH3))
    have hh4 : (w3.setCell ⟨g, 2, none⟩ (.int .i64 n)).heap[g]? = some (.cells (hold (rest.extract k rest.size) u n (0 + k) false 0 v A B L) 103 (0, 0)) := by
      simp [World.setCell, Array.getElem?_modify, hh3H.out, hold]
    have hH4 := hH3H.out.poke 2 (.int .i64 n)
    clear c0 c1 c2 c3 c4 c5 c6 c7 c8 c9 c10 f0 f1 f2 f3 f4 f5 f6 f7
    generalize w3.setCell ⟨g, 2, none⟩ (.int .i64 n) = w4 at hh4 hH4 ⊢
    rcases Nat.eq_zero_or_pos n with h0 | h0
    · subst h0
      have hgo : Hid (goneM rest.data.toList 0 k = (Inp.none (rest.extract k rest.size).data.toList, [])) := Lib.hid (by unfold goneM; rw [if_pos rfl, ext_data])
      have hFi := Lib.hid (finish_any hh4 hH4.drop (by simp) (by omega))
      clear hh4 hH4
      go_wp2_with (go_at_call 85; ((with_reducible refine hFi.out.mono ?_); rintro e w5 ⟨rfl, v', hh5, hH5⟩))
      refine bodyPost_ret (v := .tuple #[.bool true, .int .i64 0]) (by simp [results, Tryz.results75, go_sem]) rfl ?_
      rw [hG.out, hgo.out]
      exact ⟨MI.none (rest.extract k rest.size), [], rfl, rfl, none_ok _, by simp [MI.none], ⟨_, v', hh5, by rw [List.append_nil]; simp only [fins, if_true, List.append_nil] at hH5; exact hH5, Lib.hid fun _ => rfl⟩, rfl⟩
    · have hgo : Hid (goneM rest.data.toList n k = (⟨(rest.extract k rest.size).data.toList, [], n, k, false, 0⟩, [])) := Lib.hid (by unfold goneM; rw [if_neg (by omega), ext_data])
      have hh4H := Lib.hid hh4
      have hH4H := Lib.hid hH4
      clear hh4 hH4
      go_wp2_with fail
      refine bodyPost_ret (v := .tuple #[.bool true, .int .i64 0]) (by simp [results, Tryz.results75, go_sem]) rfl ?_
      rw [hG.out, hgo.out]
      refine ⟨⟨rest.extract k rest.size, [], n, k, false, 0⟩, [], rfl, rfl, ⟨fun h => absurd h (by simp only; omega), fun _ => by simp; omega⟩, by simp [MI.none]; omega, ⟨u, v, ?_, by rw [List.append_nil]; exact hH4H.out, hnu⟩, rfl⟩
      have := hh4H.out
      rwa [Nat.zero_add] at this
theorem arg_after {rest : ByteArray} {u v : Value} {left size need : Nat} {body : Bool} {ss : List ByteArray} {W2 w1 : World} {x : ByteArray} {n cap gb : Nat} (hb : Below W.heap.size W W2)
    (h : W.heap[g]? = some (.cells (hold rest u left size body need v A B L) 103 (0, 0))) (hH : Held w0 g u v ss q W)
    (hown : w1.ownsRow w0.heap.size 9 1 (.slice (some ⟨gb, 0, none⟩) n cap) (ss.length + 1) (strV ss ++ [.string x])) (hg : W2.grownBy w1 u.ownBlock) (hat : u.ownBlock = some gb ∨ gb = W2.heap.size) :
    w1.heap[g]? = some (.cells (hold rest u left size body need v A B L) 103 (0, 0)) ∧ Held w0 g (.slice (some ⟨gb, 0, none⟩) n cap) v (ss ++ [x]) q w1 :=
  ⟨by rw [hg.block g (Nat.lt_of_lt_of_le hH.lt hb.size) (fun e => hH.gu e.symm), hb.block g hH.lt]; exact h, (hH.on hb).arg hown hg hat⟩
end
end Go.Proofs.YtjidopgohdlfdaaGreatDoor
