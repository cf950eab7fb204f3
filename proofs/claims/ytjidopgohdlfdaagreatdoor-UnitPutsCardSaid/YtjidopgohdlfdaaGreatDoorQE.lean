/-
  The walks of what goes past a first line: a Many's, an argument's. Premises: how the holder lies, and that numbers are small.
-/
import Derived.Test.YtjidopgohdlfdaaGreatDoorQC
import Derived.Test.YtjidopgohdlfdaaGreatDoorQD
namespace Go.Proofs.YtjidopgohdlfdaaGreatDoor
open Go.RowKit Dec Pq S4

theorem head_no (s : ByteArray) (mark : UInt8) (most ab k : Int) (hs : s.size ≤ 1000000000) (hm1 : most ≤ 1048576) (hab : ab ≠ -1) (h : firstF mark most ab s.data.toList = .inl k) (w : World) :
    Calls Tryz.prog 86 #[.string s, .int .u8 (mark.toNat : Int), .int .i64 most, .int .i64 ab] w fun e w' => e = .returned (.tuple #[.int .i64 0, .int .i64 0, .int .i64 (hdE (.inl k))]) ∧ w' = w :=
  (head_any s mark most ab w hs hm1 hab).mono fun e w' ⟨h1, h2⟩ => ⟨by rw [h1, h]; rfl, h2.symm⟩
theorem head_yes (s : ByteArray) (mark : UInt8) (most ab : Int) (n k : Nat) (hs : s.size ≤ 1000000000) (hm1 : most ≤ 1048576) (hab : ab ≠ -1) (h : firstF mark most ab s.data.toList = .inr (n, k)) (w : World) :
    Calls Tryz.prog 86 #[.string s, .int .u8 (mark.toNat : Int), .int .i64 most, .int .i64 ab] w fun e w' => e = .returned (.tuple #[.int .i64 n, .int .i64 k, .int .i64 0]) ∧ w' = w :=
  (head_any s mark most ab w hs hm1 hab).mono fun e w' ⟨h1, h2⟩ => ⟨by rw [h1, h]; rfl, h2.symm⟩
theorem size_len (s : ByteArray) : s.data.toList.length = s.size := by simp
section
variable {w0 W : World} {g A B L : Nat} {x : MI} {q : List MR}
theorem step_no {k : Int} {e : Ending} {w' : World} (hR : RD w0 g A B L x q w') (he : e = .returned (.tuple #[.bool false, .int .i64 (hdE (.inl k))])) : StepEnd w0 g A B L x q (.inl k) e w' := ⟨hR, he⟩
theorem RD.on {W' : World} (h : RD w0 g A B L x q W) (hb : Below W.heap.size W W') : RD w0 g A B L x q W' := by
  obtain ⟨u, v, h1, h2, h3⟩ := h
  exact ⟨u, v, (hb.block g h2.lt).trans h1, h2.on hb, h3⟩
set_option maxRecDepth 100000 in
set_option maxHeartbeats 2000000 in
theorem length_any (hR : RD w0 g A B L x q W) (hleft : x.left ≠ 0) (hok : x.Ok A) (hsz : q.length + x.size + x.rest.size ≤ 1000000000) (hB : B ≤ 1048576) :
    Calls Tryz.prog 74 #[.pointer (some ⟨g, 0, none⟩)] W (StepEnd w0 g A B L x q (headF B x.inp)) := by
  have hRH := Lib.hid hR
  obtain ⟨u, v, hh, hH, hnu⟩ := hR
  have hhH := Lib.hid hh
  have hHH := Lib.hid hH
  obtain ⟨c0, c1, c2, c3, c4, c5, c6, c7, c8, c9, c10, f0, f1, f2, f3, f4, f5, f6, f7⟩ := hold_facts hh
  cases hF : firstF 36 (B : Int) 6 x.rest.data.toList with
  | inl k =>
    have hG : Hid (headF B x.inp = .inl k) := Lib.hid (by unfold headF; rw [show x.inp.rest = x.rest.data.toList from rfl, hF])
    have hC := Lib.hid (head_no x.rest 36 B 6 k (by omega) (by omega) (by decide) hF)
    clear hh hH hF hok
    go_enter Tryz.func74, Tryz.ntmps74
    go_wp2_with fail
    go_quiet ((go_at_call 86; exact Calls.quiet_of_same (hC.out _)))
    have hR2 := Lib.hid (hRH.out.on (drewN_below W nq))
    generalize W.drewN nq = w2 at hR2 ⊢
    go_wp2_with fail
    refine bodyPost_ret (v := .tuple #[.bool false, .int .i64 (hdE (.inl k))]) (by simp [results, Tryz.results74, go_sem]) rfl ?_
    rw [hG.out]
    exact step_no hR2.out rfl
  | inr p =>
    obtain ⟨n, k⟩ := p
    obtain ⟨k4, kle⟩ := firstF_len hF
    rw [size_len] at kle
    have hG : Hid (headF B x.inp = .inr (⟨x.rest.data.toList.drop k, txt x.args, x.left, x.size + k, true, n⟩, [])) := Lib.hid (by unfold headF; rw [show x.inp.rest = x.rest.data.toList from rfl, hF]; rfl)
    have hC := Lib.hid (head_yes x.rest 36 B 6 n k (by omega) (by omega) (by decide) hF)
    have hnm := firstF_most (by omega) hF
    have hokH := Lib.hid hok
    clear hh hH hF hok
    go_enter Tryz.func74, Tryz.ntmps74
    go_wp2_with fail
    go_quiet ((go_at_call 86; exact Calls.quiet_of_same (hC.out _)))
    have hh2 : (W.drewN nq).heap[g]? = some (.cells (hold x.rest u x.left x.size x.body x.need v A B L) 103 (0, 0)) := hhH.out
    have hH2 := Lib.hid (hHH.out.on (drewN_below W nq))
    clear c0 c1 c2 c3 c4 c5 c6 c7 c8 c9 c10 f0 f1 f2 f3 f4 f5 f6 f7
    generalize W.drewN nq = w2 at hh2 hH2 ⊢
    have hP := Lib.hid (pass_any k hh2 kle (by omega))
    have hh3 := pass_hold k hh2
    have hH3 := Lib.hid ((hH2.out.poke 0 (.string (x.rest.extract k x.rest.size))).poke 3 (.int .i64 ((x.size : Int) + k)))
    clear hh2
    go_wp2_with (go_at_call 84; ((with_reducible refine hP.out.mono ?_); rintro e w3 ⟨rfl, hw3⟩; rw [hw3] at hh3 hH3; obtain ⟨c0, c1, c2, c3, c4, c5, c6, c7, c8, c9, c10, f0, f1, f2, f3, f4, f5, f6, f7⟩ := hold_facts hh3; have hh3H := Lib.hid hh3; clear hh3 hw3))
    refine bodyPost_ret (v := .tuple #[.bool true, .int .i64 0]) (by simp [results, Tryz.results74, go_sem]) rfl ?_
    rw [hG.out]
    refine ⟨⟨x.rest.extract k x.rest.size, x.args, x.left, x.size + k, true, n⟩, [], by unfold MI.inp; rw [ext_data], rfl, ⟨fun h => absurd h hleft, hokH.out.2⟩, by simp; omega, ?_, rfl⟩
    rw [List.append_nil]
    refine ⟨u, v, ?_, (hH3.out.poke 4 _).poke 5 _, hnu⟩
    simp [World.setCell, Array.getElem?_modify, hh3H.out, hold]
end
end Go.Proofs.YtjidopgohdlfdaaGreatDoor
