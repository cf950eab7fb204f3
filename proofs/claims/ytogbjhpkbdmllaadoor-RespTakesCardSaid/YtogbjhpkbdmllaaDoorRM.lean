/-
  The walk of whether two replies are the same, as the program has it. No premise but that the replies lie in memory.
-/
import Derived.Test.YtogbjhpkbdmllaaDoorRB
import Derived.BigGuardPart
namespace Go.Proofs.YtogbjhpkbdmllaaDoor
open Go.RowKit Rp Dec

theorem RAt.shape2 {W : World} {ok : Nat → Prop} {k : Nat} {y : Rep k} {c0 c1 c2 c3 : Value} (h : RAt W ok k y [c0, c1, c2, c3]) : ∃ kd nm b A len cap, c0 = .int .i64 kd ∧ c1 = .int .i64 nm ∧ c2 = .string b ∧ c3 = .slice A len cap := by
  cases k with
  | zero => exact h.elim
  | succ k =>
    obtain ⟨b, A, cap, h1, _⟩ := h
    simp only [List.cons.injEq, and_true] at h1
    obtain ⟨rfl, rfl, rfl, rfl⟩ := h1
    exact ⟨_, _, _, _, _, _, rfl, rfl, rfl, rfl⟩
theorem box2 {w : World} {o1 o2 : Obj} : Below w.heap.size w ((w.alloc o1).alloc o2) := ((Below.refl _ _).alloc (Nat.le_refl _) _).alloc (by simp) _
set_option maxHeartbeats 2000000 in
theorem equalFunc_any (n m : Nat) (l : List (Rep n)) (l' : List (Rep m)) (A D : Option Addr) (cap cap' : Nat) (w : World) (hl : l.length ≤ 140737488355328) (_hl' : l'.length ≤ 140737488355328)
    (h : SubAt w (fun _ => True) (RAt w (fun _ => True) n) A l) (g : SubAt w (fun _ => True) (RAt w (fun _ => True) m) D l')
    (ih : ∀ (x : Rep n) (y : Rep m) (cs ds : Array Value) (w : World), RAt w (fun _ => True) n x cs.toList → RAt w (fun _ => True) m y ds.toList →
      Calls Tryd.prog 12 #[.agg cs, .agg ds] w fun e w' => e = .returned (.bool (sameF n m x y)) ∧ Below w.heap.size w w') :
    Calls Tryd.prog 25 #[.slice A l.length cap, .slice D l'.length cap', .func (.func 12) #[] #[]] w fun e w' => e = .returned (.bool (sameL (sameF n m) l l')) ∧ Below w.heap.size w w' := by
  have hT : Hid (sameL (sameF n m) (l.drop 0) (l'.drop 0) = sameL (sameF n m) l l') := Lib.hid rfl
  by_cases hk : l.length = l'.length
  case neg =>
    have hF := Lib.hid (sameL_len (f := sameF n m) hk)
    have k1 : ((l.length : Int) == (l'.length : Int)) = false := beq_eq_false_iff_ne.2 (by omega)
    have k2 : ((l.length : Int) != (l'.length : Int)) = true := bne_iff_ne.2 (by omega)
    have k3 : (l.length == l'.length) = false := by simpa using hk
    have k4 : (l.length != l'.length) = true := by simpa using hk
    clear hk
    go_enter Tryd.func25, Tryd.ntmps25
    go_wp2_with fail
    go_ret
    exact ⟨ret_bool hF.out.symm, Below.refl _ _⟩
  generalize sameL (sameF n m) l l' = total at hT ⊢
  have hkH := Lib.hid hk
  rw [← hk]
  clear hk
  go_enter Tryd.func25, Tryd.ntmps25
  go_wp2_with fail
  go_loopw [17] (fun i wr => ∃ k : Nat, i = .int .i64 k ∧ k ≤ l.length ∧ Hid (sameL (sameF n m) (l.drop k) (l'.drop k) = total) ∧ Below w.heap.size w wr) (fun i _ => l.length - (intOf i).toNat)
  case atStart => exact ⟨0, rfl, by omega, hT, Below.refl _ _⟩
  case round =>
    clear hT
    obtain ⟨k, rfl, hk, hD, hW⟩ := hrel
    have h7 := h.on hW (fun y cs hy => RAt.on hy hW)
    have g7 := g.on hW (fun y cs hy => RAt.on hy hW)
    have hWH := Lib.hid hW
    clear hW
    by_cases hlt : k < l.length
    · have hlt' : k < l'.length := by have := hkH.out; omega
      obtain ⟨ad, c0, c1, c2, c3, hA, _, hblk, e0, e1, e2, e3, hf⟩ := h7 k l[k] (List.getElem?_eq_getElem hlt)
      obtain ⟨ad', d0, d1, d2, d3, hA', _, hblk', i0, i1, i2, i3, hg⟩ := g7 k l'[k] (List.getElem?_eq_getElem hlt')
      subst hA hA'
      obtain ⟨kd, nm, b, B, len, cp, rfl, rfl, rfl, rfl⟩ := hf.shape2
      obtain ⟨kd', nm', b', B', len', cp', rfl, rfl, rfl, rfl⟩ := hg.shape2
      have hN := Lib.hid (sameL_next (f := sameF n m) (List.getElem?_eq_getElem hlt) (List.getElem?_eq_getElem hlt'))
      have hb2 := Lib.hid (box2 (w := wr) (o1 := .cells #[.int .i64 kd, .int .i64 nm, .string b, .slice B len cp] 24) (o2 := .cells #[.int .i64 kd', .int .i64 nm', .string b', .slice B' len' cp'] 24))
      have hc := ih l[k] l'[k] #[.int .i64 kd, .int .i64 nm, .string b, .slice B len cp] #[.int .i64 kd', .int .i64 nm', .string b', .slice B' len' cp'] _ (hf.on hb2.out) (hg.on hb2.out)
      have hbk : (ad'.add (k * 4)).block < wr.heap.size := by rw [block_of_add]; exact hblk'
      have j0 := (World.cell?_alloc_lt wr (.cells #[.int .i64 kd, .int .i64 nm, .string b, .slice B len cp] 24) (ad'.add (k * 4)) hbk).trans i0
      have j1 := (World.cell?_alloc_lt wr (.cells #[.int .i64 kd, .int .i64 nm, .string b, .slice B len cp] 24) ⟨(ad'.add (k * 4)).block, (ad'.add (k * 4)).off + 1, none⟩ hbk).trans i1
      have j2 := (World.cell?_alloc_lt wr (.cells #[.int .i64 kd, .int .i64 nm, .string b, .slice B len cp] 24) ⟨(ad'.add (k * 4)).block, (ad'.add (k * 4)).off + 2, none⟩ hbk).trans i2
      have j3 := (World.cell?_alloc_lt wr (.cells #[.int .i64 kd, .int .i64 nm, .string b, .slice B len cp] 24) ⟨(ad'.add (k * 4)).block, (ad'.add (k * 4)).off + 3, none⟩ hbk).trans i3
      generalize sameF n m l[k] l'[k] = q at hc hN
      cases q with
      | true =>
        go_wp2_with (go_at_call 12; ((with_reducible refine hc.mono ?_); rintro e w1 ⟨rfl, hb1⟩))
        go_roundw
        case rel => exact ⟨k + 1, by go_num, by omega, Lib.hid (by rw [← hD.out, hN.out, Bool.true_and]), hWH.out.trans ((hb2.out.trans (hb1.mono (by simp; omega))).mono hWH.out.size)⟩
        case measure => simp [intOf]; omega
      | false =>
        go_wp2_with (go_at_call 12; ((with_reducible refine hc.mono ?_); rintro e w1 ⟨rfl, hb1⟩))
        go_ret
        exact ⟨ret_bool (by rw [← hD.out, hN.out, Bool.false_and]), hWH.out.trans ((hb2.out.trans (hb1.mono (by simp; omega))).mono hWH.out.size)⟩
    · have hE := Lib.hid (sameL_end (f := sameF n m) (l := l) (m := l') (k := k) (by omega) (by have := hkH.out; omega))
      go_wp2_with fail
      go_ret
      exact ⟨ret_bool (by rw [← hD.out, hE.out]), hWH.out⟩

set_option maxHeartbeats 2000000 in
theorem same_any (n : Nat) : ∀ (m : Nat) (x : Rep n) (y : Rep m) (cs ds : Array Value) (w : World), RAt w (fun _ => True) n x cs.toList → RAt w (fun _ => True) m y ds.toList →
    Calls Tryd.prog 12 #[.agg cs, .agg ds] w fun e w' => e = .returned (.bool (sameF n m x y)) ∧ Below w.heap.size w w' := by
  induction n with
  | zero => intro m x; exact x.elim
  | succ n ih =>
    intro m
    cases m with
    | zero => intro x y; exact y.elim
    | succ m =>
    intro x y cs ds w h g
    obtain ⟨b, A, cap, h1, h2, h3, h4, h5, h6, h7⟩ := h
    obtain ⟨c, D, cap', g1, g2, g3, g4, g5, g6, g7⟩ := g
    obtain ⟨cs⟩ := cs
    obtain ⟨ds⟩ := ds
    simp only at h1 g1
    subst h1 g1
    clear h3 h4 g3 g4
    have hS : Hid (sameF (n + 1) (m + 1) x y = ((x : RNode (Rep n)).kind == (y : RNode (Rep m)).kind && ((x : RNode (Rep n)).num == (y : RNode (Rep m)).num && ((x : RNode (Rep n)).txt == (y : RNode (Rep m)).txt && sameL (sameF n m) (x : RNode (Rep n)).sub (y : RNode (Rep m)).sub)))) := Lib.hid rfl
    generalize sameF (n + 1) (m + 1) x y = total at *
    obtain ⟨xk, xn, xt, l⟩ : RNode (Rep n) := x
    obtain ⟨yk, yn, yt, l'⟩ : RNode (Rep m) := y
    simp only at h2 g2 h6 g6 h7 g7 hS ⊢
    by_cases hk : xk = yk
    case neg =>
      have hT : Hid (total = false) := Lib.hid (by rw [hS.out]; simp [hk])
      have k1 : (xk == yk) = false := by simpa using hk
      clear hk
      go_enter Tryd.func12, Tryd.ntmps12
      go_wp2_with fail
      go_ret
      exact ⟨ret_bool hT.out.symm, two_box⟩
    subst hk
    by_cases hk : xn = yn
    case neg =>
      have hT : Hid (total = false) := Lib.hid (by rw [hS.out]; simp [hk])
      have k1 : (xn == yn) = false := by simpa using hk
      clear hk
      go_enter Tryd.func12, Tryd.ntmps12
      go_wp2_with fail
      go_ret
      exact ⟨ret_bool hT.out.symm, two_box⟩
    subst hk
    by_cases hk : b = c
    case neg =>
      have hne : b.toList ≠ c.toList := fun e => hk (bytes_eq (bytes_toList e))
      have hT : Hid (total = false) := Lib.hid (by
        rw [hS.out]
        have : xt ≠ yt := by rw [← h2, ← g2]; intro e; exact hk (bytes_eq e)
        simp [this])
      have k1 : (b.toList == c.toList) = false := by simpa using hne
      clear hk hne
      go_enter Tryd.func12, Tryd.ntmps12
      go_wp2_with fail
      go_ret
      exact ⟨ret_bool hT.out.symm, two_box⟩
    subst hk
    obtain rfl : xt = yt := by rw [← h2, ← g2]
    have hT : Hid (sameL (sameF n m) l l' = total) := Lib.hid (by rw [hS.out]; simp)
    have hb2 := two_box (w := w) (cs := #[Value.int .i64 xk, .int .i64 xn, .string b, .slice A l.length cap]) (ds := #[Value.int .i64 xk, .int .i64 xn, .string b, .slice D l'.length cap']) (t := 24)
    have hc := equalFunc_any n m l l' A D cap cap' _ h6 g6 (h7.on hb2 (fun y cs hy => RAt.on hy hb2)) (g7.on hb2 (fun y cs hy => RAt.on hy hb2)) (ih m)
    rw [hT.out] at hc
    have hb2H := Lib.hid hb2
    clear h2 g2 hS h7 g7 ih hT hb2
    go_enter Tryd.func12, Tryd.ntmps12
    go_wp2_with (go_at_call 25; ((with_reducible refine hc.mono ?_); rintro e w1 ⟨rfl, hb1⟩))
    go_ret
    exact ⟨rfl, hb2H.out.trans (hb1.mono (by simp; omega))⟩

end Go.Proofs.YtogbjhpkbdmllaaDoor
