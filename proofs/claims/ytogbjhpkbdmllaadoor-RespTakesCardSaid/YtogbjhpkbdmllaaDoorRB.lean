/-
  The walk of whether two replies are the same, as the document's answer has it. No premise but that the replies lie in memory.
-/
import Derived.Test.YtogbjhpkbdmllaaDoorRA
import Derived.StillTailTactics
namespace Go.Proofs.YtogbjhpkbdmllaaDoor
open Go.RowKit Rp Dec

theorem sameL_len {α β : Type} {f : α → β → Bool} : ∀ {l : List α} {m : List β}, l.length ≠ m.length → sameL f l m = false
  | [], [], h => absurd rfl h
  | [], _ :: _, _ => rfl
  | _ :: _, [], _ => rfl
  | a :: l, b :: m, h => by
    rw [sameL, sameL_len (l := l) (m := m) (fun e => h (by simp [e])), Bool.and_false]
theorem sameL_next {α β : Type} {f : α → β → Bool} {l : List α} {m : List β} {k : Nat} {a : α} {b : β} (ha : l[k]? = some a) (hb : m[k]? = some b) : sameL f (l.drop k) (m.drop k) = (f a b && sameL f (l.drop (k + 1)) (m.drop (k + 1))) := by
  obtain ⟨h1, rfl⟩ := List.getElem?_eq_some_iff.1 ha
  obtain ⟨h2, rfl⟩ := List.getElem?_eq_some_iff.1 hb
  rw [List.drop_eq_getElem_cons h1, List.drop_eq_getElem_cons h2, sameL]
theorem sameL_end {α β : Type} {f : α → β → Bool} {l : List α} {m : List β} {k : Nat} (h1 : l.length ≤ k) (h2 : m.length ≤ k) : sameL f (l.drop k) (m.drop k) = true := by
  rw [List.drop_of_length_le h1, List.drop_of_length_le h2]; rfl
theorem ret_bool {a b : Bool} (h : a = b) : Ending.returned (.bool a) = .returned (.bool b) := by rw [h]
theorem two_box {w : World} {cs ds : Array Value} {t : TypeId} : Below w.heap.size w ((w.alloc (.cells cs t)).alloc (.cells ds t)) := ((Below.refl _ _).alloc (Nat.le_refl _) _).alloc (by simp) _
theorem kept_cell {W wr : World} {B b : Nat} {cs : Array Value} {t : TypeId} {fz : Nat × Nat} (hb : Below B W wr) (h : W.heap[b]? = some (.cells cs t fz)) (hl : b < B) (j : Nat) : wr.cell? ⟨b, j, none⟩ = cs[j]? :=
  Lib.cell_of_heap ((hb.block b hl).trans h) j

theorem RAt.drew {w : World} {ok : Nat → Prop} {n : Nat} {x : Rep n} {cs : List Value} (h : RAt w ok n x cs) : RAt w.drew ok n x cs := h.keep (fun _ _ _ => rfl) (Nat.le_refl _) (fun _ h _ => h)

set_option maxRecDepth 100000 in
set_option maxHeartbeats 2000000 in
theorem rsame_any (n : Nat) : ∀ (m : Nat) (x : Rep n) (y : Rep m) (cs ds : Array Value) (w : World), RAt w (fun _ => True) n x cs.toList → RAt w (fun _ => True) m y ds.toList →
    Calls Tryd.prog 13 #[.agg cs, .agg ds] w fun e w' => e = .returned (.bool (sameF n m x y)) ∧ Below w.heap.size w w' := by
  induction n with
  | zero => intro m x; exact x.elim
  | succ n ih =>
    intro m
    cases m with
    | zero => intro x y; exact y.elim
    | succ m =>
    intro x y cs ds w h g
    obtain ⟨b, A, cap, h1, h2, h3, h4, h5, h6, h7⟩ := h
    obtain ⟨c, D, cap', g1, g2, g3, g4, g5, g6, g7⟩ := g
    obtain ⟨cs⟩ := cs
    obtain ⟨ds⟩ := ds
    simp only at h1 g1
    subst h1 g1
    clear h3 h4 g3 g4
    have hS : Hid (sameF (n + 1) (m + 1) x y = ((x : RNode (Rep n)).kind == (y : RNode (Rep m)).kind && ((x : RNode (Rep n)).num == (y : RNode (Rep m)).num && ((x : RNode (Rep n)).txt == (y : RNode (Rep m)).txt && sameL (sameF n m) (x : RNode (Rep n)).sub (y : RNode (Rep m)).sub)))) := Lib.hid rfl
    generalize sameF (n + 1) (m + 1) x y = total at *
    obtain ⟨xk, xn, xt, l⟩ : RNode (Rep n) := x
    obtain ⟨yk, yn, yt, l'⟩ : RNode (Rep m) := y
    simp only at h2 g2 h6 g6 h7 g7 hS ⊢
    by_cases hk : xk = yk
    case neg =>
      have hT : Hid (total = false) := Lib.hid (by rw [hS.out]; simp [hk])
      have k1 : (xk == yk) = false := by simpa using hk
      have k2 : (xk != yk) = true := by simpa using hk
      clear hk
      go_enter Tryd.func13, Tryd.ntmps13
      go_wp2_with fail
      go_ret
      exact ⟨ret_bool hT.out.symm, two_box⟩
    subst hk
    by_cases hk : xn = yn
    case neg =>
      have hT : Hid (total = false) := Lib.hid (by rw [hS.out]; simp [hk])
      have k1 : (xn == yn) = false := by simpa using hk
      have k2 : (xn != yn) = true := by simpa using hk
      clear hk
      go_enter Tryd.func13, Tryd.ntmps13
      go_wp2_with fail
      go_ret
      exact ⟨ret_bool hT.out.symm, two_box⟩
    subst hk
    by_cases hk : b = c
    case neg =>
      have hne : b.toList ≠ c.toList := fun e => hk (bytes_eq (bytes_toList e))
      have hT : Hid (total = false) := Lib.hid (by
        rw [hS.out]
        have : xt ≠ yt := by rw [← h2, ← g2]; intro e; exact hk (bytes_eq e)
        simp [this])
      have k1 : (b.toList == c.toList) = false := by simpa using hne
      have k2 : (b.toList != c.toList) = true := by simpa using hne
      clear hk hne
      go_enter Tryd.func13, Tryd.ntmps13
      go_wp2_with fail
      go_ret
      exact ⟨ret_bool hT.out.symm, two_box⟩
    subst hk
    obtain rfl : xt = yt := by rw [← h2, ← g2]
    by_cases hk : l.length = l'.length
    case neg =>
      have hT : Hid (total = false) := Lib.hid (by rw [hS.out, sameL_len hk]; simp)
      have k1 : ((l.length : Int) == (l'.length : Int)) = false := by simp; omega
      have k2 : ((l.length : Int) != (l'.length : Int)) = true := by simp; omega
      have k3 : (l.length == l'.length) = false := by simpa using hk
      have k4 : (l.length != l'.length) = true := by simpa using hk
      clear hk
      go_enter Tryd.func13, Tryd.ntmps13
      go_wp2_with fail
      go_ret
      exact ⟨ret_bool hT.out.symm, two_box⟩
    have hT : Hid (total = sameL (sameF n m) l l') := Lib.hid (by rw [hS.out]; simp)
    have hkH := Lib.hid hk
    rw [← hk] at g6
    clear h2 g2 hS
    rw [← hk]
    clear hk
    go_enter Tryd.func13, Tryd.ntmps13
    go_wp2_with fail
    have hL := two_box (w := w) (cs := #[Value.int .i64 xk, .int .i64 xn, .string b, .slice A l.length cap]) (ds := #[Value.int .i64 xk, .int .i64 xn, .string b, .slice D l.length cap']) (t := 24)
    have hb1 : ((w.alloc (.cells #[Value.int .i64 xk, .int .i64 xn, .string b, .slice A l.length cap] 24)).alloc (.cells #[Value.int .i64 xk, .int .i64 xn, .string b, .slice D l.length cap'] 24)).heap[w.heap.size]? = some (.cells #[Value.int .i64 xk, .int .i64 xn, .string b, .slice A l.length cap] 24 (0, 0)) := by
      rw [Below.heap_alloc _ _ _ (by simp)]; exact heap_alloc_new w _
    have hb2 : ((w.alloc (.cells #[Value.int .i64 xk, .int .i64 xn, .string b, .slice A l.length cap] 24)).alloc (.cells #[Value.int .i64 xk, .int .i64 xn, .string b, .slice D l.length cap'] 24)).heap[w.heap.size + 1]? = some (.cells #[Value.int .i64 xk, .int .i64 xn, .string b, .slice D l.length cap'] 24 (0, 0)) := by
      have := heap_alloc_new (w.alloc (.cells #[Value.int .i64 xk, .int .i64 xn, .string b, .slice A l.length cap] 24)) (.cells #[Value.int .i64 xk, .int .i64 xn, .string b, .slice D l.length cap'] 24)
      simpa using this
    have hz : ((w.alloc (.cells #[Value.int .i64 xk, .int .i64 xn, .string b, .slice A l.length cap] 24)).alloc (.cells #[Value.int .i64 xk, .int .i64 xn, .string b, .slice D l.length cap'] 24)).heap.size = w.heap.size + 2 := by simp
    generalize (w.alloc (.cells #[Value.int .i64 xk, .int .i64 xn, .string b, .slice A l.length cap] 24)).alloc (.cells #[Value.int .i64 xk, .int .i64 xn, .string b, .slice D l.length cap'] 24) = W at hL hb1 hb2 hz ⊢
    have hzH := Lib.hid hz
    have hb1H := Lib.hid hb1
    have hb2H := Lib.hid hb2
    clear hz hb1 hb2
    go_loopw [5] (fun i wr => ∃ k : Nat, i = .int .i64 k ∧ k ≤ l.length ∧ Hid (sameL (sameF n m) (l.drop k) (l'.drop k) = total) ∧ Below (w.heap.size + 2) W wr) (fun i _ => l.length - (intOf i).toNat)
    case atStart => exact ⟨0, rfl, by omega, Lib.hid (by rw [hT.out]; rfl), Below.refl _ _⟩
    case round =>
      obtain ⟨k, rfl, hk, hD, hM⟩ := hrel
      have hW : Below w.heap.size w wr := hL.trans (hM.mono (by omega))
      have h7' := h7.on hW (fun y cs hy => RAt.on hy hW)
      have g7' := g7.on hW (fun y cs hy => RAt.on hy hW)
      have hWH := Lib.hid hW
      clear hW
      have c3 : wr.cell? ⟨w.heap.size, 3, none⟩ = some (.slice A l.length cap) := kept_cell hM hb1H.out (by omega) 3
      have d3 : wr.cell? ⟨w.heap.size + 1, 3, none⟩ = some (.slice D l.length cap') := kept_cell hM hb2H.out (by omega) 3
      by_cases hlt : k < l.length
      · have hlt' : k < l'.length := by have := hkH.out; omega
        obtain ⟨ad, c0, c1, c2, c3', hA, _, hblk, e0, e1, e2, e3, hf⟩ := h7' k l[k] (List.getElem?_eq_getElem hlt)
        obtain ⟨ad', f0, f1, f2, f3', hA', _, hblk', i0, i1, i2, i3, hg⟩ := g7' k l'[k] (List.getElem?_eq_getElem hlt')
        subst hA hA'
        have hN := Lib.hid (sameL_next (f := sameF n m) (List.getElem?_eq_getElem hlt) (List.getElem?_eq_getElem hlt'))
        have n1 : (0 : Int) ≤ (k : Int) := by omega
        have n2 : (k : Int) < (l.length : Int) := by omega
        have hc := ih m l[k] l'[k] #[c0, c1, c2, c3'] #[f0, f1, f2, f3'] wr.drew hf.drew hg.drew
        generalize sameF n m l[k] l'[k] = q at hc hN
        cases q with
        | true =>
          go_wp2_with fail
          go_still_tail 10, (by kernel_rfl)
          change wpList _ _ _ _ _ wr.drew
          go_wp2_with (go_at_call 13; ((with_reducible refine hc.mono ?_); rintro e w1 ⟨rfl, hb1⟩))
          go_roundw
          case rel => exact ⟨k + 1, by go_num, by omega, Lib.hid (by rw [← hD.out, hN.out, Bool.true_and]), hM.drew.trans ((hb1.mono (by have := hM.size; have := hzH.out; simp; omega)))⟩
          case measure => simp [intOf]; omega
        | false =>
          go_wp2_with fail
          go_still_tail 10, (by kernel_rfl)
          change wpList _ _ _ _ _ wr.drew
          go_wp2_with (go_at_call 13; ((with_reducible refine hc.mono ?_); rintro e w1 ⟨rfl, hb1⟩))
          go_ret
          exact ⟨ret_bool (by rw [← hD.out, hN.out, Bool.false_and]), hWH.out.drew.trans (hb1.mono (by have := hWH.out.size; simp; omega))⟩
      · have hE := Lib.hid (sameL_end (f := sameF n m) (l := l) (m := l') (k := k) (by omega) (by have := hkH.out; omega))
        go_wp2_with fail
        go_ret
        exact ⟨ret_bool (by rw [← hD.out, hE.out]), hWH.out⟩

end Go.Proofs.YtogbjhpkbdmllaaDoor
