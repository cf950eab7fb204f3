/-
  The walks of the reference's comparisons, of Idle, of the laws' bound on bytes, of the reference's limits. Premises: lengths are small; what is compared is the same.
-/
import Derived.Test.YtjcicbkjngpcoaaGreatDoorQL
namespace Go.Proofs.YtjcicbkjngpcoaaGreatDoor
open Go.RowKit Dec Pq S4

theorem bytes_inj {a b : ByteArray} (h : a.data.toList = b.data.toList) : a = b := ByteArray.ext (Array.toList_inj.1 h)
theorem txt_inj {ss tt : List ByteArray} (h : txt ss = txt tt) : ss = tt := by
  induction ss generalizing tt with
  | nil => cases tt with
    | nil => rfl
    | cons b t => simp [txt] at h
  | cons a s ih => cases tt with
    | nil => simp [txt] at h
    | cons b t =>
      simp only [txt, List.map_cons, List.cons.injEq] at h
      rw [bytes_inj h.1, ih h.2]
theorem rq_inj {p q : MR} (h : rq p = rq q) : p = q := by
  obtain ⟨s, n⟩ := p
  obtain ⟨t, m⟩ := q
  simp only [rq, Prod.mk.injEq] at h
  rw [txt_inj h.1, h.2]
theorem rqs_inj {p q : List MR} (h : p.map rq = q.map rq) : p = q := by
  induction p generalizing q with
  | nil => cases q with
    | nil => rfl
    | cons b t => simp at h
  | cons a s ih => cases q with
    | nil => simp at h
    | cons b t =>
      simp only [List.map_cons, List.cons.injEq] at h
      rw [rq_inj h.1, ih h.2]
theorem mi_inj {x y : MI} (h : x.inp = y.inp) : x = y := by
  obtain ⟨a, b, c, d, e, f⟩ := x
  obtain ⟨a', b', c', d', e', f'⟩ := y
  simp only [MI.inp, Inp.mk.injEq] at h
  obtain ⟨h1, h2, rfl, rfl, rfl, rfl⟩ := h
  rw [bytes_inj h1, txt_inj h2]
abbrev Tr : Nat → Prop := fun _ => True
theorem SOk.free {W : World} {ok : Nat → Prop} {A : Option Addr} {ss : List ByteArray} (h : SOk W ok A ss) : SOk W Tr A ss := h.keep (fun _ _ _ => rfl) (Nat.le_refl _) (fun _ _ _ => trivial)
theorem drewN_trans {w w' : World} (h : ∃ m, w' = w.drewN m) (n : Nat) : ∃ m, w'.drewN n = w.drewN m := by
  obtain ⟨m, rfl⟩ := h
  exact ⟨m + n, World.drewN_drewN _ _ _⟩
set_option maxHeartbeats 1000000 in
theorem rtexts_any (A A' : Option Addr) (c c' : Nat) (ss : List ByteArray) (w : World) (hl : ss.length ≤ 1000000) (h1 : SOk w Tr A ss) (h2 : SOk w Tr A' ss) :
    Calls Tryz.prog 22 #[.slice A ss.length c, .slice A' ss.length c'] w fun e w' => e = .returned (.bool true) ∧ ∃ n, w' = w.drewN n := by
  have h1H := Lib.hid h1
  have h2H := Lib.hid h2
  clear h1 h2
  go_enter Tryz.func22, Tryz.ntmps22
  go_wp2_with fail
  go_loopw [5] (fun i wr => ∃ k : Nat, k ≤ ss.length ∧ i = .int .i64 k ∧ Hid (∃ m, wr = w.drewN m)) (fun i _ => ss.length - (intOf i).toNat)
  case atStart => exact ⟨0, by omega, rfl, Lib.hid ⟨0, rfl⟩⟩
  case round =>
    obtain ⟨k, hk, rfl, hW⟩ := hrel
    by_cases hlt : k < ss.length
    · obtain ⟨x, hx⟩ : ∃ x, ss[k]? = some x := ⟨_, List.getElem?_eq_getElem hlt⟩
      obtain ⟨a, rfl, _, _, hc⟩ := h1H.out k x hx
      obtain ⟨a', rfl, _, _, hc'⟩ := h2H.out k x hx
      clear hx
      obtain ⟨m, hm⟩ := hW.out
      have hcw : wr.cell? (a.add k) = some (.string x) := by rw [hm]; exact hc
      have hcw' : wr.cell? (a'.add k) = some (.string x) := by rw [hm]; exact hc'
      clear hc hc' hm
      go_wp2_with fail
      go_quiet (fail)
      go_wp2_with fail
      go_roundw
      case rel => exact ⟨k + 1, by omega, by go_num, Lib.hid (drewN_trans hW.out _)⟩
      case measure => simp [intOf]; omega
    · go_wp2_with fail
      go_ret
      exact ⟨rfl, hW.out⟩
set_option maxRecDepth 100000 in
set_option maxHeartbeats 2000000 in
theorem rsame_any (A A' : Option Addr) (c c' : Nat) (q : List MR) (w : World) (hl : q.length ≤ 1000000) (h1 : Rqs w Tr A q) (h2 : Rqs w Tr A' q) (hn : ∀ p ∈ q, p.1.length ≤ 1000000) :
    Calls Tryz.prog 10 #[.slice A q.length c, .slice A' q.length c'] w fun e w' => e = .returned (.bool true) ∧ ∃ n, w' = w.drewN n := by
  have h1H := Lib.hid h1
  have h2H := Lib.hid h2
  have hnH := Lib.hid hn
  clear h1 h2 hn
  go_enter Tryz.func10, Tryz.ntmps10
  go_wp2_with fail
  go_loopw [5] (fun i wr => ∃ k : Nat, k ≤ q.length ∧ i = .int .i64 k ∧ Hid (∃ m, wr = w.drewN m)) (fun i _ => q.length - (intOf i).toNat)
  case atStart => exact ⟨0, by omega, rfl, Lib.hid ⟨0, rfl⟩⟩
  case round =>
    obtain ⟨k, hk, rfl, hW⟩ := hrel
    by_cases hlt : k < q.length
    · obtain ⟨p, hx⟩ : ∃ x, q[k]? = some x := ⟨_, List.getElem?_eq_getElem hlt⟩
      have hnp := hnH.out p (List.mem_of_getElem? hx)
      obtain ⟨a, d0, d1, rfl, _, _, hc0, hc1, A1, cap1, hd, hne, hs1⟩ := h1H.out k p hx
      obtain ⟨a', d0', d1', rfl, _, _, hc0', hc1', A2, cap2, hd', _, hs2⟩ := h2H.out k p hx
      clear hx
      obtain ⟨rfl, rfl⟩ : d0 = .slice A1 p.1.length cap1 ∧ d1 = .int .i64 p.2 := by simpa using hd
      obtain ⟨rfl, rfl⟩ : d0' = .slice A2 p.1.length cap2 ∧ d1' = .int .i64 p.2 := by simpa using hd'
      obtain ⟨m, hm⟩ := hW.out
      have hw0 : wr.cell? (a.add (k * 2)) = some (.slice A1 p.1.length cap1) := by rw [hm]; exact hc0
      have hw1 : wr.cell? ⟨(a.add (k * 2)).block, (a.add (k * 2)).off + 1, none⟩ = some (.int .i64 p.2) := by rw [hm]; exact hc1
      have hw0' : wr.cell? (a'.add (k * 2)) = some (.slice A2 p.1.length cap2) := by rw [hm]; exact hc0'
      have hw1' : wr.cell? ⟨(a'.add (k * 2)).block, (a'.add (k * 2)).off + 1, none⟩ = some (.int .i64 p.2) := by rw [hm]; exact hc1'
      have hT := Lib.hid (fun n => rtexts_any A1 A2 cap1 cap2 p.1 (wr.drewN n) hnp (by rw [hm]; exact hs1) (by rw [hm]; exact hs2))
      clear hc0 hc1 hc0' hc1' hm hs1 hs2 hd hd' hne
      go_wp2_with fail
      go_quiet ((go_at_call 22; exact Calls.quiet_of (hT.out _)))
      go_wp2_with fail
      go_roundw
      case rel => exact ⟨k + 1, by omega, by go_num, Lib.hid (drewN_trans hW.out _)⟩
      case measure => simp [intOf]; omega
    · go_wp2_with fail
      go_ret
      exact ⟨rfl, hW.out⟩
set_option maxRecDepth 100000 in
set_option maxHeartbeats 2000000 in
theorem rinput_any (r : ByteArray) (A A' : Option Addr) (c c' : Nat) (ss : List ByteArray) (left size need : Nat) (body : Bool) (d : Int) (w : World) (hl : ss.length ≤ 1000000) (h1 : SOk w Tr A ss) (h2 : SOk w Tr A' ss) :
    Calls Tryz.prog 9 #[.agg #[.string r, .slice A ss.length c, .int .i64 left, .int .i64 size, .bool body, .int .i64 need, .int .i64 d], .agg #[.string r, .slice A' ss.length c', .int .i64 left, .int .i64 size, .bool body, .int .i64 need, .int .i64 d]] w fun e w' => e = .returned (.bool true) ∧ Below w.heap.size w w' := by
  have hT := Lib.hid (fun W (hb : Below w.heap.size w W) => rtexts_any A A' c c' ss W hl (h1.on hb) (h2.on hb))
  have hb2 := ((Below.refl w.heap.size w).alloc (Nat.le_refl _) (.cells #[.string r, .slice A ss.length c, .int .i64 left, .int .i64 size, .bool body, .int .i64 need, .int .i64 d] 29)).alloc (by simp) (.cells #[.string r, .slice A' ss.length c', .int .i64 left, .int .i64 size, .bool body, .int .i64 need, .int .i64 d] 29)
  have hb2H := Lib.hid hb2
  clear h1 h2 hb2
  go_enter Tryz.func9, Tryz.ntmps9
  cases body with
  | true =>
    go_wp2_with (go_at_call 22; ((with_reducible refine (hT.out _ hb2H.out).mono ?_); rintro e w' ⟨rfl, n, rfl⟩))
    go_ret
    exact ⟨by simp, below_drewN hb2H.out n⟩
  | false =>
    go_wp2_with (go_at_call 22; ((with_reducible refine (hT.out _ hb2H.out).mono ?_); rintro e w' ⟨rfl, n, rfl⟩))
    go_ret
    exact ⟨by simp, below_drewN hb2H.out n⟩
theorem idle_yes (w : World) : Calls Tryz.prog 13 #[.agg #[.string ⟨#[]⟩, .slice none 0 0, .int .i64 0, .int .i64 0, .bool false, .int .i64 0, .int .i64 0]] w fun e w' => e = .returned (.bool true) ∧ Below w.heap.size w w' := by
  go_enter Tryz.func13, Tryz.ntmps13
  go_wp2_with fail
  go_ret
  exact ⟨rfl, (Below.refl _ _).alloc (Nat.le_refl _) _⟩
def tot1 (ss : List ByteArray) : Nat := (ss.map fun s => min s.size 10000).sum
def farL (ss : List ByteArray) : Bool := decide (5000 < tot1 ss) || decide (100 < ss.length)
theorem tot1_take {ss : List ByteArray} {k : Nat} {x : ByteArray} (h : ss[k]? = some x) : tot1 (ss.take (k + 1)) = tot1 (ss.take k) + min x.size 10000 := by
  unfold tot1
  rw [List.take_add_one, h]
  simp
theorem tot1_le (ss : List ByteArray) (k : Nat) : tot1 (ss.take k) ≤ tot1 ss := by
  unfold tot1
  rw [List.map_take]
  conv => rhs; rw [← List.take_append_drop k (ss.map fun s => min s.size 10000)]
  rw [List.sum_append]
  omega
set_option maxHeartbeats 2000000 in
theorem far_any (A : Option Addr) (c : Nat) (ss : List ByteArray) (w : World) (hr : SOk w Tr A ss) (hl : ss.length ≤ 140737488355328) (F : Bool) (hF : Hid (farL ss = F)) :
    Calls Tryz.prog 5 #[.slice A ss.length c] w fun e w' => e = .returned (.bool F) ∧ w = w' := by
  have hrH := Lib.hid hr
  clear hr
  go_enter Tryz.func5, Tryz.ntmps5
  go_wp2_with fail
  go_loop [3, 8] (fun n i => ∃ k : Nat, i = .int .i64 k ∧ k ≤ ss.length ∧ n = .int .i64 (tot1 (ss.take k)) ∧ tot1 (ss.take k) ≤ 5000) (fun _ i => ss.length - (intOf i).toNat)
  case atStart => exact ⟨0, rfl, by omega, rfl, by simp [tot1]⟩
  case round =>
    obtain ⟨k, rfl, hk, rfl, hT⟩ := hrel
    by_cases hlt : k < ss.length
    · obtain ⟨x, hx⟩ : ∃ x, ss[k]? = some x := ⟨_, List.getElem?_eq_getElem hlt⟩
      obtain ⟨a, rfl, _, _, hc⟩ := hrH.out k x hx
      have hst := tot1_take hx
      have hxs : x.size ≤ 9223372036854775807 ∨ 9223372036854775807 < x.size := by omega
      have hle := tot1_le ss (k + 1)
      clear hx
      by_cases hov : 5000 < tot1 (ss.take (k + 1))
      · have hR : Hid (F = true) := Lib.hid (by rw [← hF.out]; unfold farL; rw [decide_eq_true (by omega)]; rfl)
        have hm : (5000 : Int) < (tot1 (ss.take k) : Int) + min (x.size : Int) 10000 := by omega
        clear hst hle
        go_wp2_with fail
        all_goals first
          | (exfalso; omega)
          | (go_ret; exact ⟨by rw [hR.out]; rfl, rfl⟩)
      · have hm : (tot1 (ss.take k) : Int) + min (x.size : Int) 10000 ≤ 5000 := by omega
        have hv : Hid ((tot1 (ss.take k) : Int) + min (x.size : Int) 10000 = (tot1 (ss.take (k + 1)) : Nat)) := Lib.hid (by omega)
        have hov2 : tot1 (ss.take (k + 1)) ≤ 5000 := by omega
        clear hst hle hov
        go_wp2_with fail
        all_goals first
          | (exfalso; omega)
          | (go_round
             case rel => exact ⟨k + 1, by go_num, by omega, by rw [hv.out], hov2⟩
             case measure => simp [intOf]; omega)
    · have hR : Hid (F = decide (100 < ss.length)) := Lib.hid (by
        rw [← hF.out]
        unfold farL
        rw [List.take_of_length_le (by omega)] at hT
        rw [decide_eq_false (by omega), Bool.false_or])
      go_wp2_with fail
      go_ret
      exact ⟨by rw [hR.out]; simp; omega, rfl⟩
end Go.Proofs.YtjcicbkjngpcoaaGreatDoor
