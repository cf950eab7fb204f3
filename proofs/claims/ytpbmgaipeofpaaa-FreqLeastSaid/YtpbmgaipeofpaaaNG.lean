/-
  Room is given up: the cards behind a new map. Premises: a book as it lies, of at most a million keys.
-/
import Derived.Test.YtpbmgaipeofpaaaNF
import Derived.Maps.Ext
namespace Go.Proofs.Ytpbmgaipeofpaaa
open Go.RowKit
open Go.Maps (Agree agree_start agree_step agree_end)
variable {q : Option Value} {w w' : World} {p room n : Nat} {cm rm : Option Nat} {rv : Value} {c : Cd} {r : Rw} {R OC OR O : List Nat} {T : List ByteArray} {F : Int → List ByteArray}

theorem room_small {w : World} {p n room : Nat} {cm : Option Nat} (c0 : w.cell? ⟨p, 0, none⟩ = some (.map cm)) (c3 : w.cell? ⟨p, 3, none⟩ = some (.int .i64 (room : Int))) (hl : ∀ ty k, (Builtin.len_ #[49] ty #[.map cm]).run Try.prog (w.drewN k) = .ok (.int .i64 (n : Int)) (w.drewN k)) (hn : n ≤ 1000000)
    (hb : room ≤ 8 ∨ room ≤ 4 * n) : Calls Try.prog 29 #[ptr p] w fun e w' => e = .returned (.tuple #[]) ∧ ∃ k, w' = w.drewN k := by
  have hw : IntKind.i64.wrap (4 * (n : Int)) = 4 * (n : Int) := IntWalk.i64_in _ (by omega)
  clear hn
  by_cases h8 : room ≤ 8
  · have hd : decide ((room : Int) ≤ 8) = true := decide_eq_true (by omega)
    clear h8 hb
    go_enter Try.func29, Try.ntmps29
    go_wp2_with fail
    go_quiet (fail)
    go_wp2_with fail
    all_goals refine bodyPost_ret (results_none rfl _ _ _) rfl ?_
    all_goals exact ⟨rfl, _, rfl⟩
  · have hd : decide ((room : Int) ≤ 8) = false := decide_eq_false (by omega)
    have hd2 : decide ((room : Int) ≤ 4 * (n : Int)) = true := decide_eq_true (by omega)
    clear h8 hb
    go_enter Try.func29, Try.ntmps29
    go_wp2_with fail
    go_quiet (fail)
    go_wp2_with fail
    all_goals refine bodyPost_ret (results_none rfl _ _ _) rfl ?_
    all_goals exact ⟨rfl, _, rfl⟩
theorem ptrV_out {v : Value} {y : DN × List MemPlace} (h : ptrR v = some y) : ∃ o, v = ptrV o := by
  unfold ptrR at h
  split at h
  · exact ⟨none, rfl⟩
  · next b => exact ⟨some b, rfl⟩
  · cases h
set_option maxHeartbeats 4000000 in
theorem room_big {m : Nat} (h : Bok q w p (some m) rm rv room n c r R T OC OR) (h8 : ¬ room ≤ 8) (h4 : ¬ room ≤ 4 * n) :
    Calls Try.prog 29 #[ptr p] w fun e w' => e = .returned (.tuple #[]) ∧ ∃ cm' room' OC', Bok q w' p cm' rm rv room' n c r R T OC' OR ∧ Move (ownB p OC OR R) w w' (ownB p OC' OR R) := by
  have hfew := h.few
  have hw : IntKind.i64.wrap (4 * (n : Int)) = 4 * (n : Int) := IntWalk.i64_in _ (by omega)
  have hd : decide ((room : Int) ≤ 8) = false := decide_eq_false (by omega)
  have hd2 : decide ((room : Int) ≤ 4 * (n : Int)) = false := decide_eq_false (by omega)
  have c0 : w.cell? ⟨p, 0, none⟩ = some (.map (some m)) := h.cell 0
  have c3 : w.cell? ⟨p, 3, none⟩ = some (.int .i64 (room : Int)) := h.cell 3
  have hB := Lib.hid (fun (W : World) (ho : Only [] w W) => h.keep ho (by simp))
  have hl : ∀ ty k, (Builtin.len_ #[49] ty #[.map (some m)]).run Try.prog (w.drewN k) = .ok (.int .i64 (n : Int)) (w.drewN k) := fun ty k => (hB.out _ ((Only.refl [] w).drewN k)).cards.map.len tC ty
  have hfewH := Lib.hid hfew
  clear h h8 h4 hfew
  go_enter Try.func29, Try.ntmps29
  go_wp2_with fail
  go_quiet (fail)
  obtain ⟨W, hW⟩ : ∃ W, W = w.drewN nq := ⟨_, rfl⟩
  have hoW : Only [] w W := by rw [hW]; exact (Only.refl [] w).drewN _
  have c0W : W.cell? ⟨p, 0, none⟩ = some (.map (some m)) := (hB.out W hoW).cell 0
  have hlW : ∀ ty, (Builtin.len_ #[49] ty #[.map (some m)]).run Try.prog W = .ok (.int .i64 (n : Int)) W := fun ty => (hB.out W hoW).cards.map.len tC ty
  have hmk := cm_make_n W (n : Int)
  obtain ⟨D, hD, hDs, hDf⟩ := (hB.out W hoW).cards.map
  have hml : m < W.heap.size := hD.lt
  have hown1 := hD.alloc (.map #[] 0)
  have c01 := cell_past c0W (.map #[] 0)
  have hoWH := Lib.hid hoW
  have hDsH := Lib.hid hDs
  have hDfH := Lib.hid hDf
  have hmlH := Lib.hid hml
  have e1 : (W.alloc (.map #[] 0)).heap.size = W.heap.size + 1 := by simp
  rw [← hW]
  clear hoW hD hDs hDf hml hW hl hd hd2 hw c0 c3
  go_wp2_with (first
    | (at_range; refine wpList_range_own _ rfl _ 49 rfl 9 56 keyed Try.underlying49 ptrR m n D rfl hown1 ?_; intro w0 hrg0 hg0 hs0)
    | go_in)
  rw [e1] at hrg0 hs0
  go_loopw [3] (fun _ wr => ∃ (left : Lit → Bool) (cnt : Nat) (Dout : DN), wr.ranges Try.prog 9 ptrR m (W.heap.size + 1) n D left cnt ∧ cnt ≤ n ∧ wr.ownsMap Try.prog 9 ptrR W.heap.size (n - cnt) Dout ∧ Agree Dout D left ∧ Hid (Only [] W wr))
    (fun _ wr => wr.rangeLeft m (W.heap.size + 1))
  case atStart =>
    refine ⟨_, _, .map [], hrg0, by rw [hDsH.out]; exact Nat.le_refl _, ((World.ownsMap_made _ _ _ _).kept hg0 (by simp)).mono (Nat.zero_le _), agree_start D, Lib.hid ?_⟩
    exact ((Only.refl [] W).alloc _).trans (by simpa using grown_only hg0) (by simp)
  case round =>
    obtain ⟨left, cnt, Dout, hrg, hcs, hout, hA, hnx⟩ := hrel
    go_wp2_with (first
      | (at_next; refine wpList_next_ranges _ rfl _ rfl 9 keyed ptrR Value.string ptrV (fun key kl hkey => by obtain ⟨s, h1, _⟩ := kS.out hkey; exact ⟨s, h1⟩) (fun v y hv => ptrV_out hv) m (W.heap.size + 1) n _ _ _ rfl hrg ?_ ?_)
      | go_in)
    · intro hc0 hl0
      subst hc0
      have e := agree_end hA hl0 (hout.canon keyed) (hown1.canon keyed)
      subst e
      have hBr := hB.out _ (hoWH.out.trans hnx.out (by simp))
      have d0 : wr.cell? ⟨p, 0, none⟩ = some (.map (some m)) := hBr.cell 0
      have z0 : wr.frozen? ⟨p, 0, none⟩ = false := block_frozen hBr.ring.1
      obtain ⟨w2, hw2⟩ : ∃ w2, w2 = wr.setCell ⟨p, 0, none⟩ (.map (some W.heap.size)) := ⟨_, rfl⟩
      have hp2 : w2.heap[p]? = some (.cells (headA (some W.heap.size) rm rv room) 55 (0, 0)) := by rw [hw2, Joins.block_setCell hBr.ring.1]; rfl
      have d3 : (wr.setCell ⟨p, 0, none⟩ (.map (some W.heap.size))).cell? ⟨p, 3, none⟩ = some (.int .i64 (room : Int)) := by rw [← hw2]; exact Lib.cell_of_heap hp2 3
      have z3 : (wr.setCell ⟨p, 0, none⟩ (.map (some W.heap.size))).frozen? ⟨p, 3, none⟩ = false := by rw [← hw2]; exact block_frozen hp2
      have hlr : ∀ ty, (Builtin.len_ #[49] ty #[.map (some W.heap.size)]).run Try.prog wr = .ok (.int .i64 (n : Int)) wr := fun ty => by rw [hout.len Try.underlying49, hDsH.out]
      have hfin : Hid (∃ OC', Bok q ((wr.setCell ⟨p, 0, none⟩ (.map (some W.heap.size))).setCell ⟨p, 3, none⟩ (.int .i64 (n : Int))) p (some W.heap.size) rm rv n n c r R T OC' OR ∧ Move (ownB p OC OR R) w ((wr.setCell ⟨p, 0, none⟩ (.map (some W.heap.size))).setCell ⟨p, 3, none⟩ (.int .i64 (n : Int))) (ownB p OC' OR R)) := Lib.hid (by
        have o4 : Only [p] wr ((wr.setCell ⟨p, 0, none⟩ (.map (some W.heap.size))).setCell ⟨p, 3, none⟩ (.int .i64 (n : Int))) := ((Only.refl [p] wr).set (p := ⟨p, 0, none⟩) (Or.inl (by simp)) _).set (p := ⟨p, 3, none⟩) (Or.inl (by simp)) _
        have h0 := hB.out w (Only.refl _ _)
        have hs := hoWH.out.size
        have hpl := some_lt h0.ring.1
        have o5 := ((hoWH.out.trans hnx.out (by simp)).mono (O' := [p]) (by simp)).trans o4 (fun x hx => Or.inl hx)
        have hmap : MapO kS ((wr.setCell ⟨p, 0, none⟩ (.map (some W.heap.size))).setCell ⟨p, 3, none⟩ (.int .i64 (n : Int))) (some W.heap.size) n (fun k => (c k).map Prod.fst) := by
          have : MapO kS wr (some W.heap.size) n (fun k => (c k).map Prod.fst) := ⟨Dout, ownsK_tight hout (by rw [hDsH.out]; exact Nat.le_refl _), hDsH.out, hDfH.out⟩
          exact this.keep o4 (fun m' hm' => by cases hm'; simp; omega)
        have hc4 := h0.cards.keep o5 (p_not h0.pC)
        have hmx : W.heap.size < wr.heap.size := hout.lt
        refine ⟨W.heap.size :: OC, h0.headTo o5 (by rw [Joins.block_setCell (hw2 ▸ hp2)]; rfl) ⟨hmap, hc4.card, ⟨fun m' hm' => (by cases hm'; simp), fun k b x hk => List.mem_cons_of_mem _ (hc4.mem.2 k b x hk)⟩, fun b hb => ?_⟩ (h0.rows.keep o5 (p_not h0.pR)) (fun b hb => ?_) (fun b hb => Or.inl hb) (fun b hb hm => ?_) hfewH.out⟩
        · rcases List.mem_cons.1 hb with rfl | hb
          · have := o4.size; omega
          · exact hc4.lt b hb
        · rcases List.mem_cons.1 hb with rfl | hb
          · exact Or.inr hs
          · exact Or.inl hb
        · rcases List.mem_cons.1 hb with rfl | hb
          · have := h0.rows.lt _ hm; omega
          · exact h0.cr b hb hm)
      clear hBr hout hrg hA hcs hown1 hl0 hp2 hw2 w2
      go_wp2
      all_goals go_end0
      obtain ⟨OC', k1, k2⟩ := hfin.out
      exact ⟨rfl, _, _, OC', k1, k2⟩
    · intro x o kl yd yp w1 cnt1 hkx hlk hRy hat hrg1 hlt hg1 hs1 hen
      have hout1 := hout.kept hg1 (by simp)
      have hnn := hfewH.out
      go_wp2_with (first
        | (at_mapUpdate; refine wpList_mapUpdate_own _ rfl _ _ _ 49 rfl 9 56 keyed Try.underlying49 ptrR W.heap.size _ _ rfl hout1 (by unfold maxLen; omega) _ _ _ rfl rfl hkx _ _ hRy ?_; intro w2 hout2 hg2; go_frame)
        | go_in)
      have hrg2 := hrg1.kept hg2 (fun e => by have := Option.some.inj e; have := hmlH.out; omega) (fun e => by have := Option.some.inj e; omega)
      go_roundw
      case rel =>
        refine ⟨_, cnt1, _, hrg2, by omega, hout2.mono (by omega), agree_step hA hout.isMap (keyed.key hkx) hat, Lib.hid ?_⟩
        have a1 : Only [W.heap.size + 1] wr w1 := by simpa using grown_only hg1
        have a2 : Only [W.heap.size] w1 w2 := by simpa using grown_only hg2
        exact (hnx.out.trans a1 (fun z hz => Or.inr (by rw [List.mem_singleton.1 hz]; omega))).trans a2 (fun z hz => Or.inr (by rw [List.mem_singleton.1 hz]; omega))
      case measure => rw [hrg2.left_eq, hrg.left_eq]; exact hlt
theorem Bok.giveUp {m : Nat} (h : Bok q w p (some m) rm rv room n c r R T OC OR) :
    Calls Try.prog 29 #[ptr p] w fun e w' => e = .returned (.tuple #[]) ∧ ∃ cm' room' OC', Bok q w' p cm' rm rv room' n c r R T OC' OR ∧ Move (ownB p OC OR R) w w' (ownB p OC' OR R) := by
  by_cases hb : room ≤ 8 ∨ room ≤ 4 * n
  · refine (room_small (h.cell 0) (h.cell 3) (fun ty k => (h.keep ((Only.refl [] w).drewN k) (by simp)).cards.map.len tC ty) h.few hb).mono ?_
    rintro e w' ⟨rfl, k, rfl⟩
    exact ⟨rfl, some m, room, OC, h.keep ((Only.refl [] w).drewN k) (by simp), Move.none ((Only.refl [] w).drewN k)⟩
  · exact room_big h (fun e => hb (Or.inl e)) (fun e => hb (Or.inr e))
end Go.Proofs.Ytpbmgaipeofpaaa
