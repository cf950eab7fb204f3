/-
  What one step on a book's memory leaves: a map made, a card laid, a count set, a row's order turned, a row laid, a row that goes, the touches' order turned. Premises: a book as it lies, of at most a million keys.
-/
import Derived.Test.YtpbmgaipeofpaaaND
namespace Go.Proofs.Ytpbmgaipeofpaaa
open Go.RowKit
variable {q : Option Value} {w w' : World} {p room n : Nat} {cm rm : Option Nat} {rv : Value} {c : Cd} {r : Rw} {R OC OR O : List Nat} {T : List ByteArray} {F : Int → List ByteArray}

/-- The head's other cells are written. -/
theorem Bok.headTo {cm' rm' : Option Nat} {room' : Nat} {OC' OR' : List Nat} (h : Bok q w p cm rm rv room n c r R T OC OR) (ho : Only [p] w w') (hp : w'.heap[p]? = some (.cells (headA cm' rm' rv room') 55 (0, 0)))
    (hc : Cards w' cm' n c OC') (hr : Rows' w' rm' r OR') (hC : ∀ b ∈ OC', b ∈ OC ∨ w.heap.size ≤ b) (hR : ∀ b ∈ OR', b ∈ OR ∨ w.heap.size ≤ b) (hCR : ∀ b ∈ OC', b ∉ OR') (hf : room' ≤ 1000000) : Bok q w' p cm' rm' rv room' n c r R T OC' OR' ∧ Move (ownB p OC OR R) w w' (ownB p OC' OR' R) := by
  have hpl := some_lt h.ring.1
  have hpR := h.ring.2.1
  refine ⟨⟨h.ring.keepAt ho hp rfl (fun b hb hm => hpR (List.mem_singleton.1 hm ▸ hb)), hc, hr, fun hm => ?_, fun hm => ?_, hCR, fun b hb hm => ?_, fun b hb hm => ?_, h.few, hf⟩, ho.mono (fun x hx => mem_ownB.2 (Or.inl (List.mem_singleton.1 hx))), fun b hb => ?_⟩
  · rcases hC p hm with e | e
    · exact h.pC e
    · omega
  · rcases hR p hm with e | e
    · exact h.pR e
    · omega
  · rcases hC b hb with e | e
    · exact h.ct b e hm
    · have := h.ring.lt hm
      omega
  · rcases hR b hb with e | e
    · exact h.rt b e hm
    · have := h.ring.lt hm
      omega
  · rcases mem_ownB.1 hb with rfl | hb | hb | hb
    · exact Or.inl (mem_ownB.2 (Or.inl rfl))
    · exact (hC b hb).imp (fun e => mem_ownB.2 (Or.inr (Or.inl e))) id
    · exact (hR b hb).imp (fun e => mem_ownB.2 (Or.inr (Or.inr (Or.inl e)))) id
    · exact Or.inl (mem_ownB.2 (Or.inr (Or.inr (Or.inr hb))))
theorem p_not {OC : List Nat} (h : p ∉ OC) : ∀ b ∈ OC, b ∉ [p] := fun _ hb hm => h (List.mem_singleton.1 hm ▸ hb)
/-- The cards' map is made. -/
theorem Bok.makeC (h : Bok q w p none rm rv room n c r R T OC OR) : Bok q ((w.alloc (.map #[] 0)).setCell ⟨p, 0, none⟩ (.map (some w.heap.size))) p (some w.heap.size) rm rv room n c r R T (w.heap.size :: OC) OR ∧
    Move (ownB p OC OR R) w ((w.alloc (.map #[] 0)).setCell ⟨p, 0, none⟩ (.map (some w.heap.size))) (ownB p (w.heap.size :: OC) OR R) := by
  have hpl := some_lt h.ring.1
  have o1 : Only [] w (w.alloc (.map #[] 0)) := (Only.refl [] w).alloc _
  have hp1 := o1.keep h.ring.1 (by simp)
  have o2 : Only [p] w ((w.alloc (.map #[] 0)).setCell ⟨p, 0, none⟩ (.map (some w.heap.size))) := (o1.mono (by simp)).set (p := ⟨p, 0, none⟩) (Or.inl (by simp)) _
  have o3 : Only [p] (w.alloc (.map #[] 0)) ((w.alloc (.map #[] 0)).setCell ⟨p, 0, none⟩ (.map (some w.heap.size))) := (Only.refl _ _).set (p := ⟨p, 0, none⟩) (Or.inl (by simp)) _
  have hn : n = 0 := h.cards.map.1
  have hc0 : ∀ k, c k = none := fun k => by
    have this : (c k).map Prod.fst = none := h.cards.map.2 k
    cases hck : c k with
    | none => rfl
    | some q => rw [hck] at this; cases this
  have hm : MapO kS ((w.alloc (.map #[] 0)).setCell ⟨p, 0, none⟩ (.map (some w.heap.size))) (some w.heap.size) n (fun k => (c k).map Prod.fst) := by
    rw [hn]
    exact (mapO_made.keep o3 (fun m hm => by cases hm; simp; omega)).ext (fun k => by rw [hc0]; rfl)
  have hCl := h.cards.lt
  have hRl := h.rows.lt
  refine h.headTo o2 (by rw [Joins.block_setCell hp1]; rfl) ⟨hm, fun k b x hk => (by rw [hc0] at hk; cases hk), ⟨fun m hm => (by cases hm; simp), fun k b x hk => (by rw [hc0] at hk; cases hk)⟩, fun b hb => ?_⟩ (h.rows.keep o2 (p_not h.pR)) (fun b hb => ?_) (fun b hb => Or.inl hb) (fun b hb hm => ?_) h.rfew
  · rcases List.mem_cons.1 hb with rfl | hb
    · simp
    · have := hCl b hb
      have := o2.size
      omega
  · rcases List.mem_cons.1 hb with rfl | hb
    · exact Or.inr (Nat.le_refl _)
    · exact Or.inl hb
  · rcases List.mem_cons.1 hb with rfl | hb
    · have := hRl _ hm
      omega
    · exact h.cr b hb hm
/-- The rows' map is made. -/
theorem Bok.makeR (h : Bok q w p cm none rv room n c r R T OC OR) : Bok q ((w.alloc (.map #[] 0)).setCell ⟨p, 1, none⟩ (.map (some w.heap.size))) p cm (some w.heap.size) rv room n c r R T OC (w.heap.size :: OR) ∧
    Move (ownB p OC OR R) w ((w.alloc (.map #[] 0)).setCell ⟨p, 1, none⟩ (.map (some w.heap.size))) (ownB p OC (w.heap.size :: OR) R) := by
  have hpl := some_lt h.ring.1
  have o1 : Only [] w (w.alloc (.map #[] 0)) := (Only.refl [] w).alloc _
  have hp1 := o1.keep h.ring.1 (by simp)
  have o2 : Only [p] w ((w.alloc (.map #[] 0)).setCell ⟨p, 1, none⟩ (.map (some w.heap.size))) := (o1.mono (by simp)).set (p := ⟨p, 1, none⟩) (Or.inl (by simp)) _
  have o3 : Only [p] (w.alloc (.map #[] 0)) ((w.alloc (.map #[] 0)).setCell ⟨p, 1, none⟩ (.map (some w.heap.size))) := (Only.refl _ _).set (p := ⟨p, 1, none⟩) (Or.inl (by simp)) _
  have hn : cntR r = 0 := h.rows.map.1
  have hr0 : ∀ k, r k = none := fun k => by
    have this : (r k).map Prod.fst = none := h.rows.map.2 k
    cases hck : r k with
    | none => rfl
    | some q => rw [hck] at this; cases this
  have hm : MapO kI ((w.alloc (.map #[] 0)).setCell ⟨p, 1, none⟩ (.map (some w.heap.size))) (some w.heap.size) (cntR r) (fun k => (r k).map Prod.fst) := by
    rw [hn]
    exact (mapO_made.keep o3 (fun m hm => by cases hm; simp; omega)).ext (fun k => by rw [hr0]; rfl)
  have hCl := h.cards.lt
  have hRl := h.rows.lt
  refine h.headTo o2 (by rw [Joins.block_setCell hp1]; rfl) (h.cards.keep o2 (p_not h.pC)) ⟨hm, fun k b R' K hk => (by rw [hr0] at hk; cases hk), ⟨fun m hm => (by cases hm; simp), fun k b R' K hk => (by rw [hr0] at hk; cases hk)⟩, fun k k' b R' K b' R2 K' hk => (by rw [hr0] at hk; cases hk), fun m _ k b R' K hk => (by rw [hr0] at hk; cases hk), fun k hk => absurd (hr0 k) hk, fun b hb => ?_⟩ (fun b hb => Or.inl hb) (fun b hb => ?_) (fun b hb hm => ?_) h.rfew
  · rcases List.mem_cons.1 hb with rfl | hb
    · simp
    · have := hRl b hb
      have := o2.size
      omega
  · rcases List.mem_cons.1 hb with rfl | hb
    · exact Or.inr (Nat.le_refl _)
    · exact Or.inl hb
  · rcases List.mem_cons.1 hm with rfl | hm
    · have := hCl _ hb
      omega
    · exact h.cr b hb hm
def upC (c : Cd) (k : ByteArray) (v : Option (Nat × Int)) : Cd := fun y => if y = k then v else c y
theorem upC_at (c : Cd) (k : ByteArray) (v : Option (Nat × Int)) : upC c k v k = v := by unfold upC; rw [if_pos rfl]
theorem upC_other (c : Cd) {k y : ByteArray} (v : Option (Nat × Int)) (h : y ≠ k) : upC c k v y = c y := by unfold upC; rw [if_neg h]
theorem Cards.block_inj (h : Cards w cm n c OC) {k k' : ByteArray} {b : Nat} {x x' : Int} (h1 : c k = some (b, x)) (h2 : c k' = some (b, x')) : k = k' := by
  have e1 := h.card k b x h1
  rw [h.card k' b x' h2] at e1
  simp [cardO] at e1
  exact e1.1.symm
/-- Only cards, or new blocks, are written. -/
theorem Bok.cardsTo {n' : Nat} {c' : Cd} {O1 OC' : List Nat} (h : Bok q w p cm rm rv room n c r R T OC OR) (ho : Only O1 w w') (hO : ∀ b ∈ O1, b ∈ OC) (hc : Cards w' cm n' c' OC') (hC : ∀ b ∈ OC', b ∈ OC ∨ w.heap.size ≤ b) (hf : n' ≤ 1000000) :
    Bok q w' p cm rm rv room n' c' r R T OC' OR ∧ Move (ownB p OC OR R) w w' (ownB p OC' OR R) := by
  have hpl := some_lt h.ring.1
  refine ⟨⟨h.ring.keep ho (fun hm => h.pC (hO p hm)) (fun b hb hm => h.ct b (hO b hm) hb), hc, h.rows.keep ho (fun b hb hm => h.cr b (hO b hm) hb), fun hm => ?_, h.pR, fun b hb hm => ?_, fun b hb hm => ?_, h.rt, hf, h.rfew⟩, ho.mono (fun x hx => mem_ownB.2 (Or.inr (Or.inl (hO x hx)))), fun b hb => ?_⟩
  · rcases hC p hm with e | e
    · exact h.pC e
    · omega
  · rcases hC b hb with e | e
    · exact h.cr b e hm
    · have := h.rows.lt b hm
      omega
  · rcases hC b hb with e | e
    · exact h.ct b e hm
    · have := h.ring.lt hm
      omega
  · rcases mem_ownB.1 hb with rfl | hb | hb | hb
    · exact Or.inl (mem_ownB.2 (Or.inl rfl))
    · exact (hC b hb).imp (fun e => mem_ownB.2 (Or.inr (Or.inl e))) id
    · exact Or.inl (mem_ownB.2 (Or.inr (Or.inr (Or.inl hb))))
    · exact Or.inl (mem_ownB.2 (Or.inr (Or.inr (Or.inr hb))))
/-- A card is laid. -/
theorem Bok.layC {m : Nat} {key : ByteArray} (h : Bok q w p (some m) rm rv room n c r R T OC OR) (hn : n < 1000000) (hk : key.size ≤ maxLen) (hc : c key = none) :
    ∃ w2, (Instr.mapUpdate 49 (.map (some m)) (.string key) (ptr w.heap.size)).run Try.prog (w.alloc (cardO key 0)) = .ok () w2 ∧ Bok q w2 p (some m) rm rv room (n + 1) (upC c key (some (w.heap.size, 0))) r R T (w.heap.size :: OC) OR ∧ Move (ownB p OC OR R) w w2 (ownB p (w.heap.size :: OC) OR R) := by
  have o1 : Only [] w (w.alloc (cardO key 0)) := (Only.refl [] w).alloc _
  have hb1 : (w.alloc (cardO key 0)).heap[w.heap.size]? = some (cardO key 0) := heap_alloc_new w _
  have h1 := h.cards.keep o1 (by simp)
  have hmm := h.cards.mem.1 m rfl
  have hml := h.cards.lt m hmm
  obtain ⟨w2, hr, hm2, o2⟩ := h1.map.put tC key hk w.heap.size (by omega) (by rw [hc]; rfl)
  have o3 : Only [m] w w2 := (o1.mono (by simp)).trans o2 (fun x hx => Or.inl hx)
  have hs2 := o2.size
  rw [World.size_alloc] at hs2
  have hcard : ∀ k b x, upC c key (some (w.heap.size, 0)) k = some (b, x) → w2.heap[b]? = some (cardO k x) := fun k b x hk2 => by
    by_cases e : k = key
    · subst e
      rw [upC_at] at hk2
      cases hk2
      exact o2.keep hb1 (by simp; omega)
    · rw [upC_other _ _ e] at hk2
      have hb := h1.card k b x hk2
      refine o2.keep hb (fun hm => ?_)
      obtain ⟨es, cl, e1⟩ := h1.map.obj
      rw [← List.mem_singleton.1 hm, hb] at e1
      cases e1
  have := h.cardsTo (n' := n + 1) (c' := upC c key (some (w.heap.size, 0))) (OC' := w.heap.size :: OC) o3 (fun b hb => by rw [List.mem_singleton.1 hb]; exact hmm) ⟨hm2.ext (fun k => by
    unfold upG
    by_cases e : k = key
    · subst e; rw [upC_at, if_pos rfl]; rfl
    · rw [upC_other _ _ e, if_neg e]), hcard, ⟨fun m' hm' => List.mem_cons_of_mem _ (h.cards.mem.1 m' hm'), fun k b x hk2 => by
      by_cases e : k = key
      · subst e; rw [upC_at] at hk2; cases hk2; simp
      · rw [upC_other _ _ e] at hk2; exact List.mem_cons_of_mem _ (h.cards.mem.2 k b x hk2)⟩, fun b hb => by
      rcases List.mem_cons.1 hb with rfl | hb
      · omega
      · have := h.cards.lt b hb
        omega⟩ (fun b hb => by
      rcases List.mem_cons.1 hb with rfl | hb
      · exact Or.inr (Nat.le_refl _)
      · exact Or.inl hb) (by omega)
  exact ⟨w2, hr, this.1, this.2⟩
/-- The room is noted. -/
theorem Bok.setRoom (h : Bok q w p cm rm rv room n c r R T OC OR) {r2 : Nat} (hr : r2 ≤ 1000000) : Bok q (w.setCell ⟨p, 3, none⟩ (.int .i64 (r2 : Int))).drew p cm rm rv r2 n c r R T OC OR ∧ Move (ownB p OC OR R) w (w.setCell ⟨p, 3, none⟩ (.int .i64 (r2 : Int))).drew (ownB p OC OR R) := by
  have o2 : Only [p] w (w.setCell ⟨p, 3, none⟩ (.int .i64 (r2 : Int))).drew := ((Only.refl _ _).set (p := ⟨p, 3, none⟩) (Or.inl (by simp)) _).drew
  refine h.headTo o2 ?_ (h.cards.keep o2 (p_not h.pC)) (h.rows.keep o2 (p_not h.pR)) (fun b hb => Or.inl hb) (fun b hb => Or.inl hb) h.cr hr
  show (w.setCell ⟨p, 3, none⟩ (.int .i64 (r2 : Int))).heap[p]? = _
  rw [Joins.block_setCell h.ring.1]
  rfl
/-- A count is set. -/
theorem Bok.setC {k : ByteArray} {b : Nat} {x : Int} (h : Bok q w p cm rm rv room n c r R T OC OR) (hc : c k = some (b, x)) (y : Int) :
    Bok q (w.setCell ⟨b, 1, none⟩ (.int .i64 y)) p cm rm rv room n (upC c k (some (b, y))) r R T OC OR ∧ Move (ownB p OC OR R) w (w.setCell ⟨b, 1, none⟩ (.int .i64 y)) (ownB p OC OR R) := by
  have o2 : Only [b] w (w.setCell ⟨b, 1, none⟩ (.int .i64 y)) := (Only.refl _ _).set (p := ⟨b, 1, none⟩) (Or.inl (by simp)) _
  have hb := h.cards.card k b x hc
  have hbO := h.cards.mem.2 k b x hc
  refine h.cardsTo o2 (fun z hz => by rw [List.mem_singleton.1 hz]; exact hbO) ⟨(h.cards.map.keep o2 (fun m hm hz => ?_)).ext (fun z => ?_), fun k' b' x' hk' => ?_, ⟨h.cards.mem.1, fun k' b' x' hk' => ?_⟩, fun z hz => Nat.lt_of_lt_of_le (h.cards.lt z hz) o2.size⟩ (fun z hz => Or.inl hz) h.few
  · subst hm
    obtain ⟨es, cl, e1⟩ := h.cards.map.obj
    rw [List.mem_singleton.1 hz, hb] at e1
    cases e1
  · by_cases e : z = k
    · subst e
      rw [upC_at, hc]
      rfl
    · rw [upC_other _ _ e]
  · by_cases e : k' = k
    · subst e
      rw [upC_at] at hk'
      cases hk'
      rw [Joins.block_setCell hb]
      rfl
    · rw [upC_other _ _ e] at hk'
      refine o2.keep (h.cards.card k' b' x' hk') (fun hz => e ?_)
      rw [List.mem_singleton.1 hz] at hk'
      exact h.cards.block_inj hk' hc
  · by_cases e : k' = k
    · subst e
      rw [upC_at] at hk'
      cases hk'
      exact hbO
    · rw [upC_other _ _ e] at hk'
      exact h.cards.mem.2 k' b' x' hk'
/-- Only rows, or new blocks, are written. -/
theorem Bok.rowsTo {r' : Rw} {O1 OR' : List Nat} (h : Bok q w p cm rm rv room n c r R T OC OR) (ho : Only O1 w w') (hO : ∀ b ∈ O1, b ∈ OR) (hr : Rows' w' rm r' OR') (hR : ∀ b ∈ OR', b ∈ OR ∨ w.heap.size ≤ b) :
    Bok q w' p cm rm rv room n c r' R T OC OR' ∧ Move (ownB p OC OR R) w w' (ownB p OC OR' R) := by
  have hpl := some_lt h.ring.1
  refine ⟨⟨h.ring.keep ho (fun hm => h.pR (hO p hm)) (fun b hb hm => h.rt b (hO b hm) hb), h.cards.keep ho (fun b hb hm => h.cr b hb (hO b hm)), hr, h.pC, fun hm => ?_, fun b hb hm => ?_, h.ct, fun b hb hm => ?_, h.few, h.rfew⟩, ho.mono (fun x hx => mem_ownB.2 (Or.inr (Or.inr (Or.inl (hO x hx))))), fun b hb => ?_⟩
  · rcases hR p hm with e | e
    · exact h.pR e
    · omega
  · rcases hR b hm with e | e
    · exact h.cr b hb e
    · have := h.cards.lt b hb
      omega
  · rcases hR b hb with e | e
    · exact h.rt b e hm
    · have := h.ring.lt hm
      omega
  · rcases mem_ownB.1 hb with rfl | hb | hb | hb
    · exact Or.inl (mem_ownB.2 (Or.inl rfl))
    · exact Or.inl (mem_ownB.2 (Or.inr (Or.inl hb)))
    · exact (hR b hb).imp (fun e => mem_ownB.2 (Or.inr (Or.inr (Or.inl e)))) id
    · exact Or.inl (mem_ownB.2 (Or.inr (Or.inr (Or.inr hb))))
theorem set1 (C : Array Value) (u v : Value) (h : C = #[u]) : C.setIfInBounds 0 v = #[v] := by subst h; rfl
/-- A row's order is turned. -/
theorem Bok.rowTo {m : Int} {b : Nat} {R1 : List Nat} {K K' : List ByteArray} {u : Value} (h : Bok q w p cm rm rv room n c r R T OC OR) (hr : r m = some (b, R1, K)) (ht : OrdTo w w' b 0 #[u] 53 R1 K') :
    ∃ R2, Bok q w' p cm rm rv room n c (upR r m (some (b, R2, K'))) R T OC (OR ++ R2) ∧ Move (ownB p OC OR R) w w' (ownB p OC (OR ++ R2) R) := by
  obtain ⟨v, R2, k1, k2, k3⟩ := ht
  have hown := h.rows.mem.2 m b R1 K hr
  have hin : ∀ x ∈ b :: R2, x ∈ b :: R1 ∨ w.heap.size ≤ x := fun x hx => by
    rcases List.mem_cons.1 hx with rfl | hx
    · exact Or.inl (by simp)
    · exact (k3 x hx).imp (List.mem_cons_of_mem _) id
  have hlt : ∀ x ∈ OR, x < w.heap.size := h.rows.lt
  refine ⟨R2, h.rowsTo k2 hown ⟨?_, fun m' b' R' K2 hm' => ?_, ⟨fun x hx => List.mem_append_left _ (h.rows.mem.1 x hx), fun m' b' R' K2 hm' x hx => ?_⟩, fun m1 m2 b1 R1' K1 b2 R2' K2 h1 h2 hne x hx hx2 => ?_, fun x hx m' b' R' K2 hm' hxm => ?_, fun m' hm' => ?_, fun x hx => ?_⟩ (fun x hx => ?_)⟩
  · rw [cntR_same (by rw [hr]; simp)]
    refine (h.rows.map.keep k2 (fun x hx hxm => h.rows.fence x hx m b R1 K hr hxm)).ext (fun y => ?_)
    by_cases e : y = m
    · subst e
      rw [upR_at, hr]
      rfl
    · rw [upR_other _ _ e]
  · by_cases e : m' = m
    · subst e
      rw [upR_at] at hm'
      cases hm'
      exact ⟨v, by rw [show (#[u] : Array Value).setIfInBounds 0 v = #[v] from rfl] at k1; exact k1⟩
    · rw [upR_other _ _ e] at hm'
      obtain ⟨u', hu'⟩ := h.rows.row m' b' R' K2 hm'
      exact ⟨u', hu'.keep k2 (h.rows.apart m' m b' R' K2 b R1 K hm' hr e b' (by simp)) (fun x hx => h.rows.apart m' m b' R' K2 b R1 K hm' hr e x (List.mem_cons_of_mem _ hx))⟩
  · by_cases e : m' = m
    · subst e
      rw [upR_at] at hm'
      cases hm'
      rcases List.mem_cons.1 hx with rfl | hx
      · exact List.mem_append_left _ (hown x (by simp))
      · exact List.mem_append_right _ hx
    · rw [upR_other _ _ e] at hm'
      exact List.mem_append_left _ (h.rows.mem.2 m' b' R' K2 hm' x hx)
  · by_cases e1 : m1 = m
    · subst e1
      rw [upR_at] at h1
      cases h1
      rw [upR_other _ _ (fun e => hne e.symm)] at h2
      rcases hin x hx with e | e
      · exact h.rows.apart m1 m2 b R1 K b2 R2' K2 hr h2 hne x e hx2
      · have := hlt x (h.rows.mem.2 m2 b2 R2' K2 h2 x hx2)
        omega
    · rw [upR_other _ _ e1] at h1
      by_cases e2 : m2 = m
      · subst e2
        rw [upR_at] at h2
        cases h2
        rcases hin x hx2 with e | e
        · exact h.rows.apart m1 m2 b1 R1' K1 b R1 K h1 hr hne x hx e
        · have := hlt x (h.rows.mem.2 m1 b1 R1' K1 h1 x hx)
          omega
      · rw [upR_other _ _ e2] at h2
        exact h.rows.apart m1 m2 b1 R1' K1 b2 R2' K2 h1 h2 hne x hx hx2
  · by_cases e : m' = m
    · subst e
      rw [upR_at] at hm'
      cases hm'
      rcases hin x hxm with e | e
      · exact h.rows.fence x hx m' b R1 K hr e
      · have := hlt x (h.rows.mem.1 x hx)
        omega
    · rw [upR_other _ _ e] at hm'
      exact h.rows.fence x hx m' b' R' K2 hm' hxm
  · by_cases e : m' = m
    · subst e
      exact h.rows.supp m' (by rw [hr]; simp)
    · rw [upR_other _ _ e] at hm'
      exact h.rows.supp m' hm'
  · rcases List.mem_append.1 hx with hx | hx
    · exact Nat.lt_of_lt_of_le (hlt x hx) k2.size
    · exact k1.lt hx
  · rcases List.mem_append.1 hx with hx | hx
    · exact Or.inl hx
    · rcases k3 x hx with e | e
      · exact Or.inl (hown x (List.mem_cons_of_mem _ e))
      · exact Or.inr e
/-- A row goes. -/
theorem Bok.goneR {m : Int} (h : Bok q w p cm rm rv room n c r R T OC OR) (hm : 0 ≤ m ∧ m ≤ 255) (ty : TypeId) :
    ∃ w2, (Builtin.delete_ #[50, 3] ty #[.map rm, .int .i64 m]).run Try.prog w = .ok (.tuple #[]) w2 ∧ Bok q w2 p cm rm rv room n c (upR r m none) R T OC OR ∧ Move (ownB p OC OR R) w w2 (ownB p OC OR R) := by
  obtain ⟨w2, hr, hm2, o2⟩ := h.rows.map.del tR m (kI_ok ⟨hm.1, by omega⟩) ty
  have hO : ∀ b ∈ rm.toList, b ∈ OR := fun b hb => h.rows.mem.1 b (by simpa using hb)
  have := h.rowsTo (r' := upR r m none) (OR' := OR) o2 hO ⟨?_, fun m' b' R' K2 hm' => ?_, ⟨h.rows.mem.1, fun m' b' R' K2 hm' x hx => ?_⟩, fun m1 m2 b1 R1' K1 b2 R2' K2 h1 h2 hne x hx hx2 => ?_, fun x hx m' b' R' K2 hm' hxm => ?_, fun m' hm' => ?_, fun x hx => Nat.lt_of_lt_of_le (h.rows.lt x hx) o2.size⟩ (fun b hb => Or.inl hb)
  · exact ⟨w2, hr, this.1, this.2⟩
  · have e1 : (if ((r m).map Prod.fst).isSome then cntR r - 1 else cntR r) = cntR (upR r m none) := by
      cases hr : r m with
      | none =>
        have : upR r m none = r := by
          funext y
          unfold upR
          split
          · next e => rw [e, hr]
          · rfl
        rw [this]
        rfl
      | some q =>
        rw [cntR_gone hm (by rw [hr]; simp)]
        rfl
    rw [e1] at hm2
    refine hm2.ext (fun y => ?_)
    unfold upG upR
    by_cases e : y = m
    · rw [if_pos e, if_pos e]; rfl
    · rw [if_neg e, if_neg e]
  · by_cases e : m' = m
    · subst e; rw [upR_at] at hm'; cases hm'
    · rw [upR_other _ _ e] at hm'
      obtain ⟨u', hu'⟩ := h.rows.row m' b' R' K2 hm'
      exact ⟨u', hu'.keep o2 (fun hb => h.rows.fence b' (by simpa using hb) m' b' R' K2 hm' (by simp)) (fun x hx hb => h.rows.fence x (by simpa using hb) m' b' R' K2 hm' (List.mem_cons_of_mem _ hx))⟩
  · by_cases e : m' = m
    · subst e; rw [upR_at] at hm'; cases hm'
    · rw [upR_other _ _ e] at hm'
      exact h.rows.mem.2 m' b' R' K2 hm' x hx
  · by_cases e1 : m1 = m
    · subst e1; rw [upR_at] at h1; cases h1
    · rw [upR_other _ _ e1] at h1
      by_cases e2 : m2 = m
      · subst e2; rw [upR_at] at h2; cases h2
      · rw [upR_other _ _ e2] at h2
        exact h.rows.apart m1 m2 b1 R1' K1 b2 R2' K2 h1 h2 hne x hx hx2
  · by_cases e : m' = m
    · subst e; rw [upR_at] at hm'; cases hm'
    · rw [upR_other _ _ e] at hm'
      exact h.rows.fence x hx m' b' R' K2 hm' hxm
  · by_cases e : m' = m
    · subst e; rw [upR_at] at hm'; exact absurd rfl hm'
    · rw [upR_other _ _ e] at hm'
      exact h.rows.supp m' hm'
/-- All rows go. -/
theorem Bok.clearR (h : Bok q w p cm rm rv room n c r R T OC OR) (ty : TypeId) :
    ∃ w2, (Builtin.clear_ #[50] ty #[.map rm]).run Try.prog w = .ok (.tuple #[]) w2 ∧ Bok q w2 p cm rm rv room n c (fun _ => none) R T OC OR ∧ Move (ownB p OC OR R) w w2 (ownB p OC OR R) := by
  obtain ⟨w2, hr, hm2, o2⟩ := h.rows.map.clear tR ty
  have hO : ∀ b ∈ rm.toList, b ∈ OR := fun b hb => h.rows.mem.1 b (by simpa using hb)
  have := h.rowsTo (r' := fun _ => none) (OR' := OR) o2 hO ⟨?_, fun m' b' R' K2 hm' => (by cases hm'), ⟨h.rows.mem.1, fun m' b' R' K2 hm' => (by cases hm')⟩, fun m1 m2 b1 R1' K1 b2 R2' K2 h1 => (by cases h1), fun x hx m' b' R' K2 hm' => (by cases hm'), fun m' hm' => absurd rfl hm', fun x hx => Nat.lt_of_lt_of_le (h.rows.lt x hx) o2.size⟩ (fun b hb => Or.inl hb)
  · exact ⟨w2, hr, this.1, this.2⟩
  · have e0 : cntR (fun _ => none) = 0 := by decide
    rw [e0]
    exact hm2.ext (fun _ => rfl)
/-- A new order is laid as a row. -/
theorem Bok.layR {m : Int} {mb : Nat} (h : Bok q w p cm (some mb) rv room n c r R T OC OR) (hm : 0 ≤ m ∧ m ≤ 255) (hr : r m = none) :
    ∃ w2, (Instr.mapUpdate 50 (.map (some mb)) (.int .i64 m) (ptr w.heap.size)).run Try.prog (w.alloc (.cells #[.pointer none] 53 (0, 0))) = .ok () w2 ∧ Bok q w2 p cm (some mb) rv room n c (upR r m (some (w.heap.size, [], []))) R T OC (w.heap.size :: OR) ∧ Move (ownB p OC OR R) w w2 (ownB p OC (w.heap.size :: OR) R) := by
  have o1 : Only [] w (w.alloc (.cells #[.pointer none] 53 (0, 0))) := (Only.refl [] w).alloc _
  have h1 := h.rows.keep o1 (by simp)
  have hmm := h.rows.mem.1 mb rfl
  have hml := h.rows.lt mb hmm
  have hc := cntB_le (fun i => (r (i : Int)).isSome) 256
  obtain ⟨w2, hrun, hm2, o2⟩ := h1.map.put tR m (kI_ok ⟨hm.1, by omega⟩) w.heap.size (Nat.le_trans hc (by omega)) (by rw [hr]; rfl)
  have o3 : Only [mb] w w2 := (o1.mono (by simp)).trans o2 (fun x hx => Or.inl hx)
  have hs2 := o2.size
  rw [World.size_alloc] at hs2
  have hlt : ∀ x ∈ OR, x < w.heap.size := h.rows.lt
  have := h.rowsTo (r' := upR r m (some (w.heap.size, [], []))) (OR' := w.heap.size :: OR) o3 (fun b hb => by rw [List.mem_singleton.1 hb]; exact hmm) ⟨?_, fun m' b' R' K2 hm' => ?_, ⟨fun x hx => List.mem_cons_of_mem _ (h.rows.mem.1 x hx), fun m' b' R' K2 hm' x hx => ?_⟩, fun m1 m2 b1 R1' K1 b2 R2' K2 h1 h2 hne x hx hx2 => ?_, fun x hx m' b' R' K2 hm' hxm => ?_, fun m' hm' => ?_, fun x hx => ?_⟩ (fun x hx => ?_)
  · exact ⟨w2, hrun, this.1, this.2⟩
  · rw [cntR_new hm hr]
    refine hm2.ext (fun y => ?_)
    unfold upG upR
    by_cases e : y = m
    · rw [if_pos e, if_pos e]; rfl
    · rw [if_neg e, if_neg e]
  · by_cases e : m' = m
    · subst e
      rw [upR_at] at hm'
      cases hm'
      exact ⟨_, (ord_made w).keep o2 (by simp; omega) (by simp)⟩
    · rw [upR_other _ _ e] at hm'
      obtain ⟨u', hu'⟩ := h1.row m' b' R' K2 hm'
      exact ⟨u', hu'.keep o2 (fun hb => h.rows.fence mb rfl m' b' R' K2 hm' (by rw [← List.mem_singleton.1 hb]; simp)) (fun x hx hb => h.rows.fence mb rfl m' b' R' K2 hm' (by rw [← List.mem_singleton.1 hb]; exact List.mem_cons_of_mem _ hx))⟩
  · by_cases e : m' = m
    · subst e
      rw [upR_at] at hm'
      cases hm'
      rw [List.mem_singleton.1 hx]
      simp
    · rw [upR_other _ _ e] at hm'
      exact List.mem_cons_of_mem _ (h.rows.mem.2 m' b' R' K2 hm' x hx)
  · by_cases e1 : m1 = m
    · subst e1
      rw [upR_at] at h1
      cases h1
      rw [upR_other _ _ (fun e => hne e.symm)] at h2
      have := hlt x (h.rows.mem.2 m2 b2 R2' K2 h2 x hx2)
      rw [List.mem_singleton.1 hx] at this
      omega
    · rw [upR_other _ _ e1] at h1
      by_cases e2 : m2 = m
      · subst e2
        rw [upR_at] at h2
        cases h2
        have := hlt x (h.rows.mem.2 m1 b1 R1' K1 h1 x hx)
        rw [List.mem_singleton.1 hx2] at this
        omega
      · rw [upR_other _ _ e2] at h2
        exact h.rows.apart m1 m2 b1 R1' K1 b2 R2' K2 h1 h2 hne x hx hx2
  · by_cases e : m' = m
    · subst e
      rw [upR_at] at hm'
      cases hm'
      have := hlt x (h.rows.mem.1 x hx)
      rw [List.mem_singleton.1 hxm] at this
      omega
    · rw [upR_other _ _ e] at hm'
      exact h.rows.fence x hx m' b' R' K2 hm' hxm
  · by_cases e : m' = m
    · subst e
      exact hm
    · rw [upR_other _ _ e] at hm'
      exact h.rows.supp m' hm'
  · rcases List.mem_cons.1 hx with rfl | hx
    · omega
    · have := hlt x hx
      omega
  · rcases List.mem_cons.1 hx with rfl | hx
    · exact Or.inr (Nat.le_refl _)
    · exact Or.inl hx
/-- The touches' order is turned. -/
theorem Bok.ringTo {T' : List ByteArray} (h : Bok none w p cm rm rv room n c r R T OC OR) (ht : OrdTo w w' p 2 (headA cm rm rv room) 55 R T') :
    ∃ u R', Bok none w' p cm rm u room n c r R' T' OC OR ∧ Move (ownB p OC OR R) w w' (ownB p OC OR R') := by
  obtain ⟨u, R', k1, k2, k3⟩ := ht
  refine ⟨u, R', ⟨k1.x, h.cards.keep k2 (fun b hb hm => ?_), h.rows.keep k2 (fun b hb hm => ?_), h.pC, h.pR, h.cr, fun b hb hm => ?_, fun b hb hm => ?_, h.few, h.rfew⟩, k2.mono (fun x hx => ?_), fun b hb => ?_⟩
  · rcases List.mem_cons.1 hm with rfl | hm
    · exact h.pC hb
    · exact h.ct b hb hm
  · rcases List.mem_cons.1 hm with rfl | hm
    · exact h.pR hb
    · exact h.rt b hb hm
  · rcases k3 b hm with e | e
    · exact h.ct b hb e
    · have := h.cards.lt b hb
      omega
  · rcases k3 b hm with e | e
    · exact h.rt b hb e
    · have := h.rows.lt b hb
      omega
  · rcases List.mem_cons.1 hx with rfl | hx
    · exact mem_ownB.2 (Or.inl rfl)
    · exact mem_ownB.2 (Or.inr (Or.inr (Or.inr hx)))
  · rcases mem_ownB.1 hb with rfl | hb | hb | hb
    · exact Or.inl (mem_ownB.2 (Or.inl rfl))
    · exact Or.inl (mem_ownB.2 (Or.inr (Or.inl hb)))
    · exact Or.inl (mem_ownB.2 (Or.inr (Or.inr (Or.inl hb))))
    · exact (k3 b hb).imp (fun e => mem_ownB.2 (Or.inr (Or.inr (Or.inr e)))) id
/-- A card goes. -/
theorem Bok.goneC {key : ByteArray} (h : Bok q w p cm rm rv room n c r R T OC OR) (hk : key.size ≤ maxLen) (hc : c key ≠ none) (ty : TypeId) :
    ∃ w2, (Builtin.delete_ #[49, 9] ty #[.map cm, .string key]).run Try.prog w = .ok (.tuple #[]) w2 ∧ Bok q w2 p cm rm rv room (n - 1) (upC c key none) r R T OC OR ∧ Move (ownB p OC OR R) w w2 (ownB p OC OR R) := by
  obtain ⟨w2, hr, hm2, o2⟩ := h.cards.map.del tC key hk ty
  have hO : ∀ b ∈ cm.toList, b ∈ OC := fun b hb => h.cards.mem.1 b (by simpa using hb)
  have e1 : ((c key).map Prod.fst).isSome = true := by
    cases hck : c key with
    | none => exact absurd hck hc
    | some q => rfl
  rw [if_pos e1] at hm2
  have := h.cardsTo (n' := n - 1) (c' := upC c key none) (OC' := OC) o2 hO ⟨hm2.ext (fun y => by
    unfold upG upC
    by_cases e : y = key
    · rw [if_pos e, if_pos e]; rfl
    · rw [if_neg e, if_neg e]), fun k b x hk2 => ?_, ⟨h.cards.mem.1, fun k b x hk2 => ?_⟩, fun x hx => Nat.lt_of_lt_of_le (h.cards.lt x hx) o2.size⟩ (fun b hb => Or.inl hb) (by have := h.few; omega)
  · exact ⟨w2, hr, this.1, this.2⟩
  · by_cases e : k = key
    · subst e; rw [upC_at] at hk2; cases hk2
    · rw [upC_other _ _ e] at hk2
      have hb := h.cards.card k b x hk2
      refine o2.keep hb (fun hm => ?_)
      have hcm : cm = some b := by simpa using hm
      subst hcm
      obtain ⟨es, cl, e1⟩ := h.cards.map.obj
      rw [hb] at e1
      cases e1
  · by_cases e : k = key
    · subst e; rw [upC_at] at hk2; cases hk2
    · rw [upC_other _ _ e] at hk2
      exact h.cards.mem.2 k b x hk2
end Go.Proofs.Ytpbmgaipeofpaaa
