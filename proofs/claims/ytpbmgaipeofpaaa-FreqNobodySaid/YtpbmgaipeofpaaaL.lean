/-
  An order in memory, whose head lies at a place of a block: New, Len, Has, Oldest, All, own, Touch, Drop. Premises: an order as it lies, of at most a million keys.
-/
import Derived.Test.YtpbmgaipeofpaaaK
namespace Go.Proofs.Ytpbmgaipeofpaaa
open Go.RowKit
variable {w w' : World} {p j g : Nat} {C : Array Value} {T : TypeId} {O R : List Nat} {L : List ByteArray}

/-- An order: its head, at the place j of the block p, holds no ring, or one of the keys L whose blocks are R. -/
def Ord (w : World) (p j : Nat) (C : Array Value) (T : TypeId) (R : List Nat) (L : List ByteArray) : Prop :=
  w.heap[p]? = some (.cells C T (0, 0)) ∧ p ∉ R ∧ ((C[j]? = some (.pointer none) ∧ L = [] ∧ R = []) ∨ ∃ g, C[j]? = some (ptr g) ∧ Ring w g R L)
theorem Ord.lt (h : Ord w p j C T R L) {b : Nat} (hb : b ∈ R) : b < w.heap.size := by
  obtain ⟨h0, _, ⟨_, _, rfl⟩ | ⟨g, _, h2⟩⟩ := h
  · simp at hb
  · exact h2.lt hb
theorem Ord.keep {O' : List Nat} (h : Ord w p j C T R L) (ho : Only O' w w') (hp : p ∉ O') (hd : ∀ b ∈ R, b ∉ O') : Ord w' p j C T R L := by
  obtain ⟨h0, h1, h⟩ := h
  refine ⟨ho.keep h0 hp, h1, ?_⟩
  rcases h with h | ⟨g, h2, h3⟩
  · exact Or.inl h
  · exact Or.inr ⟨g, h2, h3.keep ho hd⟩
/-- The head's block has other things written beside it. -/
theorem Ord.keepAt {O' : List Nat} {C' : Array Value} {T' : TypeId} (h : Ord w p j C T R L) (ho : Only O' w w') (h' : w'.heap[p]? = some (.cells C' T' (0, 0))) (hC : C'[j]? = C[j]?) (hd : ∀ b ∈ R, b ∉ O') : Ord w' p j C' T' R L := by
  obtain ⟨h0, h1, h⟩ := h
  refine ⟨h', h1, ?_⟩
  rw [hC]
  rcases h with h | ⟨g, h2, h3⟩
  · exact Or.inl h
  · exact Or.inr ⟨g, h2, h3.keep ho hd⟩
theorem Ord.same (h : Ord w p j C T R L) (ho : Only [] w w') : Ord w' p j C T R L := h.keep ho (by simp) (by simp)
theorem Ord.nodup (h : Ord w p j C T R L) : L.Nodup := by
  obtain ⟨h0, _, ⟨_, rfl, _⟩ | ⟨g, _, h2⟩⟩ := h
  · simp
  · exact h2.nodup
theorem Ord.few (h : Ord w p j C T R L) : L.length ≤ 1000000 := by
  obtain ⟨h0, _, ⟨_, rfl, _⟩ | ⟨g, _, h2⟩⟩ := h
  · simp
  · exact h2.few
theorem Ord.sizes (h : Ord w p j C T R L) : ∀ k ∈ L, k.size ≤ maxLen := by
  obtain ⟨h0, _, ⟨_, rfl, _⟩ | ⟨g, _, ⟨m, room, bs, nx, pv, f, h2, rfl, _⟩⟩⟩ := h
  · simp
  · intro k hk
    obtain ⟨q, hq, rfl⟩ := List.mem_map.1 hk
    exact h2.sizes q hq
theorem new_any (w : World) : Calls Try.prog 34 #[] w fun e w' => e = .returned (ptr w.heap.size) ∧ w' = w.alloc (.cells #[.pointer none] 53 (0, 0)) := by
  go_enter Try.func34, Try.ntmps34
  go_wp2
  go_ret
  exact ⟨rfl, rfl⟩
theorem ord_made (w : World) : Ord (w.alloc (.cells #[.pointer none] 53 (0, 0))) w.heap.size 0 #[.pointer none] 53 [] [] :=
  ⟨heap_alloc_new _ _, by simp, Or.inl ⟨rfl, rfl, rfl⟩⟩
theorem ord_len (h : Ord w p j C T R L) : Calls Try.prog 33 #[hdp p j] w fun e w' => e = .returned (.int .i64 (L.length : Int)) ∧ w = w' := by
  obtain ⟨h0, _, ⟨h1, rfl, _⟩ | ⟨g, h1, ⟨m, room, bs, nx, pv, f, h2, rfl, _⟩⟩⟩ := h
  · exact len_zero ((Lib.cell_of_heap h0 j).trans h1)
  · rw [List.length_map]
    exact len_run ((Lib.cell_of_heap h0 j).trans h1) (Lib.cell_of_heap h2.raw.head 3) (fun ty => h2.map.len ty)
theorem ord_has (h : Ord w p j C T R L) (key : ByteArray) (hk : key.size ≤ maxLen) : Calls Try.prog 37 #[hdp p j, .string key] w fun e w' => e = .returned (.bool (hasK L key)) ∧ w = w' := by
  have hl := ord_len h
  obtain ⟨h0, _, ⟨h1, rfl, _⟩ | ⟨g, h1, ⟨m, room, bs, nx, pv, f, h2, rfl, _⟩⟩⟩ := h
  · exact has_empty key hl
  · by_cases hb : bs = []
    · subst hb
      exact has_empty key hl
    · obtain ⟨v, hv, _⟩ := h2.map.look key hk
      have e : (f key).isSome = hasK (keysN bs) key := by
        by_cases hm : key ∈ keysN bs
        · obtain ⟨b, xs, ys, _, hf⟩ := h2.find hm
          rw [hf, hasK_iff.2 hm]
          rfl
        · rw [h2.none hm, hasK_no.2 hm]
          rfl
      rw [e] at hv
      exact has_run (n := (keysN bs).length) (by rw [List.length_map]; exact List.length_pos_iff.2 hb) hl ((Lib.cell_of_heap h0 j).trans h1) (Lib.cell_of_heap h2.raw.head 3) hv
theorem ord_oldest (h : Ord w p j C T R L) : Calls Try.prog 31 #[hdp p j] w fun e w' => e = .returned (.tuple #[.string (L.headD ⟨#[]⟩), .bool (decide (0 < L.length))]) ∧ w = w' := by
  have hl := ord_len h
  obtain ⟨h0, _, ⟨h1, rfl, _⟩ | ⟨g, h1, ⟨m, room, bs, nx, pv, f, h2, rfl, _⟩⟩⟩ := h
  · exact oldest_empty hl
  · cases bs with
    | nil => exact oldest_empty hl
    | cons q bs =>
      have e : nx g = q.1 := by
        have := h2.lk.head
        simpa using this.symm
      have c2 : w.cell? ⟨g, 2, none⟩ = some (ptr q.1) := by rw [← e]; exact Lib.cell_of_heap h2.raw.head 2
      have hd : decide (0 < (keysN (q :: bs)).length) = true := decide_eq_true (by simp)
      rw [hd]
      exact oldest_run (n := (keysN (q :: bs)).length) (by simp) hl ((Lib.cell_of_heap h0 j).trans h1) c2 (Lib.cell_of_heap (h2.raw.node q (by simp)) 0)
theorem ord_iter (h : Ord w p j C T R L) {S : Nat → Prop} (hS : ∀ k, S k → k < w.heap.size) (hR : ∀ b ∈ R, S b) : Iter S w (hdp p j) L := by
  have hl : ∀ W, Only [] w W → Calls Try.prog 33 #[hdp p j] W fun e w' => e = .returned (.int .i64 (L.length : Int)) ∧ W = w' := fun W hW => ord_len (h.same hW)
  obtain ⟨h0, _, ⟨h1, rfl, _⟩ | ⟨g, h1, ⟨m, room, bs, nx, pv, f, h2, rfl, rfl⟩⟩⟩ := h
  · exact iter_empty hl
  · cases bs with
    | nil => exact iter_empty hl
    | cons q bs => exact iter_ring h2 ((Lib.cell_of_heap h0 j).trans h1) (by simp) (fun W hW => by have := hl W hW; rwa [List.length_map] at this) hS (fun b hb => hR b (mem_own.2 (Or.inr hb)))
theorem ord_all (h : Ord w p j C T R L) : Calls Try.prog 32 #[hdp p j] w fun e w' => ∃ v', e = .returned v' ∧ RowT w' w.heap.size v' L ∧ Only [] w w' :=
  all_iter (ord_iter h (fun _ hk => hk) (fun _ hb => h.lt hb)) h.few (ord_len h)
theorem all_nil (w : World) : Calls Try.prog 32 #[.pointer none] w fun e w' => ∃ v', e = .returned v' ∧ RowT w' w.heap.size v' [] ∧ Only [] w w' :=
  all_iter (iter_empty (fun W _ => len_nil W)) (by simp) (len_nil w)
theorem set_self {C : Array Value} {j : Nat} {v : Value} (h : C[j]? = some v) : C.setIfInBounds j v = C := by
  apply Array.ext_getElem?
  intro i
  rw [Array.getElem?_setIfInBounds]
  obtain ⟨h1, h2⟩ := Array.getElem?_eq_some_iff.1 h
  by_cases e : j = i
  · subst e
    rw [if_pos rfl, if_pos h1, h]
  · rw [if_neg e]
/-- A ring of one's own, behind own. -/
def Owned (w w' : World) (p j g : Nat) (C : Array Value) (T : TypeId) (R : List Nat) (L : List ByteArray) : Prop :=
  ∃ R', w'.heap[p]? = some (.cells (C.setIfInBounds j (ptr g)) T (0, 0)) ∧ Ring w' g R' L ∧ p ∉ R' ∧ Only (p :: R) w w' ∧ ∀ b ∈ R', b ∈ R ∨ w.heap.size ≤ b
theorem owned_new {w1 w2 : World} {R' : List Nat} (hp : w.heap[p]? = some (.cells C T (0, 0))) (ho1 : Only [] w w1) (ho2 : Only [] w1 w2) (hr2 : Ring w2 g R' L) (hb2 : ∀ b ∈ R', w1.heap.size ≤ b) : Owned w (w2.setCell ⟨p, j, none⟩ (ptr g)) p j g C T R L := by
  have h1 := ho1.size
  have hpl := some_lt hp
  have ho := ho1.trans ho2 (by simp)
  have hpR : p ∉ R' := fun hm => by have := hb2 p hm; omega
  refine ⟨R', Joins.block_setCell (ho.keep hp (by simp)) _, ?_, hpR, (ho.mono (by simp)).set (p := ⟨p, j, none⟩) (Or.inl (by simp)) _, fun b hb => Or.inr (by have := hb2 b hb; omega)⟩
  exact hr2.keep ((Only.refl [p] w2).set (p := ⟨p, j, none⟩) (Or.inl (by simp)) _) (fun b hb hm => hpR (by rw [← List.mem_singleton.1 hm]; exact hb))
set_option maxHeartbeats 4000000 in
theorem own_zero (h : Ord w p j C T R L) (hj : C[j]? = some (.pointer none)) (hL : L = []) : Calls Try.prog 35 #[hdp p j] w fun e w' => ∃ g, e = .returned (ptr g) ∧ Owned w w' p j g C T R [] := by
  subst hL
  have hp := h.1
  have hAll := Lib.hid (ord_all h)
  have c0 : w.cell? ⟨p, j, none⟩ = some (.pointer none) := (Lib.cell_of_heap hp j).trans hj
  have hpH := Lib.hid hp
  have hjH := Lib.hid hj
  clear hp h hj
  go_enter Try.func35, Try.ntmps35
  go_wp2_with (first
    | (go_at_call 32; (with_reducible refine (hAll.out).mono ?_); rintro e w1 ⟨v1, rfl, hr1, ho1⟩; have hN := Lib.hid (newring_any hr1 (by simp) (by simp) (by simp)); have ho1H := Lib.hid ho1; clear hr1 ho1)
    | (go_at_call 41; (with_reducible refine (hN.out).mono ?_); rintro e w2 ⟨g, R2, rfl, hr2, hb2, ho2⟩; have hp2 := (ho1H.out.trans ho2 (by simp)).keep hpH.out (by simp); have d2 : w2.cell? ⟨p, j, none⟩ = some (.pointer none) := (Lib.cell_of_heap hp2 j).trans hjH.out; have z2 := block_frozen (i := j) hp2; have hr2H := Lib.hid hr2; have hb2H := Lib.hid hb2; have ho2H := Lib.hid ho2; clear hp2 hr2 hb2 ho2))
  go_ret
  exact ⟨g, rfl, owned_new hpH.out ho1H.out ho2H.out hr2H.out hb2H.out⟩
set_option maxHeartbeats 4000000 in
theorem own_ring (h : Ord w p j C T R L) (hj : C[j]? = some (ptr g)) (hr : Ring w g R L) : Calls Try.prog 35 #[hdp p j] w fun e w' => ∃ g', e = .returned (ptr g') ∧ Owned w w' p j g' C T R L := by
  have hp := h.1
  have hpR := h.2.1
  have hAll := Lib.hid (fun k => ord_all (h.same ((Only.refl [] w).drewN k)))
  have hOH := Lib.hid h
  have hpH := Lib.hid hp
  have hrH := Lib.hid hr
  obtain ⟨m, room, bs, nx, pv, f, h2, hk2, hR2⟩ := hr
  have c0 : w.cell? ⟨p, j, none⟩ = some (ptr g) := (Lib.cell_of_heap hp j).trans hj
  have c5 : w.cell? ⟨g, 5, none⟩ = some (.int .i64 0) := Lib.cell_of_heap h2.raw.head 5
  have hsp := Lib.hid (sparse_run (n := bs.length) (by have := h2.few; omega) (Lib.cell_of_heap h2.raw.head 3) (Lib.cell_of_heap h2.raw.head 4) (fun ty k => (h2.map.keep ((Only.refl [] w).drewN k) (by simp)).len ty))
  generalize (decide ((8 : Int) < (room : Int)) && decide (4 * (bs.length : Int) < (room : Int))) = b at hsp
  have hpRH := Lib.hid hpR
  have hjH := Lib.hid hj
  clear hp h h2 hk2 hR2 hpR hj
  cases b with
  | true =>
    go_enter Try.func35, Try.ntmps35
    go_wp2_with (first
      | (go_at_call 40; (with_reducible refine (hsp.out).mono ?_); rintro e w0 ⟨rfl, k, rfl⟩)
      | (go_at_call 32; (with_reducible refine (hAll.out k).mono ?_); rintro e w1 ⟨v1, rfl, hr1, ho1⟩; have hN := Lib.hid (newring_any hr1 hOH.out.nodup hOH.out.few hOH.out.sizes); have ho1H := Lib.hid (((Only.refl [] w).drewN k).trans ho1 (by simp)); clear hr1 ho1)
      | (go_at_call 41; (with_reducible refine (hN.out).mono ?_); rintro e w2 ⟨g2, R2, rfl, hr2, hb2, ho2⟩; have hp2 := (ho1H.out.trans ho2 (by simp)).keep hpH.out (by simp); have d2 : w2.cell? ⟨p, j, none⟩ = some (ptr g) := (Lib.cell_of_heap hp2 j).trans hjH.out; have z2 := block_frozen (i := j) hp2; have hr2H := Lib.hid hr2; have hb2H := Lib.hid hb2; have ho2H := Lib.hid ho2; clear hp2 hr2 hb2 ho2))
    go_ret
    exact ⟨g2, rfl, owned_new hpH.out ho1H.out ho2H.out hr2H.out hb2H.out⟩
  | false =>
    go_enter Try.func35, Try.ntmps35
    go_wp2_with (go_at_call 40; (with_reducible refine (hsp.out).mono ?_); rintro e w0 ⟨rfl, k, rfl⟩)
    go_ret
    have hd := (Only.refl [] w).drewN k
    exact ⟨g, rfl, R, by rw [set_self hjH.out]; exact hd.keep hpH.out (by simp), hrH.out.keep hd (by simp), hpRH.out, hd.mono (by simp), fun b hb => Or.inl hb⟩
theorem ord_own (h : Ord w p j C T R L) : Calls Try.prog 35 #[hdp p j] w fun e w' => ∃ g, e = .returned (ptr g) ∧ Owned w w' p j g C T R L := by
  have h' := h
  obtain ⟨h0, _, ⟨h1, rfl, _⟩ | ⟨g, h1, h2⟩⟩ := h
  · exact own_zero h' h1 rfl
  · exact own_ring h' h1 h2
/-- What a call on an order leaves: at its head's place another value, in its blocks other things. -/
def OrdTo (w w' : World) (p j : Nat) (C : Array Value) (T : TypeId) (R : List Nat) (L' : List ByteArray) : Prop :=
  ∃ u R', Ord w' p j (C.setIfInBounds j u) T R' L' ∧ Only (p :: R) w w' ∧ ∀ b ∈ R', b ∈ R ∨ w.heap.size ≤ b
/-- Behind a call on the ring that own told. -/
theorem Owned.moved {w1 w2 : World} {R1 R2 : List Nat} {L2 : List ByteArray} (hj : j < C.size) (hp1 : w1.heap[p]? = some (.cells (C.setIfInBounds j (ptr g)) T (0, 0))) (hR1 : p ∉ R1) (ho1 : Only (p :: R) w w1) (hb1 : ∀ b ∈ R1, b ∈ R ∨ w.heap.size ≤ b) (hr2 : Ring w2 g R2 L2) (hm : Move R1 w1 w2 R2) :
    OrdTo w w2 p j C T R L2 := by
  have hs := ho1.size
  have hpl := some_lt hp1
  refine ⟨ptr g, R2, ⟨hm.1.keep hp1 hR1, fun hp => ?_, Or.inr ⟨g, by rw [Array.getElem?_setIfInBounds, if_pos rfl, if_pos hj], hr2⟩⟩, ho1.trans hm.1 (fun b hb => (hb1 b hb).elim (fun h => Or.inl (List.mem_cons_of_mem _ h)) Or.inr), fun b hb => ?_⟩
  · rcases hm.2 p hp with e | e
    · exact hR1 e
    · omega
  · rcases hm.2 b hb with e | e
    · exact hb1 b e
    · exact Or.inr (by omega)
theorem Ord.bound (h : Ord w p j C T R L) : j < C.size := by
  obtain ⟨h0, _, ⟨h1, _, _⟩ | ⟨g, h1, _⟩⟩ := h
  · exact (Array.getElem?_eq_some_iff.1 h1).1
  · exact (Array.getElem?_eq_some_iff.1 h1).1
theorem touch_nil (w : World) (key : ByteArray) : Calls Try.prog 27 #[.pointer none, .string key] w fun e w' => e = .returned (.bool false) ∧ w = w' := by
  go_enter Try.func27, Try.ntmps27
  go_wp2
  all_goals go_ret
  all_goals exact ⟨rfl, rfl⟩
theorem ord_touch (h : Ord w p j C T R L) (hl : L.length < 1000000) (key : ByteArray) (hk : key.size ≤ maxLen) :
    Calls Try.prog 27 #[hdp p j, .string key] w fun e w' => e = .returned (.bool (!hasK L key)) ∧ OrdTo w w' p j C T R (tipK L key) := by
  have hown := Lib.hid (ord_own h)
  have hjH := Lib.hid h.bound
  have hlH := Lib.hid hl
  have hkH := Lib.hid hk
  generalize hb : hasK L key = b
  have hbH := Lib.hid hb
  clear h hl hk hb
  go_enter Try.func27, Try.ntmps27
  go_wp2_with (first
    | (go_at_call 35; (with_reducible refine (hown.out).mono ?_); rintro e w1 ⟨g, rfl, R1, q1, q2, q3, q4, q5⟩; have ht := q2.touch hlH.out key hkH.out; rw [hbH.out] at ht; have htH := Lib.hid ht; have q1H := Lib.hid q1; have q3H := Lib.hid q3; have q4H := Lib.hid q4; have q5H := Lib.hid q5; clear q1 q2 q3 q4 q5 ht)
    | (go_at_call 36; (with_reducible refine (htH.out).mono ?_); rintro e w2 ⟨rfl, hq⟩))
  go_ret
  obtain ⟨R2, k1, k2⟩ := hq
  exact ⟨rfl, Owned.moved hjH.out q1H.out q3H.out q4H.out q5H.out k1 k2⟩
theorem drop_none {rv : Value} (key : ByteArray) (hH : Calls Try.prog 37 #[rv, .string key] w fun e w' => e = .returned (.bool false) ∧ w = w') : Calls Try.prog 28 #[rv, .string key] w fun e w' => e = .returned (.bool false) ∧ w = w' := by
  have hHH := Lib.hid hH
  clear hH
  go_enter Try.func28, Try.ntmps28
  go_wp2_with (go_at_call 37; (with_reducible refine (hHH.out).mono ?_); rintro e w1 ⟨rfl, rfl⟩)
  go_ret
  exact ⟨rfl, rfl⟩
theorem drop_nil (w : World) (key : ByteArray) : Calls Try.prog 28 #[.pointer none, .string key] w fun e w' => e = .returned (.bool false) ∧ w = w' := drop_none key (has_empty key (len_nil w))
theorem oldest_nil (w : World) : Calls Try.prog 31 #[.pointer none] w fun e w' => e = .returned (.tuple #[.string ⟨#[]⟩, .bool false]) ∧ w = w' := oldest_empty (len_nil w)
theorem ord_drop (h : Ord w p j C T R L) (key : ByteArray) (hk : key.size ≤ maxLen) :
    Calls Try.prog 28 #[hdp p j, .string key] w fun e w' => e = .returned (.bool (hasK L key)) ∧ OrdTo w w' p j C T R (goK L key) := by
  have hh := ord_has h key hk
  cases hb : hasK L key with
  | false =>
    rw [hb] at hh
    refine (drop_none key hh).mono ?_
    rintro e w' ⟨rfl, rfl⟩
    have hjb := h.bound
    refine ⟨rfl, C[j], R, ?_, Only.refl _ _, fun b hb => Or.inl hb⟩
    rw [goK_none (hasK_no.1 hb), set_self (Array.getElem?_eq_getElem hjb)]
    exact h
  | true =>
    rw [hb] at hh
    have hhH := Lib.hid hh
    have hown := Lib.hid (ord_own h)
    have hjH := Lib.hid h.bound
    have hkH := Lib.hid hk
    have hm := Lib.hid (hasK_iff.1 hb)
    clear h hk hb hh
    go_enter Try.func28, Try.ntmps28
    go_wp2_with (first
      | (go_at_call 37; (with_reducible refine (hhH.out).mono ?_); rintro e w1 ⟨rfl, rfl⟩)
      | (go_at_call 35; (with_reducible refine (hown.out).mono ?_); rintro e w1 ⟨g, rfl, R1, q1, q2, q3, q4, q5⟩; have htH := Lib.hid (q2.drop key hkH.out hm.out); have q1H := Lib.hid q1; have q3H := Lib.hid q3; have q4H := Lib.hid q4; have q5H := Lib.hid q5; clear q1 q2 q3 q4 q5)
      | (go_at_call 38; (with_reducible refine (htH.out).mono ?_); rintro e w2 ⟨rfl, hq⟩))
    go_ret
    obtain ⟨R2, k1, k2⟩ := hq
    exact ⟨rfl, Owned.moved hjH.out q1H.out q3H.out q4H.out q5H.out k1 k2⟩
end Go.Proofs.Ytpbmgaipeofpaaa
