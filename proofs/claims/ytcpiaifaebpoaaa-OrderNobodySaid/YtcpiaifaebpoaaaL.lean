/-
  An order in memory: New, Len, Has, Oldest, All, own, Touch, Drop. Premises: an order as it lies, of at most a million keys.
-/
import Derived.Test.YtcpiaifaebpoaaaK
namespace Go.Proofs.Ytcpiaifaebpoaaa
open Go.RowKit
variable {w w' : World} {p g : Nat} {O R : List Nat} {L : List ByteArray}

/-- An order: its head p holds no ring, or one of the keys L. -/
def Ord (w : World) (p : Nat) (O : List Nat) (L : List ByteArray) : Prop :=
  (w.heap[p]? = some (.cells #[.pointer none] 42 (0, 0)) ∧ L = [] ∧ O = [p]) ∨
  ∃ g R, w.heap[p]? = some (.cells #[ptr g] 42 (0, 0)) ∧ Ring w g R L ∧ p ∉ R ∧ O = p :: R
theorem Ord.lt (h : Ord w p O L) {b : Nat} (hb : b ∈ O) : b < w.heap.size := by
  rcases h with ⟨h1, _, rfl⟩ | ⟨g, R, h1, h2, _, rfl⟩
  · rw [List.mem_singleton.1 hb]; exact some_lt h1
  · rcases List.mem_cons.1 hb with rfl | hb
    · exact some_lt h1
    · exact h2.lt hb
theorem Ord.mem (h : Ord w p O L) : p ∈ O := by
  rcases h with ⟨h1, _, rfl⟩ | ⟨g, R, h1, h2, _, rfl⟩ <;> simp
theorem Ord.keep {O' : List Nat} (h : Ord w p O L) (ho : Only O' w w') (hd : ∀ b ∈ O, b ∉ O') : Ord w' p O L := by
  rcases h with ⟨h1, rfl, rfl⟩ | ⟨g, R, h1, h2, h3, rfl⟩
  · exact Or.inl ⟨ho.keep h1 (hd p (by simp)), rfl, rfl⟩
  · exact Or.inr ⟨g, R, ho.keep h1 (hd p (by simp)), h2.keep ho (fun b hb => hd b (List.mem_cons_of_mem _ hb)), h3, rfl⟩
theorem Ord.same (h : Ord w p O L) (ho : Only [] w w') : Ord w' p O L := h.keep ho (by simp)
theorem Ord.nodup (h : Ord w p O L) : L.Nodup := by
  rcases h with ⟨h1, rfl, _⟩ | ⟨g, R, h1, h2, _, _⟩
  · simp
  · exact h2.nodup
theorem Ord.few (h : Ord w p O L) : L.length ≤ 1000000 := by
  rcases h with ⟨h1, rfl, _⟩ | ⟨g, R, h1, h2, _, _⟩
  · simp
  · exact h2.few
theorem Ord.sizes (h : Ord w p O L) : ∀ k ∈ L, k.size ≤ maxLen := by
  rcases h with ⟨h1, rfl, _⟩ | ⟨g, R, h1, ⟨m, room, bs, nx, pv, f, h2, rfl, _⟩, _, _⟩
  · simp
  · intro k hk
    obtain ⟨q, hq, rfl⟩ := List.mem_map.1 hk
    exact h2.sizes q hq
theorem new_any (w : World) : Calls Try.prog 8 #[] w fun e w' => e = .returned (ptr w.heap.size) ∧ Ord w' w.heap.size [w.heap.size] [] ∧ Only [] w w' := by
  go_enter Try.func8, Try.ntmps8
  go_wp2
  go_ret
  exact ⟨rfl, Or.inl ⟨heap_alloc_new _ _, rfl, rfl⟩, (Only.refl [] w).alloc _⟩
theorem ord_len (h : Ord w p O L) : Calls Try.prog 14 #[ptr p] w fun e w' => e = .returned (.int .i64 (L.length : Int)) ∧ w = w' := by
  rcases h with ⟨h1, rfl, _⟩ | ⟨g, R, h1, ⟨m, room, bs, nx, pv, f, h2, rfl, _⟩, _, _⟩
  · exact len_zero h1
  · rw [List.length_map]
    exact len_run (Lib.cell_of_heap h1 0) (Lib.cell_of_heap h2.raw.head 3) (fun ty => h2.map.len ty)
theorem ord_has (h : Ord w p O L) (key : ByteArray) (hk : key.size ≤ maxLen) : Calls Try.prog 17 #[ptr p, .string key] w fun e w' => e = .returned (.bool (hasK L key)) ∧ w = w' := by
  have hl := ord_len h
  rcases h with ⟨h1, rfl, _⟩ | ⟨g, R, h1, ⟨m, room, bs, nx, pv, f, h2, rfl, _⟩, _, _⟩
  · exact has_empty key hl
  · by_cases hb : bs = []
    · subst hb
      exact has_empty key hl
    · obtain ⟨v, hv, _⟩ := h2.map.look key hk
      have e : (f key).isSome = hasK (keysN bs) key := by
        by_cases hm : key ∈ keysN bs
        · obtain ⟨b, xs, ys, _, hf⟩ := h2.find hm
          rw [hf, hasK_iff.2 hm]
          rfl
        · rw [h2.none hm, hasK_no.2 hm]
          rfl
      rw [e] at hv
      exact has_run (n := (keysN bs).length) (by rw [List.length_map]; exact List.length_pos_iff.2 hb) hl (Lib.cell_of_heap h1 0) (Lib.cell_of_heap h2.raw.head 3) hv
theorem ord_oldest (h : Ord w p O L) : Calls Try.prog 13 #[ptr p] w fun e w' => e = .returned (.tuple #[.string (L.headD ⟨#[]⟩), .bool (decide (0 < L.length))]) ∧ w = w' := by
  have hl := ord_len h
  rcases h with ⟨h1, rfl, _⟩ | ⟨g, R, h1, ⟨m, room, bs, nx, pv, f, h2, rfl, _⟩, _, _⟩
  · exact oldest_empty hl
  · cases bs with
    | nil => exact oldest_empty hl
    | cons q bs =>
      have e : nx g = q.1 := by
        have := h2.lk.head
        simpa using this.symm
      have c2 : w.cell? ⟨g, 2, none⟩ = some (ptr q.1) := by rw [← e]; exact Lib.cell_of_heap h2.raw.head 2
      have hd : decide (0 < (keysN (q :: bs)).length) = true := decide_eq_true (by simp)
      rw [hd]
      exact oldest_run (n := (keysN (q :: bs)).length) (by simp) hl (Lib.cell_of_heap h1 0) c2 (Lib.cell_of_heap (h2.raw.node q (by simp)) 0)
theorem ord_all (h : Ord w p O L) : Calls Try.prog 16 #[ptr p] w fun e w' => ∃ v', e = .returned v' ∧ RowT w' w.heap.size v' L ∧ Only [] w w' := by
  refine all_iter ?_ h.few (ord_len h)
  have hl : ∀ W, Only [] w W → Calls Try.prog 14 #[ptr p] W fun e w' => e = .returned (.int .i64 (L.length : Int)) ∧ W = w' := fun W hW => ord_len (h.same hW)
  rcases h with ⟨h1, rfl, _⟩ | ⟨g, R, h1, ⟨m, room, bs, nx, pv, f, h2, rfl, _⟩, _, _⟩
  · exact iter_empty hl
  · cases bs with
    | nil => exact iter_empty hl
    | cons q bs => exact iter_ring h2 h1 (by simp) (fun W hW => by have := hl W hW; rwa [List.length_map] at this)
theorem all_nil (w : World) : Calls Try.prog 16 #[.pointer none] w fun e w' => ∃ v', e = .returned v' ∧ RowT w' w.heap.size v' [] ∧ Only [] w w' :=
  all_iter (iter_empty (fun W _ => len_nil W)) (by simp) (len_nil w)
/-- A ring of one's own, behind own. -/
def Owned (w w' : World) (p g : Nat) (O : List Nat) (L : List ByteArray) : Prop :=
  ∃ R, w'.heap[p]? = some (.cells #[ptr g] 42 (0, 0)) ∧ Ring w' g R L ∧ p ∉ R ∧ Only O w w' ∧ ∀ b ∈ R, b ∈ O ∨ w.heap.size ≤ b
theorem owned_new {w1 w2 : World} {u : Value} (hp : w.heap[p]? = some (.cells #[u] 42 (0, 0))) (hpO : p ∈ O) (ho1 : Only [] w w1) (ho2 : Only [] w1 w2) (hr2 : Ring w2 g R L) (hb2 : ∀ b ∈ R, w1.heap.size ≤ b) : Owned w (w2.setCell ⟨p, 0, none⟩ (ptr g)) p g O L := by
  have h1 := ho1.size
  have hpl := some_lt hp
  have ho := ho1.trans ho2 (by simp)
  have hpR : p ∉ R := fun hm => by have := hb2 p hm; omega
  refine ⟨R, by rw [Joins.block_setCell (ho.keep hp (by simp))]; rfl, ?_, hpR, (ho.mono (by simp)).set (p := ⟨p, 0, none⟩) (Or.inl hpO) _, fun b hb => Or.inr (by have := hb2 b hb; omega)⟩
  exact hr2.keep ((Only.refl [p] w2).set (p := ⟨p, 0, none⟩) (Or.inl (by simp)) _) (fun b hb hm => hpR (by rw [← List.mem_singleton.1 hm]; exact hb))
set_option maxHeartbeats 4000000 in
theorem own_zero (hp : w.heap[p]? = some (.cells #[.pointer none] 42 (0, 0))) : Calls Try.prog 19 #[ptr p] w fun e w' => ∃ g, e = .returned (ptr g) ∧ Owned w w' p g [p] [] := by
  have hO : Ord w p [p] [] := Or.inl ⟨hp, rfl, rfl⟩
  have hAll := Lib.hid (ord_all hO)
  have c0 : w.cell? ⟨p, 0, none⟩ = some (.pointer none) := Lib.cell_of_heap hp 0
  have hpH := Lib.hid hp
  clear hp hO
  go_enter Try.func19, Try.ntmps19
  go_wp2_with (first
    | (go_at_call 16; (with_reducible refine (hAll.out).mono ?_); rintro e w1 ⟨v1, rfl, hr1, ho1⟩; have hN := Lib.hid (newring_any hr1 (by simp) (by simp) (by simp)); have ho1H := Lib.hid ho1; clear hr1 ho1)
    | (go_at_call 24; (with_reducible refine (hN.out).mono ?_); rintro e w2 ⟨g, R, rfl, hr2, hb2, ho2⟩; have hp2 := (ho1H.out.trans ho2 (by simp)).keep hpH.out (by simp); have d2 := Lib.cell_of_heap hp2 0; have z2 := block_frozen (i := 0) hp2; have hr2H := Lib.hid hr2; have hb2H := Lib.hid hb2; have ho2H := Lib.hid ho2; clear hp2 hr2 hb2 ho2))
  go_ret
  exact ⟨g, rfl, owned_new hpH.out (by simp) ho1H.out ho2H.out hr2H.out hb2H.out⟩
set_option maxHeartbeats 4000000 in
theorem own_ring (hp : w.heap[p]? = some (.cells #[ptr g] 42 (0, 0))) (hr : Ring w g R L) (hpR : p ∉ R) : Calls Try.prog 19 #[ptr p] w fun e w' => ∃ g', e = .returned (ptr g') ∧ Owned w w' p g' (p :: R) L := by
  have hO : Ord w p (p :: R) L := Or.inr ⟨g, R, hp, hr, hpR, rfl⟩
  have hAll := Lib.hid (fun k => ord_all (hO.same ((Only.refl [] w).drewN k)))
  have hOH := Lib.hid hO
  have hpH := Lib.hid hp
  have hrH := Lib.hid hr
  obtain ⟨m, room, bs, nx, pv, f, h2, hk2, hR2⟩ := hr
  have c0 : w.cell? ⟨p, 0, none⟩ = some (ptr g) := Lib.cell_of_heap hp 0
  have c5 : w.cell? ⟨g, 5, none⟩ = some (.int .i64 0) := Lib.cell_of_heap h2.raw.head 5
  have hsp := Lib.hid (sparse_run (n := bs.length) (by have := h2.few; omega) (Lib.cell_of_heap h2.raw.head 3) (Lib.cell_of_heap h2.raw.head 4) (fun ty k => (h2.map.keep ((Only.refl [] w).drewN k) (by simp)).len ty))
  generalize (decide ((8 : Int) < (room : Int)) && decide (4 * (bs.length : Int) < (room : Int))) = b at hsp
  have hpRH := Lib.hid hpR
  clear hp hO h2 hk2 hR2 hpR
  cases b with
  | true =>
    go_enter Try.func19, Try.ntmps19
    go_wp2_with (first
      | (go_at_call 23; (with_reducible refine (hsp.out).mono ?_); rintro e w0 ⟨rfl, k, rfl⟩)
      | (go_at_call 16; (with_reducible refine (hAll.out k).mono ?_); rintro e w1 ⟨v1, rfl, hr1, ho1⟩; have hN := Lib.hid (newring_any hr1 hOH.out.nodup hOH.out.few hOH.out.sizes); have ho1H := Lib.hid (((Only.refl [] w).drewN k).trans ho1 (by simp)); clear hr1 ho1)
      | (go_at_call 24; (with_reducible refine (hN.out).mono ?_); rintro e w2 ⟨g2, R2, rfl, hr2, hb2, ho2⟩; have hp2 := (ho1H.out.trans ho2 (by simp)).keep hpH.out (by simp); have d2 := Lib.cell_of_heap hp2 0; have z2 := block_frozen (i := 0) hp2; have hr2H := Lib.hid hr2; have hb2H := Lib.hid hb2; have ho2H := Lib.hid ho2; clear hp2 hr2 hb2 ho2))
    go_ret
    exact ⟨g2, rfl, owned_new hpH.out (by simp) ho1H.out ho2H.out hr2H.out hb2H.out⟩
  | false =>
    go_enter Try.func19, Try.ntmps19
    go_wp2_with (go_at_call 23; (with_reducible refine (hsp.out).mono ?_); rintro e w0 ⟨rfl, k, rfl⟩)
    go_ret
    have hd := (Only.refl [] w).drewN k
    exact ⟨g, rfl, R, hd.keep hpH.out (by simp), hrH.out.keep hd (by simp), hpRH.out, hd.mono (by simp), fun b hb => Or.inl (List.mem_cons_of_mem _ hb)⟩
theorem ord_own (h : Ord w p O L) : Calls Try.prog 19 #[ptr p] w fun e w' => ∃ g, e = .returned (ptr g) ∧ Owned w w' p g O L := by
  rcases h with ⟨h1, rfl, rfl⟩ | ⟨g, R, h1, h2, h3, rfl⟩
  · exact own_zero h1
  · exact own_ring h1 h2 h3
/-- Behind a call on the ring that own told. -/
theorem Owned.moved {w1 w2 : World} {R1 R2 : List Nat} {L2 : List ByteArray} (hpO : p ∈ O) (hp1 : w1.heap[p]? = some (.cells #[ptr g] 42 (0, 0))) (hpl : p < w1.heap.size) (hR1 : p ∉ R1) (ho1 : Only O w w1) (hb1 : ∀ b ∈ R1, b ∈ O ∨ w.heap.size ≤ b) (hr2 : Ring w2 g R2 L2) (hm : Move R1 w1 w2 R2) :
    ∃ O', Ord w2 p O' L2 ∧ Move O w w2 O' := by
  have hs := ho1.size
  refine ⟨p :: R2, Or.inr ⟨g, R2, hm.1.keep hp1 hR1, hr2, fun hp => ?_, rfl⟩, ho1.trans hm.1 hb1, fun b hb => ?_⟩
  · rcases hm.2 p hp with e | e
    · exact hR1 e
    · omega
  · rcases List.mem_cons.1 hb with rfl | hb
    · exact Or.inl hpO
    · rcases hm.2 b hb with e | e
      · exact hb1 b e
      · exact Or.inr (by omega)
theorem touch_nil (w : World) (key : ByteArray) : Calls Try.prog 11 #[.pointer none, .string key] w fun e w' => e = .returned (.bool false) ∧ w = w' := by
  go_enter Try.func11, Try.ntmps11
  go_wp2
  all_goals go_ret
  all_goals exact ⟨rfl, rfl⟩
theorem ord_touch (h : Ord w p O L) (hl : L.length < 1000000) (key : ByteArray) (hk : key.size ≤ maxLen) :
    Calls Try.prog 11 #[ptr p, .string key] w fun e w' => e = .returned (.bool (!hasK L key)) ∧ ∃ O', Ord w' p O' (tipK L key) ∧ Move O w w' O' := by
  have hown := Lib.hid (ord_own h)
  have hpO := Lib.hid h.mem
  have hlH := Lib.hid hl
  have hkH := Lib.hid hk
  generalize hb : hasK L key = b
  have hbH := Lib.hid hb
  clear h hl hk hb
  go_enter Try.func11, Try.ntmps11
  go_wp2_with (first
    | (go_at_call 19; (with_reducible refine (hown.out).mono ?_); rintro e w1 ⟨g, rfl, R1, q1, q2, q3, q4, q5⟩; have ht := q2.touch hlH.out key hkH.out; rw [hbH.out] at ht; have htH := Lib.hid ht; have q1H := Lib.hid q1; have q3H := Lib.hid q3; have q4H := Lib.hid q4; have q5H := Lib.hid q5; clear q1 q2 q3 q4 q5 ht)
    | (go_at_call 21; (with_reducible refine (htH.out).mono ?_); rintro e w2 ⟨rfl, hq⟩))
  go_ret
  obtain ⟨R2, k1, k2⟩ := hq
  exact ⟨rfl, Owned.moved hpO.out q1H.out (some_lt q1H.out) q3H.out q4H.out q5H.out k1 k2⟩
theorem drop_none {rv : Value} (key : ByteArray) (hH : Calls Try.prog 17 #[rv, .string key] w fun e w' => e = .returned (.bool false) ∧ w = w') : Calls Try.prog 9 #[rv, .string key] w fun e w' => e = .returned (.bool false) ∧ w = w' := by
  have hHH := Lib.hid hH
  clear hH
  go_enter Try.func9, Try.ntmps9
  go_wp2_with (go_at_call 17; (with_reducible refine (hHH.out).mono ?_); rintro e w1 ⟨rfl, rfl⟩)
  go_ret
  exact ⟨rfl, rfl⟩
theorem ord_drop (h : Ord w p O L) (key : ByteArray) (hk : key.size ≤ maxLen) :
    Calls Try.prog 9 #[ptr p, .string key] w fun e w' => e = .returned (.bool (hasK L key)) ∧ ∃ O', Ord w' p O' (goK L key) ∧ Move O w w' O' := by
  have hh := ord_has h key hk
  cases hb : hasK L key with
  | false =>
    rw [hb] at hh
    refine (drop_none key hh).mono ?_
    rintro e w' ⟨rfl, rfl⟩
    exact ⟨rfl, O, by rw [goK_none (hasK_no.1 hb)]; exact h, Only.refl _ _, fun b hb => Or.inl hb⟩
  | true =>
    rw [hb] at hh
    have hhH := Lib.hid hh
    have hown := Lib.hid (ord_own h)
    have hpO := Lib.hid h.mem
    have hkH := Lib.hid hk
    have hm := Lib.hid (hasK_iff.1 hb)
    clear h hk hb hh
    go_enter Try.func9, Try.ntmps9
    go_wp2_with (first
      | (go_at_call 17; (with_reducible refine (hhH.out).mono ?_); rintro e w1 ⟨rfl, rfl⟩)
      | (go_at_call 19; (with_reducible refine (hown.out).mono ?_); rintro e w1 ⟨g, rfl, R1, q1, q2, q3, q4, q5⟩; have htH := Lib.hid (q2.drop key hkH.out hm.out); have q1H := Lib.hid q1; have q3H := Lib.hid q3; have q4H := Lib.hid q4; have q5H := Lib.hid q5; clear q1 q2 q3 q4 q5)
      | (go_at_call 20; (with_reducible refine (htH.out).mono ?_); rintro e w2 ⟨rfl, hq⟩))
    go_ret
    obtain ⟨R2, k1, k2⟩ := hq
    exact ⟨rfl, Owned.moved hpO.out q1H.out (some_lt q1H.out) q3H.out q4H.out q5H.out k1 k2⟩
end Go.Proofs.Ytcpiaifaebpoaaa
