/-
  A list of the call's own beside the document's row: what each call turns, and answers.
-/
import Derived.Test.YtnmcedkinacbpaaS
namespace Go.Proofs.Ytnmcedkinacbpaa
open Go.RowKit

def Ply (w0 w : World) (D : Nat) (r : Value) (L R : List Int) (K : List (Nat × Obj)) : Prop :=
  ∃ g N f, DQ w D g N f L ∧ RowI w w0.heap.size r R ∧ (∀ k, r.ownBlock = some k → k ≠ D ∧ k ≠ g) ∧ (w0.heap.size ≤ D ∧ w0.heap.size ≤ g) ∧ Only [] w0 w ∧ ∀ q ∈ K, w.heap[q.1]? = some q.2 ∧ q.1 ≠ D ∧ q.1 ≠ g
variable {w0 w : World} {D : Nat} {r : Value} {L R : List Int} {K : List (Nat × Obj)}
theorem Ply.most (h : Ply w0 w D r L R K) : Only [] w0 w := by
  obtain ⟨g, N, f, _, _, _, _, ho, _⟩ := h
  exact ho
theorem Ply.rows (h : Ply w0 w D r L R K) : RowI w w0.heap.size r R := by
  obtain ⟨g, N, f, _, hr, _⟩ := h
  exact hr
theorem Ply.same {w' : World} (h : Ply w0 w D r L R K) (ho : Only [] w w') : Ply w0 w' D r L R K := by
  obtain ⟨g, N, f, h1, h2, h3, h4, h5, h6⟩ := h
  exact ⟨g, N, f, h1.keep ho (by simp) (by simp), h2.none ho, h3, h4, h5.trans ho (by simp), fun q hq => ⟨ho.keep (h6 q hq).1 (by simp), (h6 q hq).2⟩⟩
theorem Ply.drop (h : Ply w0 w D r L R K) : Ply w0 w D r L R [] := by
  obtain ⟨g, N, f, h1, h2, h3, h4, h5, h6⟩ := h
  exact ⟨g, N, f, h1, h2, h3, h4, h5, fun q hq => by simp at hq⟩
theorem Ply.make (h : Ply w0 w D r L R []) (cs : Array Value) (t : TypeId) : Ply w0 (w.alloc (.cells cs t)) D r L R [(w.heap.size, .cells cs t)] := by
  have ho : Only [] w (w.alloc (.cells cs t)) := (Only.refl [] w).alloc _
  obtain ⟨g, N, f, h1, h2, h3, h4, h5, h6⟩ := h
  obtain ⟨l1, l2⟩ := h1.lt
  refine ⟨g, N, f, h1.keep ho (by simp) (by simp), h2.none ho, h3, h4, h5.trans ho (by simp), fun q hq => ?_⟩
  obtain rfl := List.mem_singleton.1 hq
  exact ⟨heap_alloc_new w _, by simp only; omega, by simp only; omega⟩
theorem Ply.cells {b : Nat} {cs : Array Value} {t : TypeId} (h : Ply w0 w D r L R [(b, .cells cs t)]) (j : Nat) : w.cell? ⟨b, j, none⟩ = cs[j]? := by
  obtain ⟨g, N, f, h1, h2, h3, h4, h5, h6⟩ := h
  have := (h6 (b, .cells cs t) (by simp)).1
  simp [World.cell?, this]
theorem Ply.call {L' : List Int} {f0 : FuncId} {args : Array Value} {v : Value} (h : Ply w0 w D r L R K)
    (hc : ∀ g N f, DQ w D g N f L → Calls Try.prog f0 args w fun e w' => e = .returned v ∧ Left w D g L' w') :
    Calls Try.prog f0 args w fun e w' => e = .returned v ∧ Ply w0 w' D r L' R K := by
  obtain ⟨g, N, f, h1, h2, h3, ⟨s1, s2⟩, h5, h6⟩ := h
  refine (hc g N f h1).mono fun e w' ⟨he, hl⟩ => ⟨he, ?_⟩
  obtain ⟨g1, N1, f1, k1, k2, k3⟩ := hl
  have hsz := h5.size
  refine ⟨g1, N1, f1, k1, h2.only k2 (fun k hk => by have := h3 k hk; simp; omega), fun k hk => ?_, ⟨s1, ?_⟩, h5.trans k2 (fun x hx => Or.inr ?_), fun q hq => ?_⟩
  · obtain ⟨e1, e2⟩ := h3 k hk
    refine ⟨e1, ?_⟩
    rcases k3 with rfl | k3
    · exact e2
    · have := (h2.lt k hk).2
      omega
  · rcases k3 with rfl | k3
    · exact s2
    · omega
  · rcases List.mem_cons.1 hx with rfl | hx
    · exact s1
    · obtain rfl := List.mem_singleton.1 hx
      exact s2
  · obtain ⟨q1, q2, q3⟩ := h6 q hq
    have hqn : q.1 ∉ [D, g] := by simp; exact ⟨q2, q3⟩
    refine ⟨k2.keep q1 hqn, q2, ?_⟩
    rcases k3 with rfl | k3
    · exact q3
    · have := some_lt q1
      omega
theorem Ply.fresh {w' : World} {r' : Value} {R' : List Int} (h : Ply w0 w D r L R K) (hf : Fresh w r' R' w') : Ply w0 w' D r' L R' K := by
  obtain ⟨g, N, f, h1, h2, h3, h4, h5, h6⟩ := h
  obtain ⟨k1, k2⟩ := hf
  obtain ⟨l1, l2⟩ := h1.lt
  exact ⟨g, N, f, h1.keep k2 (by simp) (by simp), k1.base h5.size, fun k hk => by have := (k1.lt k hk).1; omega, h4, h5.trans k2 (by simp), fun q hq => ⟨k2.keep (h6 q hq).1 (by simp), (h6 q hq).2⟩⟩
theorem Ply.start {w1 w2 : World} {g N f : Nat} {r' : Value} (h1 : DQ w1 D g N f L) (s1 : w.heap.size ≤ D) (s2 : w.heap.size ≤ g) (o1 : Only [] w w1) (hf : Fresh w1 r' R w2) : Ply w w2 D r' L R [] := by
  obtain ⟨k1, k2⟩ := hf
  obtain ⟨l1, l2⟩ := h1.lt
  exact ⟨g, N, f, h1.keep k2 (by simp) (by simp), k1.base o1.size, fun k hk => by have := (k1.lt k hk).1; omega, ⟨s1, s2⟩, o1.trans k2 (by simp), fun q hq => by simp at hq⟩

/-- What a place tells, of a row. -/
def inB (L : List Int) (i : Int) : Bool := decide (0 ≤ fromEnd L.length i ∧ fromEnd L.length i < L.length)
def atV (L : List Int) (i : Int) : Int := if inB L i then nth L (fromEnd L.length i).toNat else 0
def setF (L : List Int) (i v : Int) : List Int := if inB L i then L.set (fromEnd L.length i).toNat v else L
def remF (L : List Int) (i : Int) : List Int := if inB L i then remL L (fromEnd L.length i).toNat else L
def insB (L : List Int) (i : Int) : Bool := decide (0 ≤ i ∧ i ≤ L.length)
def insF (L : List Int) (i v : Int) : List Int := if insB L i then insL L i.toNat v else L
theorem inB_yes {i : Int} (h : inB L i = true) : InR L.length i := (of_decide_eq_true h : 0 ≤ fromEnd L.length i ∧ fromEnd L.length i < L.length)
theorem inB_no {i : Int} (h : ¬ inB L i = true) : ¬ InR L.length i := fun hr => h (by unfold inB; exact decide_eq_true hr)
theorem setF_len (L : List Int) (i v : Int) : (setF L i v).length = L.length := by unfold setF; split <;> simp
theorem remF_len (L : List Int) (i : Int) : (remF L i).length ≤ L.length := by
  unfold remF
  split
  · next h =>
    have := inB_yes h
    unfold InR at this
    rw [remL_len _ _ (by omega)]
    omega
  · exact Nat.le_refl _
theorem insF_len (L : List Int) (i v : Int) : (insF L i v).length ≤ L.length + 1 := by
  unfold insF
  split
  · next h =>
    have := of_decide_eq_true h
    rw [insL_len _ _ _ (by omega)]
    omega
  · omega
theorem cutL_len (L : List Int) (i j : Int) : (cutL L i j).length ≤ L.length := by
  unfold cutL
  rw [List.length_take, List.length_drop]
  omega
theorem popF_len (fr : Bool) (L : List Int) : (popF fr L).length ≤ L.length := by unfold popF; cases fr <;> simp

theorem Ply.push (h : Ply w0 w D r L R K) (hl : L.length ≤ 1000) (front : Bool) (v : Int) :
    Calls Try.prog 8 #[.pointer (some ⟨D, 0, none⟩), .bool front, .int .i64 v] w fun e w' => e = .returned (.bool true) ∧ Ply w0 w' D r (pushF front v L) R K := h.call fun _ _ _ hd => push_any hd (by omega) front v
theorem Ply.rpush (h : Ply w0 w D r L R K) (hl : R.length ≤ 1000) (front : Bool) (v : Int) :
    Calls Try.prog 9 #[r, .bool front, .int .i64 v] w fun e w' => ∃ r', e = .returned r' ∧ Ply w0 w' D r' L (pushF front v R) K := by
  cases front
  · exact (rpush_back h.rows.src (by omega) v).mono fun e w' ⟨r', he, hf⟩ => ⟨r', he, h.fresh hf⟩
  · exact (rpush_front h.rows.src (by omega) v).mono fun e w' ⟨r', he, hf⟩ => ⟨r', he, h.fresh hf⟩
theorem Ply.pop (h : Ply w0 w D r L R K) (front : Bool) :
    Calls Try.prog 10 #[.pointer (some ⟨D, 0, none⟩), .bool front] w fun e w' => e = .returned (.tuple #[.int .i64 (popV front L), .bool (decide (0 < L.length))]) ∧ Ply w0 w' D r (popF front L) R K := by
  rcases Nat.eq_zero_or_pos L.length with h0 | hp
  · obtain rfl := List.length_eq_zero_iff.1 h0
    have h' := h
    obtain ⟨g, N, f, h1, _⟩ := h
    refine (pop_none (len_any h1.head) front).mono fun e w' ⟨he, ho⟩ => ⟨?_, ?_⟩
    · rw [he]; cases front <;> rfl
    · have : popF front [] = [] := by cases front <;> rfl
      rw [this]
      exact h'.same ho
  · have := h.call fun _ _ _ hd => pop_any hd hp front
    rw [decide_eq_true hp]
    exact this
theorem Ply.rpop (h : Ply w0 w D r L R K) (hl : R.length ≤ 1000) (front : Bool) :
    Calls Try.prog 11 #[r, .bool front] w fun e w' => ∃ r', e = .returned (.tuple #[r', .int .i64 (popV front R), .bool (decide (0 < R.length))]) ∧ Ply w0 w' D r' L (popF front R) K := by
  rcases Nat.eq_zero_or_pos R.length with h0 | hp
  · obtain rfl := List.length_eq_zero_iff.1 h0
    refine (rpop_none h.rows front).mono ?_
    rintro e w' ⟨rfl, rfl⟩
    have : popF front [] = [] := by cases front <;> rfl
    rw [this]
    exact ⟨r, by cases front <;> rfl, h⟩
  · rw [decide_eq_true hp]
    cases front
    · exact (rpop_back h.rows hp (by omega)).mono fun e w' ⟨r', he, hf⟩ => ⟨r', he, h.fresh hf⟩
    · exact (rpop_front h.rows hp (by omega)).mono fun e w' ⟨r', he, hf⟩ => ⟨r', he, h.fresh hf⟩
theorem Ply.at_ (h : Ply w0 w D r L R K) (hl : L.length ≤ 1000) (i : Int) (hi : inI64 i) :
    Calls Try.prog 12 #[.pointer (some ⟨D, 0, none⟩), .int .i64 i] w fun e w' => e = .returned (.tuple #[.int .i64 (atV L i), .bool (inB L i)]) ∧ Ply w0 w' D r L R K := by
  have h' := h
  obtain ⟨g, N, f, h1, _⟩ := h
  unfold atV
  by_cases hb : inB L i = true
  · rw [if_pos hb, hb]
    exact (at_some h1 i hi (inB_yes hb)).mono fun e w' ⟨he, k, hk⟩ => ⟨he, by rw [hk]; exact h'.same ((Only.refl [] _).drewN k)⟩
  · rw [if_neg hb, Bool.eq_false_iff.2 hb]
    exact (at_none (len_any h1.head) (by omega) i hi (inB_no hb)).mono fun e w' ⟨he, ho⟩ => ⟨he, h'.same ho⟩
theorem Ply.rat (h : Ply w0 w D r L R K) (hl : R.length ≤ 1000) (i : Int) (hi : inI64 i) :
    Calls Try.prog 13 #[r, .int .i64 i] w fun e w' => e = .returned (.tuple #[.int .i64 (atV R i), .bool (inB R i)]) ∧ Ply w0 w' D r L R K := by
  unfold atV
  by_cases hb : inB R i = true
  · rw [if_pos hb, hb]
    exact (rat_in h.rows i hi (by omega) (inB_yes hb)).mono fun e w' ⟨he, hw⟩ => ⟨he, hw ▸ h⟩
  · rw [if_neg hb, Bool.eq_false_iff.2 hb]
    exact (rat_out h.rows i hi (by omega) (inB_no hb)).mono fun e w' ⟨he, hw⟩ => ⟨he, hw ▸ h⟩
theorem Ply.set_ (h : Ply w0 w D r L R K) (hl : L.length ≤ 1000) (i : Int) (hi : inI64 i) (v : Int) :
    Calls Try.prog 14 #[.pointer (some ⟨D, 0, none⟩), .int .i64 i, .int .i64 v] w fun e w' => e = .returned (.bool (inB L i)) ∧ Ply w0 w' D r (setF L i v) R K := by
  unfold setF
  by_cases hb : inB L i = true
  · rw [if_pos hb, hb]
    exact h.call fun _ _ _ hd => set_some hd i hi v (inB_yes hb)
  · rw [if_neg hb, Bool.eq_false_iff.2 hb]
    have h' := h
    obtain ⟨g, N, f, h1, _⟩ := h
    exact (set_none (len_any h1.head) (by omega) i hi v (inB_no hb)).mono fun e w' ⟨he, hw⟩ => ⟨he, hw ▸ h'⟩
theorem Ply.rset (h : Ply w0 w D r L R K) (hl : R.length ≤ 1000) (i : Int) (hi : inI64 i) (v : Int) :
    Calls Try.prog 15 #[r, .int .i64 i, .int .i64 v] w fun e w' => ∃ r', e = .returned (.tuple #[r', .bool (inB R i)]) ∧ Ply w0 w' D r' L (setF R i v) K := by
  unfold setF
  by_cases hb : inB R i = true
  · rw [if_pos hb, hb]
    exact (rset_in h.rows i hi v (by omega) (inB_yes hb)).mono fun e w' ⟨r', he, hf⟩ => ⟨r', he, h.fresh hf⟩
  · rw [if_neg hb, Bool.eq_false_iff.2 hb]
    exact (rset_out h.rows i hi v (by omega) (inB_no hb)).mono fun e w' ⟨he, hw⟩ => ⟨r, he, hw ▸ h⟩
theorem Ply.ins (h : Ply w0 w D r L R K) (hl : L.length ≤ 1000) (i v : Int) :
    Calls Try.prog 16 #[.pointer (some ⟨D, 0, none⟩), .int .i64 i, .int .i64 v] w fun e w' => e = .returned (.bool (insB L i)) ∧ Ply w0 w' D r (insF L i v) R K := by
  unfold insF
  by_cases hb : insB L i = true
  · rw [if_pos hb, hb]
    have hq := of_decide_eq_true hb
    obtain ⟨k, hk⟩ : ∃ k : Nat, i = (k : Int) := ⟨i.toNat, by omega⟩
    subst hk
    rw [Int.toNat_natCast]
    exact h.call fun _ _ _ hd => insert_any hd (by omega) k (by omega) v
  · rw [if_neg hb, Bool.eq_false_iff.2 hb]
    have h' := h
    obtain ⟨g, N, f, h1, _⟩ := h
    have hq : ¬ (0 ≤ i ∧ i ≤ L.length) := fun hr => hb (decide_eq_true hr)
    exact (insert_none (len_any h1.head) i (by omega) v).mono fun e w' ⟨he, hw⟩ => ⟨he, hw ▸ h'⟩
theorem Ply.rins (h : Ply w0 w D r L R K) (hl : R.length ≤ 1000) (i v : Int) :
    Calls Try.prog 17 #[r, .int .i64 i, .int .i64 v] w fun e w' => ∃ r', e = .returned (.tuple #[r', .bool (insB R i)]) ∧ Ply w0 w' D r' L (insF R i v) K := by
  unfold insF
  by_cases hb : insB R i = true
  · rw [if_pos hb, hb]
    have hq := of_decide_eq_true hb
    obtain ⟨k, hk⟩ : ∃ k : Nat, i = (k : Int) := ⟨i.toNat, by omega⟩
    subst hk
    rw [Int.toNat_natCast]
    exact (rinsert_in h.rows k (by omega) v (by omega)).mono fun e w' ⟨r', he, hf⟩ => ⟨r', he, h.fresh hf⟩
  · rw [if_neg hb, Bool.eq_false_iff.2 hb]
    have hq : ¬ (0 ≤ i ∧ i ≤ R.length) := fun hr => hb (decide_eq_true hr)
    exact (rinsert_out h.rows i (by omega) v).mono fun e w' ⟨he, hw⟩ => ⟨r, he, hw ▸ h⟩
theorem Ply.rem (h : Ply w0 w D r L R K) (hl : L.length ≤ 1000) (i : Int) (hi : inI64 i) :
    Calls Try.prog 18 #[.pointer (some ⟨D, 0, none⟩), .int .i64 i] w fun e w' => e = .returned (.bool (inB L i)) ∧ Ply w0 w' D r (remF L i) R K := by
  unfold remF
  by_cases hb : inB L i = true
  · rw [if_pos hb, hb]
    exact h.call fun _ _ _ hd => remove_any hd i hi (inB_yes hb)
  · rw [if_neg hb, Bool.eq_false_iff.2 hb]
    have h' := h
    obtain ⟨g, N, f, h1, _⟩ := h
    exact (remove_none (len_any h1.head) (by omega) i hi (inB_no hb)).mono fun e w' ⟨he, hw⟩ => ⟨he, hw ▸ h'⟩
theorem Ply.rrem (h : Ply w0 w D r L R K) (hl : R.length ≤ 1000) (i : Int) (hi : inI64 i) :
    Calls Try.prog 19 #[r, .int .i64 i] w fun e w' => ∃ r', e = .returned (.tuple #[r', .bool (inB R i)]) ∧ Ply w0 w' D r' L (remF R i) K := by
  unfold remF
  by_cases hb : inB R i = true
  · rw [if_pos hb, hb]
    exact (rremove_in h.rows i hi (by omega) (inB_yes hb)).mono fun e w' ⟨r', he, hf⟩ => ⟨r', he, h.fresh hf⟩
  · rw [if_neg hb, Bool.eq_false_iff.2 hb]
    exact (rremove_out h.rows i hi (by omega) (inB_no hb)).mono fun e w' ⟨he, hw⟩ => ⟨r, he, hw ▸ h⟩
theorem Ply.keep (h : Ply w0 w D r L R K) (i j : Int) (hi : inI64 i) (hj : inI64 j) :
    Calls Try.prog 20 #[.pointer (some ⟨D, 0, none⟩), .int .i64 i, .int .i64 j] w fun e w' => e = .returned (.tuple #[]) ∧ Ply w0 w' D r (cutL L i j) R K := h.call fun _ _ _ hd => keep_any hd i j hi hj
theorem Ply.rkeep (h : Ply w0 w D r L R K) (hl : R.length ≤ 1000) (i j : Int) (hi : inI64 i) (hj : inI64 j) :
    Calls Try.prog 21 #[r, .int .i64 i, .int .i64 j] w fun e w' => ∃ r', e = .returned r' ∧ Ply w0 w' D r' L (cutL R i j) K :=
  (rcut_any h.rows i j hi hj (by omega)).mono fun e w' ⟨r', he, hf⟩ => ⟨r', he, h.fresh hf⟩
theorem Ply.cut (h : Ply w0 w D r L R K) (i j : Int) (hi : inI64 i) (hj : inI64 j) :
    Calls Try.prog 23 #[.pointer (some ⟨D, 0, none⟩), .int .i64 i, .int .i64 j] w fun e w' => ∃ v, e = .returned v ∧ SrcI w' v (cutL L i j) ∧ Ply w0 w' D r L R K ∧ Only [] w w' := by
  have h' := h
  obtain ⟨g, N, f, h1, _⟩ := h
  exact (cut_any h1 i j hi hj).mono fun e w' ⟨v, he, k1, k2⟩ => ⟨v, he, k1.src, h'.same k2, k2⟩
theorem Ply.rcut (h : Ply w0 w D r L R K) (hl : R.length ≤ 1000) (i j : Int) (hi : inI64 i) (hj : inI64 j) :
    Calls Try.prog 21 #[r, .int .i64 i, .int .i64 j] w fun e w' => ∃ v, e = .returned v ∧ SrcI w' v (cutL R i j) ∧ Ply w0 w' D r L R K ∧ Only [] w w' :=
  (rcut_any h.rows i j hi hj (by omega)).mono fun e w' ⟨v, he, k1, k2⟩ => ⟨v, he, k1.src, h.same k2, k2⟩
theorem Ply.equal {u u' : Value} {M : List Int} (h : Ply w0 w D r L R K) (hu : SrcI w u M) (hu' : SrcI w u' M) (hl : M.length ≤ 1000) :
    Calls Try.prog 22 #[u, u'] w fun e w' => e = .returned (.bool true) ∧ Ply w0 w' D r L R K := by
  refine (same_any hu hu' (by omega)).mono ?_
  rintro e w' ⟨rfl, k2⟩
  exact ⟨by simp, h.same k2⟩
theorem Ply.len {n : Nat} (h : Ply w0 w D r L R K) (hn : n = L.length) : Calls Try.prog 24 #[.pointer (some ⟨D, 0, none⟩)] w fun e w' => e = .returned (.int .i64 (n : Int)) ∧ w = w' := by
  subst hn
  obtain ⟨g, N, f, h1, _⟩ := h
  exact len_any h1.head
theorem Ply.all_ (h : Ply w0 w D r L R K) : Calls Try.prog 25 #[.pointer (some ⟨D, 0, none⟩)] w fun e w' => ∃ v, e = .returned v ∧ SrcI w' v L ∧ Ply w0 w' D r L R K := by
  have h' := h
  obtain ⟨g, N, f, h1, _⟩ := h
  exact (all_any h1).mono fun e w' ⟨v, he, k1, k2⟩ => ⟨v, he, k1.src, h'.same k2⟩

end Go.Proofs.Ytnmcedkinacbpaa
