/-
  Two lists of the call's own; the law that what is told hangs on which pairs there are alone.
-/
import Derived.Test.YtijfipghoilpeaaDoorOpen
import Derived.Deep.RegionHeld3
namespace Go.Proofs.YtijfipghoilpeaaDoor
open Go.RowKit

/-- The call (begun in the world w0) has two lists of its own, and blocks that are kept. -/
def Twin (w0 w : World) (D E : Nat) (L M : List Sc) (K : List (Nat × Obj)) : Prop :=
  ∃ ns ms, Sk w D ns ∧ prs ns = L ∧ Sk w E ms ∧ prs ms = M ∧ (∀ b ∈ blks D ns, w0.heap.size ≤ b) ∧ (∀ b ∈ blks E ms, w0.heap.size ≤ b) ∧ (∀ b ∈ blks D ns, b ∉ blks E ms) ∧ Only [] w0 w ∧ ∀ q ∈ K, w.heap[q.1]? = some q.2 ∧ q.1 ∉ blks D ns ∧ q.1 ∉ blks E ms
section
variable {w0 w : World} {D E : Nat} {L M : List Sc} {K : List (Nat × Obj)}
theorem Twin.swap (h : Twin w0 w D E L M K) : Twin w0 w E D M L K := by
  obtain ⟨ns, ms, h1, h2, h3, h4, h5, h6, h7, h8, h9⟩ := h
  exact ⟨ms, ns, h3, h4, h1, h2, h6, h5, fun b hb hc => h7 b hc hb, h8, fun q hq => ⟨(h9 q hq).1, (h9 q hq).2.2, (h9 q hq).2.1⟩⟩
theorem Twin.most (h : Twin w0 w D E L M K) : Only [] w0 w := by
  obtain ⟨ns, ms, h1, h2, h3, h4, h5, h6, h7, h8, h9⟩ := h
  exact h8
theorem Twin.rises (h : Twin w0 w D E L M K) : Rises L := by
  obtain ⟨ns, ms, h1, rfl, _⟩ := h
  exact h1.ord
theorem Twin.same {w' : World} (h : Twin w0 w D E L M K) (ho : Only [] w w') : Twin w0 w' D E L M K := by
  obtain ⟨ns, ms, h1, h2, h3, h4, h5, h6, h7, h8, h9⟩ := h
  exact ⟨ns, ms, h1.keep ho (by simp), h2, h3.keep ho (by simp), h4, h5, h6, h7, h8.trans ho (by simp), fun q hq => ⟨ho.keep (h9 q hq).1 (by simp), (h9 q hq).2⟩⟩
theorem Twin.less {K' : List (Nat × Obj)} (h : Twin w0 w D E L M K) (hK : ∀ q ∈ K', q ∈ K) : Twin w0 w D E L M K' := by
  obtain ⟨ns, ms, h1, h2, h3, h4, h5, h6, h7, h8, h9⟩ := h
  exact ⟨ns, ms, h1, h2, h3, h4, h5, h6, h7, h8, fun q hq => h9 q (hK q hq)⟩
theorem Twin.make (h : Twin w0 w D E L M K) (cs : Array Value) (t : TypeId) : Twin w0 (w.alloc (.cells cs t)) D E L M ((w.heap.size, .cells cs t) :: K) := by
  have ho : Only [] w (w.alloc (.cells cs t)) := (Only.refl [] w).alloc _
  obtain ⟨ns, ms, h1, h2, h3, h4, h5, h6, h7, h8, h9⟩ := h
  refine ⟨ns, ms, h1.keep ho (by simp), h2, h3.keep ho (by simp), h4, h5, h6, h7, h8.trans ho (by simp), fun q hq => ?_⟩
  rcases List.mem_cons.1 hq with rfl | hq
  · exact ⟨heap_alloc_new w _, fun hm => by have := h1.lt hm; simp at this, fun hm => by have := h3.lt hm; simp at this⟩
  · exact ⟨ho.keep (h9 q hq).1 (by simp), (h9 q hq).2⟩
theorem Twin.cellv {b : Nat} {cs : Array Value} {t : TypeId} (h : Twin w0 w D E L M K) (hm : (b, .cells cs t) ∈ K) (j : Nat) {v : Value} (hv : cs[j]? = some v) : w.cell? ⟨b, j, none⟩ = some v := by
  obtain ⟨ns, ms, h1, h2, h3, h4, h5, h6, h7, h8, h9⟩ := h
  have := (h9 _ hm).1
  simp [World.cell?, this, hv]
theorem Twin.call {L' : List Sc} {f0 : FuncId} {args : Array Value} {v : Value} (h : Twin w0 w D E L M K)
    (hc : ∀ ns, Sk w D ns → prs ns = L → Calls Tryd.prog f0 args w fun e w' => e = .returned v ∧ Done w D ns L' w') :
    Calls Tryd.prog f0 args w fun e w' => e = .returned v ∧ Twin w0 w' D E L' M K := by
  obtain ⟨ns, ms, h1, h2, h3, h4, h5, h6, h7, h8, h9⟩ := h
  refine (hc ns h1 h2).mono fun _ _ ⟨he, hl⟩ => ⟨he, ?_⟩
  obtain ⟨ns', k1, k2, k3, k4⟩ := hl
  have hsz := h8.size
  refine ⟨ns', ms, k1, k2, h3.keep k3 (fun b hb hc => h7 b hc hb), h4, fun b hb => ?_, h6, fun b hb hc => ?_, h8.trans k3 (fun x hx => Or.inr (h5 x hx)), fun q hq => ?_⟩
  · rcases k4 b hb with e | e
    · exact h5 b e
    · omega
  · rcases k4 b hb with e | e
    · exact h7 b e hc
    · have := h3.lt hc
      omega
  · obtain ⟨q1, q2, q3⟩ := h9 q hq
    refine ⟨k3.keep q1 q2, fun hb => ?_, q3⟩
    rcases k4 _ hb with e | e
    · exact q2 e
    · have := some_lt q1
      omega
theorem Twin.put (h : Twin w0 w D E L M K) (hT : Tabs w0) (hl : L.length < 1000000) (x : Sc) (hx : x.1.size ≤ maxLen) :
    Calls Tryd.prog 12 #[.pointer (some ⟨D, 0, none⟩), scV x] w fun e w' => e = .returned (.bool (!decide (x ∈ L))) ∧ Twin w0 w' D E (putS L x) M K :=
  have hm := h.most
  h.call fun ns hs he => by
    subst he
    exact put_any hs (by simpa [prs] using hl) (hT.later hm) x hx
theorem Twin.put2 (h : Twin w0 w D E L M K) (hT : Tabs w0) (hl : M.length < 1000000) (x : Sc) (hx : x.1.size ≤ maxLen) :
    Calls Tryd.prog 12 #[.pointer (some ⟨E, 0, none⟩), scV x] w fun e w' => e = .returned (.bool (!decide (x ∈ M))) ∧ Twin w0 w' D E L (putS M x) K :=
  (h.swap.put hT hl x hx).mono fun _ _ ⟨he, hp⟩ => ⟨he, hp.swap⟩
theorem Twin.drop (h : Twin w0 w D E L M K) (x : Sc) :
    Calls Tryd.prog 10 #[.pointer (some ⟨D, 0, none⟩), scV x] w fun e w' => e = .returned (.bool (decide (x ∈ L))) ∧ Twin w0 w' D E (dropS L x) M K :=
  h.call fun ns hs he => by
    subst he
    by_cases hx : x ∈ prs ns
    · rw [decide_eq_true hx]
      exact drop_some hs x hx
    · rw [decide_eq_false hx]
      refine (drop_none hs.is_ hs.ord hs.few x hx).mono fun _ _ ⟨he, ho⟩ => ⟨he, ns, hs.keep ho (by simp), by unfold dropS; rw [if_neg hx], ho.mono (by simp), fun b hb => Or.inl hb⟩
theorem Twin.drop2 (h : Twin w0 w D E L M K) (x : Sc) :
    Calls Tryd.prog 10 #[.pointer (some ⟨E, 0, none⟩), scV x] w fun e w' => e = .returned (.bool (decide (x ∈ M))) ∧ Twin w0 w' D E L (dropS M x) K :=
  (h.swap.drop x).mono fun _ _ ⟨he, hp⟩ => ⟨he, hp.swap⟩
theorem Twin.len (h : Twin w0 w D E L M K) :
    Calls Tryd.prog 15 #[.pointer (some ⟨D, 0, none⟩)] w fun e w' => e = .returned (.int .i64 (L.length : Nat)) ∧ w = w' := by
  obtain ⟨ns, ms, h1, rfl, _⟩ := h
  have := h1.is_.len
  simpa [prs] using this
theorem Twin.cut (h : Twin w0 w D E L M K) (i j : Int) (hi : -9223372036854775808 ≤ i ∧ i ≤ 9223372036854775807) (hj : -9223372036854775808 ≤ j ∧ j ≤ 9223372036854775807) :
    Calls Tryd.prog 23 #[.pointer (some ⟨D, 0, none⟩), .int .i64 i, .int .i64 j] w fun e w' => ∃ v, e = .returned v ∧ RowS w' w.heap.size v (cutS L i j) ∧ Twin w0 w' D E L M K ∧ Only [] w w' := by
  have h' := h
  obtain ⟨ns, ms, h1, rfl, _⟩ := h
  exact (cut_any h1.is_ h1.few i j hi hj).mono fun _ _ ⟨v, he, hf⟩ => ⟨v, he, hf.1, h'.same hf.2, hf.2⟩
theorem twin_new (h : Ply w0 w D (.slice none 0 0) [] [] []) (sd : Int) (hu : U sd) :
    Calls Tryd.prog 9 #[.int .u64 sd] w fun e w' => ∃ E, e = .returned (.pointer (some ⟨E, 0, none⟩)) ∧ Twin w0 w' D E [] [] [] ∧ Only [] w w' := by
  obtain ⟨ns, h1, h2, h3, h4, h5, h6, h7⟩ := h
  have hsz := h6.size
  refine (new_any sd hu w).mono fun _ _ ⟨he, k1, k2⟩ => ⟨w.heap.size, he, ⟨ns, [], h1.keep k2 (by simp), h2, k1, rfl, h3, fun b hb => ?_, fun b hb hc => ?_, h6.trans k2 (by simp), fun q hq => by simp at hq⟩, k2⟩
  · have : b = w.heap.size := by simpa [blks] using hb
    omega
  · have : b = w.heap.size := by simpa [blks] using hc
    have := h1.lt hb
    omega
end
theorem ply_new2 {w0 w : World} (ho : Only [] w0 w) (sd : Int) (hu : U sd) :
    Calls Tryd.prog 9 #[.int .u64 sd] w fun e w' => ∃ D, e = .returned (.pointer (some ⟨D, 0, none⟩)) ∧ Ply w0 w' D (.slice none 0 0) [] [] [] ∧ Only [] w w' := by
  refine (new_any sd hu w).mono fun _ _ ⟨he, h1, h2⟩ => ⟨w.heap.size, he, ⟨[], h1, rfl, fun b hb => ?_, rowS_nil _ _, fun k hk => by simp [Value.ownBlock] at hk, ho.trans h2 (by simp), fun q hq => by simp at hq⟩, h2⟩
  have : b = w.heap.size := by simpa [blks] using hb
  have := ho.size
  omega
theorem run_ixA (a : Addr) (k n cap : Nat) (hk : k < n) (x : Int) (hx : x = (k : Int)) (w : World) : Sem.run Tryd.prog (Instr.indexAt 28 (.slice (some a) n cap) (.int .i64 x)) w = .ok (.pointer (some (a.add (k * 2)))) w := by
  subst hx
  go_simp
theorem and_one : ∀ i : Nat, i < 301 → bits .and .i64 (i : Int) 1 = ((i % 2 : Nat) : Int) := by decide +kernel
theorem mem_take_put {L l : List Sc} {i : Nat} {x : Sc} (h : ∀ y, y ∈ L ↔ y ∈ l.take i) (hx : l[i]? = some x) : ∀ y, y ∈ putS L x ↔ y ∈ l.take (i + 1) := by
  intro y
  rw [mem_put, h y, List.take_add_one, hx, List.mem_append]
  simp
  exact Or.comm
theorem cut_thousandW {L : List Sc} (h : L.length ≤ 1000) : cutS L 0 1000 = L := by
  unfold cutS
  rw [List.take_of_length_le (by omega)]
  rfl
theorem putS_leW (L : List Sc) (x : Sc) : (putS L x).length ≤ L.length + 1 := by rw [put_len]; split <;> omega
theorem dropS_leW {L : List Sc} (h : Rises L) (x : Sc) : (dropS L x).length ≤ L.length := by have := drop_len h x; omega
end Go.Proofs.YtijfipghoilpeaaDoor
