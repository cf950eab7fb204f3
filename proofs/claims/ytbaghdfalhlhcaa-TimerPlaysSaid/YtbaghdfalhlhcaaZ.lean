/-
  The law Plays: each answer, and all keys in order, is the document's.
-/
import Derived.Test.YtbaghdfalhlhcaaY
import Derived.Test.YtbaghdfalhlhcaaW
import Derived.Test.YtbaghdfalhlhcaaSN
namespace Go.Proofs.Ytbaghdfalhlhcaa
open Go.RowKit

variable {w0 w : World} {p : Nat} {r : Value} {L R : List Sc} {K : List (Nat × Obj)}
theorem Ply.start {O : List Nat} (h : Pl w0 w p O []) : Ply w0 w p (.slice none 0 0) [] [] [] :=
  ⟨O, h, rowS_nil _ _, fun k hk => by simp [Value.ownBlock] at hk, fun q hq => by simp at hq⟩
theorem Ply.fresh {w' : World} {r' : Value} {R' : List Sc} (h : Ply w0 w p r L R K) (hf : FreshS w r' R' w') : Ply w0 w' p r' L R' K := by
  obtain ⟨O, h1, h2, h3, h4⟩ := h
  refine ⟨O, h1.same hf.2, hf.1.base h1.most.size, fun k hk hm => ?_, fun q hq => ⟨hf.2.keep (h4 q hq).1 (by simp), (h4 q hq).2⟩⟩
  have := (hf.1.lt k hk).1
  have := h1.lt hm
  omega
theorem Ply.rset (h : Ply w0 w p r L R K) (hn : R.length ≤ 1000000) (hu : Uniq R) (hr : Rises R) (key : ByteArray) (t : Int) :
    Calls Try.prog 11 #[r, .string key, .int .i64 t] w fun e w' => ∃ r', e = .returned (.tuple #[r', .bool (!(atK R key).isSome)]) ∧ Ply w0 w' p r' L (setK R key t) K :=
  (rset_new h.rows h.most.size hn hu hr key t).mono fun _ _ ⟨r', he, h1, h2⟩ => ⟨r', he, h.fresh ⟨h1, h2⟩⟩
theorem Ply.rdrop (h : Ply w0 w p r L R K) (hn : R.length ≤ 1000000) (hu : Uniq R) (key : ByteArray) :
    Calls Try.prog 13 #[r, .string key] w fun e w' => ∃ r', e = .returned (.tuple #[r', .bool (atK R key).isSome]) ∧ Ply w0 w' p r' L (dropK R key) K := by
  cases hq : atK R key with
  | none =>
    rw [dropK_none (atK_none.1 hq)]
    refine (rdrop_none h.rows hn key (atK_none.1 hq)).mono ?_
    rintro e w' ⟨rfl, rfl⟩
    exact ⟨r, rfl, h⟩
  | some t =>
    obtain ⟨i, h1, h2⟩ := key_first hu hq
    refine (rdrop_some h.rows hn key h1 h2).mono ?_
    rintro e w' ⟨r', rfl, hf⟩
    have := dropK_at hu h1
    simp only at this
    rw [this]
    exact ⟨r', rfl, h.fresh hf⟩
theorem Ply.rat (h : Ply w0 w p r L R K) (hn : R.length ≤ 1000000) (hu : Uniq R) (key : ByteArray) :
    Calls Try.prog 18 #[r, .string key] w fun e w' => e = .returned (atV R key) ∧ w = w' :=
  rat_any h.rows hn hu key
/-- Beside them a row of texts that the document told. -/
def PlyU (w0 w : World) (p : Nat) (r : Value) (L R : List Sc) (K : List (Nat × Obj)) (u : Value) (X : List ByteArray) : Prop :=
  ∃ O, Pl w0 w p O L ∧ RowS w w0.heap.size r R ∧ (∀ k, r.ownBlock = some k → k ∉ O) ∧ (∀ q ∈ K, w.heap[q.1]? = some q.2 ∧ q.1 ∉ O) ∧ (∃ B, RowT w B u X) ∧ ∀ q, u.ownBlock = some q → q ∉ O
theorem PlyU.ply {u : Value} {X : List ByteArray} (h : PlyU w0 w p r L R K u X) : Ply w0 w p r L R K := by
  obtain ⟨O, h1, h2, h3, h4, _⟩ := h
  exact ⟨O, h1, h2, h3, h4⟩
theorem Ply.rdue (h : Ply w0 w p r L R K) (hn : R.length ≤ 1000000) (hr : Rises R) (now : Int) :
    Calls Try.prog 14 #[r, .int .i64 now] w fun e w' => ∃ r' u, e = .returned (.tuple #[r', u]) ∧ PlyU w0 w' p r' L (R.drop (dueN R now)) K u ((R.take (dueN R now)).map Prod.fst) := by
  obtain ⟨O, h1, h2, h3, h4⟩ := h
  refine (rdue_new h2 h1.most.size hn hr now).mono ?_
  rintro e w' ⟨r', u, rfl, d, hv⟩
  refine ⟨r', u, rfl, O, h1.same d.only, d.row, fun k hk hm => ?_, fun q hq => ⟨d.only.keep (h4 q hq).1 (by simp), (h4 q hq).2⟩, ⟨_, d.out⟩, fun q hq hm => ?_⟩
  · rcases hv with rfl | hv
    · exact h3 k hk hm
    · have := hv k hk
      have := h1.lt hm
      omega
  · have := (d.out.lt q hq).1
    have := h1.lt hm
    omega
theorem PlyU.due {u : Value} {X : List ByteArray} (h : PlyU w0 w p r L R K u X) (now : Int) :
    Calls Try.prog 16 #[.pointer (some ⟨p, 0, none⟩), .int .i64 now] w fun e w' => ∃ u', e = .returned u' ∧ (∃ B, RowT w' B u' ((L.take (dueN L now)).map Prod.fst)) ∧ (∃ B, RowT w' B u X) ∧ Ply w0 w' p r (L.drop (dueN L now)) R K := by
  obtain ⟨O, h1, h2, h3, h4, ⟨B, h5⟩, h6⟩ := h
  refine (h1.due now).mono ?_
  rintro e w' ⟨u', rfl, k2, O', k1, m, _⟩
  exact ⟨u', rfl, ⟨_, k2⟩, ⟨B, h5.only m.1 h6⟩, Ply.moved h2 h3 h4 k1 m⟩
theorem Ply.tsame {u u' : Value} {X : List ByteArray} (h : Ply w0 w p r L R K) (hu : ∃ B, RowT w B u X) (hu' : ∃ B, RowT w B u' X) (hl : X.length ≤ 1000000) :
    Calls Try.prog 15 #[u, u'] w fun e w' => e = .returned (.bool true) ∧ Ply w0 w' p r L R K := by
  obtain ⟨B, hu⟩ := hu
  obtain ⟨B', hu'⟩ := hu'
  exact (tsame_any hu hu' hl).mono fun _ _ ⟨he, ho⟩ => ⟨he, h.same ho⟩
theorem atV_form (L : List Sc) (k : ByteArray) : atV L k = .tuple #[.int .i64 ((atK L k).getD 0), .bool (atK L k).isSome] := by
  unfold atV
  cases atK L k <;> rfl
end Go.Proofs.Ytbaghdfalhlhcaa
