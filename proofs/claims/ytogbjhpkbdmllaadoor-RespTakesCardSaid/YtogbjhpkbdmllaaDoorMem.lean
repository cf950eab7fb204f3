/-
  How a reply lies in memory: its four cells, and the row of those that it has. No condition.
-/
import Derived.Test.YtogbjhpkbdmllaaDoorReplyC
import Derived.Test.YtogbjhpkbdmllaaDoorWalksE
import Derived.Below
import Derived.Laws.OwnMore
import Derived.Deep.AppendLies
import Derived.Deep.Draws
import Derived.Laws.Rows
import Derived.Laws.AppendOwn
import Derived.Great.FillDense
import Derived.Lib.OthersKept
import Derived.Deep.Cut
namespace Go.Proofs.YtogbjhpkbdmllaaDoor
open Go.RowKit Rp

theorem block_of_add (a : Addr) (n : Nat) : (a.add n).block = a.block := by unfold Addr.add; split <;> rfl
theorem add_of_add (a : Addr) (i j : Nat) : (a.add i).add j = a.add (i + j) := by
  unfold Addr.add
  by_cases hi : i = 0 <;> by_cases hj : j = 0 <;> simp [hi, hj, Nat.add_assoc]

/-- A row of things of four cells each, in blocks of which 'ok' is true. -/
def SubAt (W : World) (ok : Nat → Prop) {α : Type} (f : α → List Value → Prop) (A : Option Addr) (l : List α) : Prop :=
  ∀ i y, l[i]? = some y → ∃ ad c0 c1 c2 c3, A = some ad ∧ ok ad.block ∧ ad.block < W.heap.size ∧
    W.cell? (ad.add (i * 4)) = some c0 ∧ W.cell? ⟨(ad.add (i * 4)).block, (ad.add (i * 4)).off + 1, none⟩ = some c1 ∧ W.cell? ⟨(ad.add (i * 4)).block, (ad.add (i * 4)).off + 2, none⟩ = some c2 ∧
    W.cell? ⟨(ad.add (i * 4)).block, (ad.add (i * 4)).off + 3, none⟩ = some c3 ∧ f y [c0, c1, c2, c3]
def NodeAt (W : World) (ok : Nat → Prop) {α : Type} (f : α → List Value → Prop) (x : RNode α) (cs : List Value) : Prop :=
  ∃ (b : ByteArray) (A : Option Addr) (cap : Nat), cs = [.int .i64 x.kind, .int .i64 x.num, .string b, .slice A x.sub.length cap] ∧ b.data.toList = x.txt ∧ inI64 x.kind ∧ inI64 x.num ∧
    b.size ≤ 140737488355328 ∧ x.sub.length ≤ 140737488355328 ∧ SubAt W ok f A x.sub
/-- A reply's cells. -/
def RAt (W : World) (ok : Nat → Prop) : (n : Nat) → Rep n → List Value → Prop
  | 0, _, _ => False
  | n + 1, x, cs => NodeAt W ok (RAt W ok n) (x : RNode (Rep n)) cs

section
variable {W W' : World} {ok ok' : Nat → Prop} {α : Type}
theorem SubAt.keep {f g : α → List Value → Prop} {A : Option Addr} {l : List α} (h : SubAt W ok f A l) (hk : ∀ p : Addr, ok p.block → p.block < W.heap.size → W'.cell? p = W.cell? p) (hs : W.heap.size ≤ W'.heap.size)
    (hok : ∀ b, ok b → b < W.heap.size → ok' b) (hfg : ∀ y cs, f y cs → g y cs) : SubAt W' ok' g A l := by
  intro i y hy
  obtain ⟨ad, c0, c1, c2, c3, hA, ho, hl, h0, h1, h2, h3, hf⟩ := h i y hy
  have e : ∀ p : Addr, p.block = ad.block → W'.cell? p = W.cell? p := fun p hp => hk _ (by rw [hp]; exact ho) (by rw [hp]; exact hl)
  exact ⟨ad, c0, c1, c2, c3, hA, hok _ ho hl, by omega, (e _ (block_of_add _ _)).trans h0, (e ⟨(ad.add (i * 4)).block, (ad.add (i * 4)).off + 1, none⟩ (block_of_add _ _)).trans h1, (e ⟨(ad.add (i * 4)).block, (ad.add (i * 4)).off + 2, none⟩ (block_of_add _ _)).trans h2, (e ⟨(ad.add (i * 4)).block, (ad.add (i * 4)).off + 3, none⟩ (block_of_add _ _)).trans h3, hfg _ _ hf⟩
theorem RAt.keep {n : Nat} : ∀ {x : Rep n} {cs : List Value}, RAt W ok n x cs → (∀ p : Addr, ok p.block → p.block < W.heap.size → W'.cell? p = W.cell? p) → W.heap.size ≤ W'.heap.size → (∀ b, ok b → b < W.heap.size → ok' b) → RAt W' ok' n x cs := by
  induction n with
  | zero => intro x cs h; exact h.elim
  | succ n ih =>
    intro x cs h hk hs hok
    obtain ⟨b, A, cap, h1, h2, h3, h4, h5, h6, h7⟩ := h
    exact ⟨b, A, cap, h1, h2, h3, h4, h5, h6, h7.keep hk hs hok fun y cs hy => ih hy hk hs hok⟩
theorem RAt.below {n B : Nat} {x : Rep n} {cs : List Value} (h : RAt W (· < B) n x cs) (hb : Below B W W') (_hB : B ≤ W.heap.size) : RAt W' (· < B) n x cs :=
  h.keep (fun _ ho _ => hb.cell ho) hb.size (fun _ h _ => h)
theorem RAt.on {n : Nat} {x : Rep n} {cs : List Value} (h : RAt W ok n x cs) (hb : Below W.heap.size W W') : RAt W' ok n x cs :=
  h.keep (fun _ _ hl => hb.cell hl) hb.size (fun _ h _ => h)
theorem RAt.weaken {n : Nat} {x : Rep n} {cs : List Value} (h : RAt W ok n x cs) (hok : ∀ b, ok b → b < W.heap.size → ok' b) : RAt W ok' n x cs :=
  h.keep (fun _ _ _ => rfl) (Nat.le_refl _) hok
theorem SubAt.on {f g : α → List Value → Prop} {A : Option Addr} {l : List α} (h : SubAt W ok f A l) (hb : Below W.heap.size W W') (hfg : ∀ y cs, f y cs → g y cs) : SubAt W' ok g A l :=
  h.keep (fun _ _ hl => hb.cell hl) hb.size (fun _ h _ => h) hfg
end
end Go.Proofs.YtogbjhpkbdmllaaDoor
