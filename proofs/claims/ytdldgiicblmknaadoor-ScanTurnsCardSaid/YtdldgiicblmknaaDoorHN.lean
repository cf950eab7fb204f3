/-
  Where a key's entry is; the walk of Get. The table of factors holds what the program's text lays; a table's shape.
-/
import Derived.Test.YtdldgiicblmknaaDoorHM
namespace Go.Proofs.YtdldgiicblmknaaDoor
open Go.RowKit

def lk (p : Addr) : List En → Addr
  | [] => p
  | e :: L => lk ⟨e.1, 2, none⟩ L
theorem fnd_some {key : ByteArray} : ∀ {c : List En} {p a : Addr}, fnd key p c = some a → ∃ A e B, c = A ++ e :: B ∧ e.2.1 = key ∧ a = lk p A := by
  intro c
  induction c with
  | nil => intro p a h; simp [fnd] at h
  | cons x c ih =>
    intro p a h
    unfold fnd at h
    split at h
    · next hk => exact ⟨[], x, c, rfl, hk, (Option.some.inj h).symm⟩
    · obtain ⟨A, e, B, rfl, hk, ha⟩ := ih h
      exact ⟨x :: A, e, B, rfl, hk, ha⟩
theorem fnd_none {key : ByteArray} : ∀ {c : List En} {p : Addr}, fnd key p c = none → ∀ e ∈ c, e.2.1 ≠ key := by
  intro c
  induction c with
  | nil => intro p _ e he; cases he
  | cons x c ih =>
    intro p h e he
    unfold fnd at h
    split at h
    · cases h
    · next hk =>
      rcases List.mem_cons.1 he with rfl | he
      · exact hk
      · exact ih h e he
theorem lk_cell {w : World} : ∀ {A : List En} {p : Addr} {e : En} {B : List En}, w.cell? p = some (.pointer (hd (A ++ e :: B))) → ChainAt w (A ++ e :: B) → w.cell? (lk p A) = some (.pointer (some ⟨e.1, 0, none⟩)) := by
  intro A
  induction A with
  | nil => intro p e B h _; exact h
  | cons x A ih =>
    intro p e B _ hc
    exact ih (entry_facts hc.head).2.2.1 hc.tail
theorem lk_frozen {w : World} : ∀ {A : List En} {p : Addr} {e : En} {B : List En}, w.frozen? p = false → ChainAt w (A ++ e :: B) → w.frozen? (lk p A) = false := by
  intro A
  induction A with
  | nil => intro p e B h _; exact h
  | cons x A ih =>
    intro p e B _ hc
    exact ih (entry_facts hc.head).2.2.2.2.2 hc.tail
theorem lk_block : ∀ (A : List En) (p : Addr), (lk p A).block = p.block ∨ (lk p A).block ∈ A.map Prod.fst := by
  intro A
  induction A with
  | nil => intro p; exact Or.inl rfl
  | cons x A ih =>
    intro p
    rcases ih ⟨x.1, 2, none⟩ with h | h
    · exact Or.inr (by rw [lk, h]; simp)
    · exact Or.inr (by rw [lk]; exact List.mem_cons_of_mem _ h)

theorem chain_suffix {w : World} : ∀ {A C : List En}, ChainAt w (A ++ C) → ChainAt w C := by
  intro A
  induction A with
  | nil => intro C h; exact h
  | cons x A ih => intro C h; exact ih h.tail
/-- A key's entry is at a chain of the old places, or of the new ones. -/
structure Loc (p : Option Nat) (l : List (List En)) (key : ByteArray) (a : Addr) (b M : Nat) (A : List En) (e : En) (B : List En) : Prop where
  p : p = some b
  at_ : l[M]? = some (A ++ e :: B)
  key : e.2.1 = key
  a : a = lk ⟨b, M, none⟩ A
theorem fndH_some {key : ByteArray} {H : Nat} {p : Option Nat} {l : List (List En)} {a : Addr} (hl : p ≠ none → 0 < l.length) (h : fndH key H (adr p) l = some a) : ∃ b M A e B, Loc p l key a b M A e B := by
  cases p with
  | none => simp [fndH, adr] at h
  | some b =>
    have hM := Nat.mod_lt H (hl (by simp))
    simp only [fndH, adr, Option.map_some] at h
    obtain ⟨A, e, B, hc, hk, ha⟩ := fnd_some h
    exact ⟨b, H % l.length, A, e, B, rfl, by rw [← hc]; simp [hM], hk, ha⟩
theorem fndH_none {key : ByteArray} {seed : Int} {p : Option Nat} {l : List (List En)} (hl : p = none → l = []) (hp : PlOk seed l) (h : fndH key (num seed key) (adr p) l = none) : ∀ e ∈ l.flatten, e.2.1 ≠ key := by
  intro e he hk
  obtain ⟨c, hc, hec⟩ := List.mem_flatten.1 he
  obtain ⟨i, hi⟩ := List.getElem?_of_mem hc
  have hm := hp i c hi e hec
  cases p with
  | none => rw [hl rfl] at hc; cases hc
  | some b =>
    simp only [fndH, adr, Option.map_some] at h
    rw [hk] at hm
    rw [hm] at h
    have : l.getD i [] = c := by simp [hi]
    rw [this] at h
    exact fnd_none h e hec hk
theorem find_some {X : Tb} {w : World} (h : Here X w) {key : ByteArray} {H : Nat} {a : Addr} (hf : fndT key H (adr X.p0) (adr X.p1) X.old X.new = some a) :
    (∃ b M A e B, Loc X.p0 X.old key a b M A e B) ∨ (∃ b M A e B, Loc X.p1 X.new key a b M A e B) := by
  unfold fndT at hf
  split at hf
  · next p hp =>
    cases hf
    exact Or.inl (fndH_some (fun hn => List.length_pos_iff.2 (fun he => hn (h.p0.2 he))) hp)
  · exact Or.inr (fndH_some (fun hn => List.length_pos_iff.2 (fun he => hn (h.p1.2 he))) hf)
theorem find_none {X : Tb} {w : World} (h : Here X w) (hi : Inv X) {key : ByteArray} (hf : fndT key (num X.seed key) (adr X.p0) (adr X.p1) X.old X.new = none) : ∀ e ∈ X.ents, e.2.1 ≠ key := by
  unfold fndT at hf
  split at hf
  · cases hf
  · next hp =>
    intro e he
    unfold Tb.ents at he
    rw [hi.ext, List.append_nil] at he
    rcases List.mem_append.1 he with he | he
    · exact fndH_none (fun h1 => h.p0.1 h1) hi.pl0 hp e he
    · exact fndH_none (fun h1 => h.p1.1 h1) hi.pl1 hf e he
theorem Loc.mem {p : Option Nat} {l : List (List En)} {key : ByteArray} {a : Addr} {b M : Nat} {A : List En} {e : En} {B : List En} (h : Loc p l key a b M A e B) : e ∈ l.flatten :=
  List.mem_flatten.2 ⟨_, List.mem_of_getElem? h.at_, by simp⟩
/-- What find tells: the cell that points to the entry. -/
theorem find_at {X : Tb} {w : World} (h : Here X w) {key : ByteArray} {H : Nat} {a : Addr} (hf : fndT key H (adr X.p0) (adr X.p1) X.old X.new = some a) :
    ∃ e ∈ X.ents, e.2.1 = key ∧ w.cell? a = some (.pointer (some ⟨e.1, 0, none⟩)) ∧ w.frozen? a = false ∧ ∃ q, w.heap[e.1]? = some (entry e q) := by
  rcases find_some h hf with ⟨b, M, A, e, B, hl⟩ | ⟨b, M, A, e, B, hl⟩
  · have hpl := h.at_ _ (mem_p0 hl.p)
    obtain ⟨pc, pf⟩ := pl_cell hpl hl.at_
    have hch : ChainAt w (A ++ e :: B) := fun q hq => h.at_ q (mem_old (List.mem_of_getElem? hl.at_) hq)
    rw [hl.a]
    exact ⟨e, List.mem_append_left _ hl.mem, hl.key, lk_cell pc hch, lk_frozen pf hch, _, (chain_suffix hch).head⟩
  · have hpl := h.at_ _ (mem_p1 hl.p)
    obtain ⟨pc, pf⟩ := pl_cell hpl hl.at_
    have hch : ChainAt w (A ++ e :: B) := fun q hq => h.at_ q (mem_new (List.mem_of_getElem? hl.at_) hq)
    rw [hl.a]
    exact ⟨e, List.mem_append_right _ (List.mem_append_left _ hl.mem), hl.key, lk_cell pc hch, lk_frozen pf hch, _, (chain_suffix hch).head⟩

theorem kb {k : ByteArray} (h : k.size ≤ 1000) : k.size ≤ maxLen := by unfold maxLen; omega
theorem find_ok {B : Nat} {X : Tb} {w : World} (h : Ok B X w) (key : ByteArray) : Calls Tryd.prog 43 #[.pointer (some ⟨X.T, 0, none⟩), .string key, .int .u64 ((num X.seed key : Nat) : Int)] w fun e w' => e = .returned (.pointer (fndT key (num X.seed key) (adr X.p0) (adr X.p1) X.old X.new)) ∧ w = w' := by
  obtain ⟨k0, hk0⟩ := h.inv.good.s0
  obtain ⟨k1, hk1⟩ := h.inv.good.s1
  exact find_any w h.live.here.tab h.live.here.half0 h.live.here.half1 hk0 hk1 key _ (num_int _ _).2


end Go.Proofs.YtdldgiicblmknaaDoor
