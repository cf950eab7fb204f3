/-
  Rows of names that are read; names that rise; whether two rows are the same. No condition but that a row is not longer than Go's own rows.
-/
import Derived.Test.YthdgfchmglkpaaaChecked
import Derived.Test.YthdgfchmglkpaaaMath
import Derived.Test.YthdgfchmglkpaaaA
import Derived.Test.YthdgfchmglkpaaaB
import Derived.Test.YthdgfchmglkpaaaC
import Derived.Test.YthdgfchmglkpaaaD
import Derived.Test.YthdgfchmglkpaaaE
import Derived.Test.YthdgfchmglkpaaaF
import Derived.WalkKit
import Derived.WalkSpells
import Derived.WalkLawsBesides
import Derived.Deep.QuietTactic
import Derived.BigQuiet
import Derived.Lib.Hide
import Derived.Lib.SmallJoins
import Derived.Outline
import Derived.OwnWalk
import Derived.Deep.CutBlock
import Derived.BigRegion
import Derived.StillTailTactics
import Derived.Laws.AppendOwnNone
import Derived.Maps.AppendAt
import Derived.Deep.RegionLaw
import Derived.Deep.RegionHeld3
import Derived.Lib.BufferRead
import Derived.Deep.AppendLies
namespace Go.Proofs.Ythdgfchmglkpaaa
open Go.RowKit
theorem bl_irr : ∀ x : List UInt8, Op.bytesLess x x = false
  | [] => rfl
  | a :: x => by
    have := bl_irr x
    simp [Op.bytesLess, this]
theorem bl_trans : ∀ x y z : List UInt8, Op.bytesLess x y = true → Op.bytesLess y z = true → Op.bytesLess x z = true
  | _, _, [], _, h => by cases ‹List UInt8› <;> simp [Op.bytesLess] at h
  | [], _, _ :: _, _, _ => rfl
  | _ :: _, [], _ :: _, h, _ => by simp [Op.bytesLess] at h
  | a :: x, b :: y, c :: z, h, k => by
    simp only [Op.bytesLess, Bool.or_eq_true, Bool.and_eq_true, decide_eq_true_eq, beq_iff_eq] at h k ⊢
    rcases h with h | ⟨rfl, h⟩
    · rcases k with k | ⟨rfl, k⟩
      · exact Or.inl (UInt8.lt_trans h k)
      · exact Or.inl h
    · rcases k with k | ⟨rfl, k⟩
      · exact Or.inl k
      · exact Or.inr ⟨rfl, bl_trans x y z h k⟩
theorem bl_total : ∀ x y : List UInt8, x = y ∨ Op.bytesLess x y = true ∨ Op.bytesLess y x = true
  | [], [] => Or.inl rfl
  | [], _ :: _ => Or.inr (Or.inl rfl)
  | _ :: _, [] => Or.inr (Or.inr rfl)
  | a :: x, b :: y => by
    simp only [Op.bytesLess, Bool.or_eq_true, Bool.and_eq_true, decide_eq_true_eq, beq_iff_eq, List.cons.injEq]
    have hab : a < b ∨ a = b ∨ b < a := by
      rcases Nat.lt_trichotomy a.toNat b.toNat with h | h | h
      · exact Or.inl h
      · exact Or.inr (Or.inl (UInt8.toNat_inj.1 h))
      · exact Or.inr (Or.inr h)
    rcases hab with h | h | h
    · exact Or.inr (Or.inl (Or.inl h))
    · subst h
      rcases bl_total x y with k | k | k
      · exact Or.inl ⟨rfl, k⟩
      · exact Or.inr (Or.inl (Or.inr ⟨rfl, k⟩))
      · exact Or.inr (Or.inr (Or.inr ⟨rfl, k⟩))
    · exact Or.inr (Or.inr (Or.inl h))
/-- Texts that rise, each once. -/
def RiseS (l : List ByteArray) : Prop := l.Pairwise fun a b => Op.bytesLess a.toList b.toList = true
theorem rise_eq : ∀ {l m : List ByteArray}, RiseS l → RiseS m → (∀ k, k ∈ l ↔ k ∈ m) → l = m
  | [], [], _, _, _ => rfl
  | [], b :: m, _, _, h => absurd ((h b).2 List.mem_cons_self) (by simp)
  | a :: l, [], _, _, h => absurd ((h a).1 List.mem_cons_self) (by simp)
  | a :: l, b :: m, hl, hm, h => by
    have hl' := List.pairwise_cons.1 hl
    have hm' := List.pairwise_cons.1 hm
    have hab : a = b := by
      rcases List.mem_cons.1 ((h a).1 List.mem_cons_self) with h1 | h1
      · exact h1
      rcases List.mem_cons.1 ((h b).2 List.mem_cons_self) with h2 | h2
      · exact h2.symm
      have := bl_trans _ _ _ (hl'.1 b h2) (hm'.1 a h1)
      rw [bl_irr] at this
      cases this
    subst hab
    have hn : ∀ {l : List ByteArray}, (∀ x ∈ l, Op.bytesLess a.toList x.toList = true) → a ∉ l := fun h1 h2 => by
      have := h1 a h2
      rw [bl_irr] at this
      cases this
    congr 1
    refine rise_eq hl'.2 hm'.2 (fun k => ⟨fun hk => ?_, fun hk => ?_⟩)
    · rcases List.mem_cons.1 ((h k).1 (List.mem_cons_of_mem _ hk)) with h1 | h1
      · subst h1; exact absurd hk (hn hl'.1)
      · exact h1
    · rcases List.mem_cons.1 ((h k).2 (List.mem_cons_of_mem _ hk)) with h1 | h1
      · subst h1; exact absurd hk (hn hm'.1)
      · exact h1
theorem rise_nodup {l : List ByteArray} (h : RiseS l) : l.Nodup := List.Pairwise.imp (fun {a b} hab e => by subst e; rw [bl_irr] at hab; cases hab) h
theorem rise_at {l : List ByteArray} (h : RiseS l) {i : Nat} {x y : ByteArray} (hx : l[i]? = some x) (hy : l[i + 1]? = some y) : Op.bytesLess x.toList y.toList = true := by
  obtain ⟨h1, rfl⟩ := List.getElem?_eq_some_iff.1 hx
  obtain ⟨h2, rfl⟩ := List.getElem?_eq_some_iff.1 hy
  exact List.pairwise_iff_getElem.1 h i (i + 1) h1 h2 (Nat.lt_succ_self _)
/-- The names of the files that count, rising. -/
structure NamesOf (L : List Fl) (ns : List ByteArray) : Prop where
  rise : RiseS ns
  mem : ∀ k, k ∈ ns ↔ k ∈ L.map (·.1)
theorem NamesOf.len {L : List Fl} {ns : List ByteArray} (h : NamesOf L ns) : ns.length = (filesF L).length := by
  have hp : ns.Perm ((filesF L).map (·.1)) := (List.perm_ext_iff_of_nodup (rise_nodup h.rise) (files_uniq L)).2 (fun k => by rw [h.mem k, files_names])
  have := hp.length_eq
  rwa [List.length_map] at this
theorem NamesOf.same {L M : List Fl} {ns ms : List ByteArray} (h : NamesOf L ns) (g : NamesOf M ms) (hk : ∀ k, k ∈ L.map (·.1) ↔ k ∈ M.map (·.1)) : ns = ms := rise_eq h.rise g.rise (fun k => by rw [h.mem, g.mem, hk])
/-- A row of texts that is read. -/
def StrsAt (W : World) (A : Option Addr) (ss : List ByteArray) : Prop := ∀ i x, ss[i]? = some x → ∃ a, A = some a ∧ a.block < W.heap.size ∧ W.cell? (a.add i) = some (.string x)
theorem StrsAt.on {W W' : World} {A : Option Addr} {ss : List ByteArray} (h : StrsAt W A ss) (hb : Below W.heap.size W W') : StrsAt W' A ss := fun i x hi => by
  obtain ⟨a, h1, h2, h3⟩ := h i x hi
  exact ⟨a, h1, Nat.lt_of_lt_of_le h2 hb.size, (hb.cell (p := a.add i) (by rw [add_block]; exact h2)).trans h3⟩
theorem run_ixS (a : Addr) (k n c : Nat) (hk : k < n) (w : World) : Sem.run Try.prog (Instr.indexAt 44 (.slice (some a) n c) (.int .i64 (k : Int))) w = .ok (.pointer (some (a.add k))) w := by
  go_simp
set_option maxRecDepth 100000 in
set_option maxHeartbeats 4000000 in
/-- The same texts. -/
theorem tsame_any {w : World} {A A' : Option Addr} {c c' : Nat} {ss : List ByteArray} (h : StrsAt w A ss) (h' : StrsAt w A' ss) (hl : ss.length ≤ 140737488355328) :
    Calls Try.prog 18 #[.slice A ss.length c, .slice A' ss.length c'] w fun e w' => e = .returned (.bool true) ∧ Below w.heap.size w w' := by
  have hSH := Lib.hid h
  have hSH' := Lib.hid h'
  have k1 : ((ss.length : Int) == (ss.length : Int)) = true := by simp
  have k2 : ((ss.length : Int) != (ss.length : Int)) = false := by simp
  clear h h'
  go_enter Try.func18, Try.ntmps18
  go_wp2_with fail
  go_loopw [5] (fun i wr => ∃ k : Nat, i = .int .i64 k ∧ k ≤ ss.length ∧ Hid (∃ n, wr = w.drewN n)) (fun i _ => ss.length - (intOf i).toNat)
  case atStart => exact ⟨0, rfl, by omega, Lib.hid ⟨0, rfl⟩⟩
  case round =>
    obtain ⟨k, rfl, hk, hW⟩ := hrel
    obtain ⟨n, hm⟩ := hW.out
    by_cases hlt : k < ss.length
    · obtain ⟨x, hx⟩ : ∃ x, ss[k]? = some x := ⟨_, List.getElem?_eq_getElem hlt⟩
      obtain ⟨a, rfl, _, hc⟩ := hSH.out k x hx
      obtain ⟨b, rfl, _, hd⟩ := hSH'.out k x hx
      have hix := run_ixS a k ss.length c hlt
      have hix' := run_ixS b k ss.length c' hlt
      have hw0 : wr.cell? (a.add k) = some (.string x) := by rw [hm]; exact hc
      have hw1 : wr.cell? (b.add k) = some (.string x) := by rw [hm]; exact hd
      have hltH := Lib.hid hlt
      have hdr : Hid (∀ n, ∃ m, wr.drewN n = w.drewN m) := Lib.hid (fun n' => ⟨n + n', by rw [hm]; exact World.drewN_drewN _ _ _⟩)
      have dk : decide ((k : Int) < (ss.length : Int)) = true := decide_eq_true (by omega)
      have dk2 : decide (k < ss.length) = true := decide_eq_true hlt
      have q1 : (x.toList == x.toList) = true := by simp
      have q2 : (x.toList != x.toList) = false := by simp
      clear hx hlt hm hc hd
      go_wp2_with fail
      go_quiet (fail)
      go_wp2_with fail
      go_roundw
      case rel => exact ⟨k + 1, by go_num, by have := hltH.out; omega, Lib.hid (hdr.out _)⟩
      case measure => have := hltH.out; simp [intOf]; omega
    · have dk : decide ((k : Int) < (ss.length : Int)) = false := decide_eq_false (by omega)
      have dk2 : decide (k < ss.length) = false := decide_eq_false hlt
      have hbw : Hid (Below w.heap.size w wr) := Lib.hid (by rw [hm]; exact below_drewN (Below.refl _ _) n)
      clear hlt hm
      go_wp2_with fail
      go_ret
      exact ⟨rfl, hbw.out⟩
end Go.Proofs.Ythdgfchmglkpaaa
