/-
  The walk of the law of requests among any bytes. Premises: the library's variable ErrSyntax holds an error, or none.
-/
import Derived.Test.YtjcicbkjngpcoaaGreatDoorRJ
import Derived.Deep.RegionHeld3
namespace Go.Proofs.YtjcicbkjngpcoaaGreatDoor
open Go.RowKit Dec Pq S4

section
variable {A B L : Nat}
/-- What is under way has bytes that were gone past. -/
def Sz (x : Inp) : Prop := x.left ≠ 0 → x.size ≠ 0
theorem step_sz {x y : Inp} {q : List Rq} (hx : Sz x) (h : stepF A B L x = .inr (y, q)) : Sz y := by
  unfold stepF at h
  by_cases h0 : x.left = 0
  · rw [if_pos h0] at h
    cases hr : x.rest with
    | nil => rw [hr] at h; cases h
    | cons c t =>
      rw [hr, startF] at h
      by_cases hc : c = 42
      · rw [if_pos hc] at h
        cases hf : firstF 42 A 7 (c :: t) with
        | inl e => rw [hf] at h; cases h
        | inr p =>
          obtain ⟨n, k⟩ := p
          have hk := firstF_len hf
          rw [hf] at h
          have e := Sum.inr.inj h
          unfold goneM at e
          by_cases hz : n = 0
          · rw [if_pos hz] at e
            obtain ⟨rfl, rfl⟩ := Prod.mk.inj e
            exact fun h => absurd rfl h
          · rw [if_neg hz] at e
            obtain ⟨rfl, rfl⟩ := Prod.mk.inj e
            intro _
            show k ≠ 0
            omega
      · rw [if_neg hc] at h
        cases hf : oneF A B L (c :: t) with
        | inl e => rw [hf] at h; cases h
        | inr p =>
          obtain ⟨l, k⟩ := p
          rw [hf] at h
          have e := Sum.inr.inj h
          unfold goneL at e
          obtain ⟨rfl, rfl⟩ := Prod.mk.inj e
          exact fun h => absurd rfl h
  · have hxx := hx h0
    rw [if_neg h0] at h
    by_cases h1 : x.body = false
    · rw [if_pos h1] at h
      unfold headF at h
      cases hf : firstF 36 B 6 x.rest with
      | inl e => rw [hf] at h; cases h
      | inr p =>
        obtain ⟨k, m⟩ := p
        rw [hf] at h
        obtain ⟨rfl, rfl⟩ := Prod.mk.inj (Sum.inr.inj h)
        intro _
        show x.size + m ≠ 0
        omega
    · rw [if_neg h1] at h
      unfold bodyF bodyG at h
      by_cases hl : x.rest.length < x.need
      · rw [if_pos hl] at h; cases h
      · rw [if_neg hl] at h
        by_cases hz : endsF (x.rest.drop x.need) = 0
        · rw [if_pos hz] at h
          have e := Sum.inr.inj h
          unfold goneB at e
          by_cases h3 : x.left = 1
          · rw [if_pos h3] at e
            obtain ⟨rfl, rfl⟩ := Prod.mk.inj e
            exact fun h => absurd rfl h
          · rw [if_neg h3] at e
            obtain ⟨rfl, rfl⟩ := Prod.mk.inj e
            intro _
            show x.size + x.need + 2 ≠ 0
            omega
        · rw [if_neg hz] at h; cases h
theorem feed_sz : ∀ (n : Nat) (x y : Inp), x.rest.length < n → Sz x → (feedF A B L x).1 = .inr y → Sz y := by
  intro n
  induction n with
  | zero => intro x y h; omega
  | succ n ih =>
    intro x y hx ho hy
    cases hs : stepF A B L x with
    | inl e =>
      by_cases he : e = -1
      · subst he
        rw [feed_stop hs] at hy
        rw [← Sum.inr.inj hy]; exact ho
      · rw [feed_dead hs he] at hy
        cases hy
    | inr p =>
      obtain ⟨z, q⟩ := p
      have hl := step_lt hs
      rw [feed_next hs] at hy
      exact ih z y (by omega) (step_sz ho hs) hy
end
theorem few_all {A B L : Nat} {r : List UInt8} {q : List MR} (h : (feedF A B L (Inp.none r)).2 = q.map rq) (hA : A ≤ 65536) : ∀ p ∈ q, p.1.length ≤ 1000000 := by
  intro p hp
  have := feed_few (A := A) (B := B) (L := L) (r.length + 1) (Inp.none r) (by simp [Inp.none]) (fun h => absurd rfl h) (rq p) (by rw [h]; exact List.mem_map_of_mem hp)
  have h2 := this.2
  simp [rq, txt] at h2
  omega
set_option maxHeartbeats 2000000 in
theorem idle_rest (r : ByteArray) (u : Value) (left size need : Nat) (body : Bool) (d : Int) (w : World) (h : r.toList.isEmpty = false) : Calls Tryz.prog 13 #[.agg #[.string r, u, .int .i64 left, .int .i64 size, .bool body, .int .i64 need, .int .i64 d]] w fun e w' => e = .returned (.bool false) ∧ Below w.heap.size w w' := by
  go_enter Tryz.func13, Tryz.ntmps13
  go_wp2_with fail
  go_ret
  exact ⟨rfl, (Below.refl _ _).alloc (Nat.le_refl _) _⟩
set_option maxHeartbeats 2000000 in
theorem idle_size (r : ByteArray) (a : Option Addr) (n c left size need : Nat) (body : Bool) (d : Int) (w : World) (h : r.toList = []) (hz : 0 < size) : Calls Tryz.prog 13 #[.agg #[.string r, .slice a n c, .int .i64 left, .int .i64 size, .bool body, .int .i64 need, .int .i64 d]] w fun e w' => e = .returned (.bool false) ∧ Below w.heap.size w w' := by
  have hz2 : ((size : Int) == 0) = false := beq_eq_false_iff_ne.2 (by omega)
  by_cases hn : n = 0
  · have hn2 : ((n : Int) == 0) = true := beq_iff_eq.2 (by omega)
    by_cases hl : left = 0
    · have hl2 : ((left : Int) == 0) = true := beq_iff_eq.2 (by omega)
      clear hn hl
      go_enter Tryz.func13, Tryz.ntmps13
      go_wp2_with fail
      go_ret
      exact ⟨rfl, (Below.refl _ _).alloc (Nat.le_refl _) _⟩
    · have hl2 : ((left : Int) == 0) = false := beq_eq_false_iff_ne.2 (by omega)
      clear hn hl
      go_enter Tryz.func13, Tryz.ntmps13
      go_wp2_with fail
      go_ret
      exact ⟨rfl, (Below.refl _ _).alloc (Nat.le_refl _) _⟩
  · have hn2 : ((n : Int) == 0) = false := beq_eq_false_iff_ne.2 (by omega)
    clear hn
    go_enter Tryz.func13, Tryz.ntmps13
    go_wp2_with fail
    go_ret
    exact ⟨rfl, (Below.refl _ _).alloc (Nat.le_refl _) _⟩
set_option maxHeartbeats 2000000 in
theorem idle_dead (d : Int) (w : World) (h : (d == 0) = false) : Calls Tryz.prog 13 #[.agg #[.string ⟨#[]⟩, .slice none 0 0, .int .i64 0, .int .i64 0, .bool false, .int .i64 0, .int .i64 d]] w fun e w' => e = .returned (.bool false) ∧ Below w.heap.size w w' := by
  go_enter Tryz.func13, Tryz.ntmps13
  go_wp2_with fail
  go_ret
  exact ⟨rfl, (Below.refl _ _).alloc (Nat.le_refl _) _⟩
end Go.Proofs.YtjcicbkjngpcoaaGreatDoor
