/-
  The walk of the law's does: an op in a table. A table's shape; the bounds that Go's own numbers have.
-/
import Derived.Test.YtdldgiicblmknaaDoorSK
namespace Go.Proofs.YtdldgiicblmknaaDoor
open Go.RowKit

/-- What an op makes of a table. -/
structure Did (B : Nat) (X G : Tb) (kd : Int) (key : ByteArray) (v : Int) (w w' : World) : Prop where
  ok : Ok B G w'
  par : Par G
  only : Only X.blocks w w'
  same : G.T = X.T ∧ G.seed = X.seed
  blk : ∀ x ∈ G.blocks, x ∈ X.blocks ∨ w.heap.size ≤ x
  cnt : G.count ≤ X.count + 1
  how : (kd = 0 ∧ ∃ new w1 w2, PutRes B X G key v new w1 w2) ∨ (kd = 1 ∧ ∃ gone w1 w2, DropRes B X G key gone w1 w2) ∨ (kd ≠ 0 ∧ kd ≠ 1 ∧ ∃ m, m = min v.toNat (rem X) ∧ Steps X G m)
theorem did_put {B : Nat} {X G : Tb} {key : ByteArray} {v : Int} {new : Bool} {w w1 w' : World} (h : Ok B X w) (hP : Par X) (ha : Only [] w w1) (hp : PutRes B X G key v new w1 w') : Did B X G 0 key v w w' :=
  ⟨hp.ok, par_put h.inv hP hp, (Only.mono ha (O' := X.blocks) (fun x hx => by cases hx)).trans hp.only (fun x hx => Or.inl hx), hp.same, fun x hx => (hp.blk x hx).imp id (fun h1 => by have := ha.size; omega), by have := count_put hp; rw [this]; split <;> omega, Or.inl ⟨rfl, new, w1, w', hp⟩⟩
theorem did_drop {B : Nat} {X G : Tb} {key : ByteArray} {v : Int} {gone : Bool} {w w1 w' : World} (h : Ok B X w) (hP : Par X) (ha : Only [] w w1) (hp : DropRes B X G key gone w1 w') : Did B X G 1 key v w w' :=
  ⟨hp.ok, par_drop h.inv hP hp, (Only.mono ha (O' := X.blocks) (fun x hx => by cases hx)).trans hp.only (fun x hx => Or.inl hx), hp.same, fun x hx => (hp.blk x hx).imp id (fun h1 => by have := ha.size; omega), by have := count_drop hp; omega, Or.inr (Or.inl ⟨rfl, gone, w1, w', hp⟩)⟩
theorem did_steps {B m : Nat} {X G : Tb} {kd v : Int} {key : ByteArray} {w w1 w' : World} (h : Ok B X w) (hP : Par X) (ha : Only [] w w1) (h0 : kd ≠ 0) (h1 : kd ≠ 1) (hm : m = min v.toNat (rem X)) (hS : Steps X G m) (hG : Ok B G w') (ho : Only X.blocks w1 w') : Did B X G kd key v w w' :=
  ⟨hG, par_steps h.inv hP hS, (Only.mono ha (O' := X.blocks) (fun x hx => by cases hx)).trans ho (fun x hx => Or.inl hx), ⟨hS.T.1, hS.T.2.1⟩, fun x hx => Or.inl (hS.blk x hx), by rw [hS.T.2.2]; omega, Or.inr (Or.inr ⟨h0, h1, m, hm, hS⟩)⟩

set_option maxHeartbeats 2000000 in
theorem does_at {B : Nat} {X : Tb} {w : World} (h : Ok B X w) (hP : Par X) (kd : Int) (key : ByteArray) (v : Int) (hk : key.size ≤ 1000) (hv : -9223372036854775808 ≤ v ∧ v ≤ 9223372036854775807) (hc : X.count + 1 ≤ 1000000) :
    Calls Tryd.prog 11 #[.pointer (some ⟨X.T, 0, none⟩), .agg #[.int .i64 kd, .string key, .int .i64 v]] w fun r w' => ∃ G, r = .returned (.tuple #[]) ∧ Did B X G kd key v w w' := by
  have hH := Lib.hid h
  have hPH := Lib.hid hP
  have hcH := Lib.hid (And.intro hk (And.intro hv hc))
  clear h hP hk hv hc
  by_cases h0 : kd = 0
  · subst h0
    have hal : Only [] w (w.alloc (.cells #[.int .i64 0, .string key, .int .i64 v] 34)) := (Only.refl [] w).alloc _
    have hpt := Lib.hid (put_any (hH.out.on hal (by simp) (by simp)) key hcH.out.1 v hcH.out.2.2)
    have halH := Lib.hid hal
    clear hal
    go_enter Tryd.func11, Tryd.ntmps11
    go_wp2_with (go_at_call 24; ((with_reducible refine (hpt.out).mono ?_); rintro r w4 ⟨G, new, rfl, hG⟩; have hGH := Lib.hid hG; clear hG))
    go_end0
    exact ⟨G, rfl, did_put hH.out hPH.out halH.out hGH.out⟩
  · have hz0 : (kd == 0) = false := by simpa using h0
    have hz1 : decide (kd = 0) = false := by simpa using h0
    by_cases h1 : kd = 1
    · subst h1
      have hal : Only [] w (w.alloc (.cells #[.int .i64 1, .string key, .int .i64 v] 34)) := (Only.refl [] w).alloc _
      have hpt := Lib.hid (drop_any (hH.out.on hal (by simp) (by simp)) key hcH.out.1)
      have halH := Lib.hid hal
      clear hal
      go_enter Tryd.func11, Tryd.ntmps11
      go_wp2_with (go_at_call 25; ((with_reducible refine (hpt.out).mono ?_); rintro r w4 ⟨G, gone, rfl, hG⟩; have hGH := Lib.hid hG; clear hG))
      go_end0
      exact ⟨G, rfl, did_drop hH.out hPH.out halH.out hGH.out⟩
    · have hz2 : (kd == 1) = false := by simpa using h1
      have hz3 : decide (kd = 1) = false := by simpa using h1
      have hal : Only [] w (w.alloc (.cells #[.int .i64 kd, .string key, .int .i64 v] 34)) := (Only.refl [] w).alloc _
      have hst := Lib.hid (steps_any (hH.out.on hal (by simp) (by simp)) v hcH.out.2.1)
      have halH := Lib.hid hal
      clear hal
      go_enter Tryd.func11, Tryd.ntmps11
      go_wp2_with (go_at_call 26; ((with_reducible refine (hst.out).mono ?_); rintro r w4 ⟨m, Y, rfl, hm, hS, hY, ho4⟩; have hSH := Lib.hid (And.intro hm (And.intro hS (And.intro hY ho4))); clear hm hS hY ho4))
      go_end0
      exact ⟨Y, rfl, did_steps hH.out hPH.out halH.out h0 h1 hSH.out.1 hSH.out.2.1 hSH.out.2.2.1 hSH.out.2.2.2⟩

/-- What stays in a table, whatever an op makes of it. -/
theorem Did.view {B : Nat} {X G : Tb} {kd : Int} {k : ByteArray} {v : Int} {w w' : World} (h : Did B X G kd k v w w') {key : ByteArray} (hk : key ∈ kys X.ents) (hno : kd = 1 → k ≠ key) : key ∈ kys G.ents := by
  obtain ⟨o, hV⟩ := view_ex X key
  cases o with
  | none =>
    obtain ⟨e, he, hek⟩ := kys_mem.1 hk
    exact absurd hek (hV e he)
  | some u =>
    rcases h.how with ⟨rfl, new, w1, w2, hp⟩ | ⟨rfl, gone, w1, w2, hp⟩ | ⟨_, _, m, _, hS⟩
    · have := (view_put hp hV).1
      split at this
      · obtain ⟨b, hb⟩ := this; exact kys_mem.2 ⟨_, hb, rfl⟩
      · obtain ⟨b, hb⟩ := this; exact kys_mem.2 ⟨_, hb, rfl⟩
    · have := (view_drop hp hV).1
      rw [if_neg (hno rfl)] at this
      obtain ⟨b, hb⟩ := this; exact kys_mem.2 ⟨_, hb, rfl⟩
    · obtain ⟨b, hb⟩ := hV.perm hS.perm
      exact kys_mem.2 ⟨_, hb, rfl⟩

end Go.Proofs.YtdldgiicblmknaaDoor
