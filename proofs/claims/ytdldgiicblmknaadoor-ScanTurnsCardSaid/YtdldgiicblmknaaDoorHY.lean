/-
  Two tables beside one another: what each keeps while the other is written; their sizes. Mathematics; no condition.
-/
import Derived.Test.YtdldgiicblmknaaDoorHX
namespace Go.Proofs.YtdldgiicblmknaaDoor
open Go.RowKit

/-- Two tables have the same keys and values. -/
def Alike (X Y : Tb) : Prop := ∀ key o, View X key o → View Y key o
/-- A table's sizes, whatever was put: what its places may be behind so many calls. -/
structure Small (X : Tb) : Prop where
  new : X.new = []
  old : X.old.length ≤ 512
theorem small_steps {X Y : Tb} {m : Nat} (hX : Inv X) (h : Small X) (hS : Steps X Y m) : Y = X := by
  have h0 : rem X = 0 := (rem_zero hX).2 h.new
  have := hS.rem
  exact steps_zero hS (by omega)
theorem small_put {B : Nat} {X G : Tb} {k : ByteArray} {v : Int} {new : Bool} {w w' : World} (hX : Inv X) (h : Small X) (hc : X.count + 1 ≤ 300) (hp : PutRes B X G k v new w w') : rem G ≤ 512 ∧ (G.new = [] → G.old.length ≤ 512) ∧ G.new.length ≤ 512 := by
  obtain ⟨Y, m, hS, _, hh⟩ := hp.how
  obtain rfl := small_steps hX h hS
  rcases hh with ⟨_, hv⟩ | ⟨_, _, hcm⟩
  · have hn : G.new = [] := List.length_eq_zero_iff.1 (by rw [hv.len.2.1, h.new]; rfl)
    refine ⟨?_, fun _ => by rw [hv.len.1]; exact h.old, by rw [hn]; simp⟩
    unfold rem; rw [if_pos hn]; omega
  · have hop : openLen Y ≤ 512 := by
      unfold openLen
      split
      · omega
      · exact h.old
    have hop2 : openLen Y < 300 → openLen Y ≤ 256 := by
      unfold openLen
      split
      · omega
      · obtain ⟨k, hk⟩ := hX.good.s0
        rcases hk with ⟨h1, _⟩ | ⟨_, h2, h3⟩
        · omega
        · have hall : ∀ k : Fin 17, pw k.val < 300 → pw k.val ≤ 256 := by decide
          have := hall ⟨k, by omega⟩
          rw [h3]; exact this
    have hol := hcm.old
    rcases hcm.new with ⟨h1, _⟩ | ⟨_, h1, _⟩ | ⟨_, h1, h2, h3⟩
    · exact absurd h.new h1
    · refine ⟨by unfold rem; rw [if_pos h1]; omega, fun _ => by omega, by rw [h1]; simp⟩
    · have hn : G.new ≠ [] := fun hh => by
        rw [hh] at h2
        have : 0 < openLen Y := by
          unfold openLen
          split
          · omega
          · next hno => exact List.length_pos_iff.2 (fun he => hno ⟨h.new, he⟩)
        simp at h2; omega
      refine ⟨by unfold rem; rw [if_neg hn]; omega, fun hh => absurd hh hn, by omega⟩
theorem small_drop {B : Nat} {X G : Tb} {k : ByteArray} {gone : Bool} {w w' : World} (hX : Inv X) (h : Small X) (hp : DropRes B X G k gone w w') : rem G ≤ 512 ∧ (G.new = [] → G.old.length ≤ 512) ∧ G.new.length ≤ 512 := by
  obtain ⟨Y, m, hS, _, hh⟩ := hp.how
  obtain rfl := small_steps hX h hS
  have hold := h.old
  rcases hh with ⟨_, rfl, _⟩ | ⟨_, hw⟩
  · refine ⟨by unfold rem; rw [if_pos h.new]; omega, fun _ => hold, by rw [h.new]; simp⟩
  · have hol := hw.old
    rcases hw.new with ⟨h1, _⟩ | ⟨_, h1, h2⟩
    · have hn : G.new = [] := List.length_eq_zero_iff.1 (by rw [h1, h.new]; rfl)
      refine ⟨by unfold rem; rw [if_pos hn]; omega, fun _ => by omega, by rw [hn]; simp⟩
    · refine ⟨?_, fun _ => by omega, by omega⟩
      unfold rem; split
      · omega
      · omega
theorem small_end {X Y : Tb} {m : Nat} (hX : Inv X) (h1 : rem X ≤ 512) (h2 : X.new = [] → X.old.length ≤ 512) (h3 : X.new.length ≤ 512) (hS : Steps X Y m) (hm : m = min 1000 (rem X)) : Small Y := by
  have hr := hS.rem
  have h0 : rem Y = 0 := by omega
  have hn := (rem_zero hS.inv).1 h0
  refine ⟨hn, ?_⟩
  rcases stepN_len m X hX (by omega) with ⟨h4, h5⟩ | ⟨_, h5, _⟩
  · rw [← hS.eq] at h4 h5
    rw [h5]; exact h2 (List.length_eq_zero_iff.1 (by rw [← h4, hn]; rfl))
  · rw [← hS.eq] at h5
    rw [h5]; exact h3

/-- A table is as it was, while another one is written. -/
theorem Ok.beside {B : Nat} {X Y : Tb} {w w' : World} (h : Ok B X w) (ho : Only Y.blocks w w') (hd : ∀ b ∈ Y.blocks, b ∉ X.blocks) (hz : 0 ∉ Y.blocks) : Ok B X w' := h.on ho (fun b hb hm => hd b hb hm) hz
theorem apart_next {X Y G : Tb} {w : World} (hX : Here X w) (hd : ∀ b ∈ Y.blocks, b ∉ X.blocks) (hb : ∀ x ∈ G.blocks, x ∈ Y.blocks ∨ w.heap.size ≤ x) : ∀ b ∈ G.blocks, b ∉ X.blocks := by
  intro b hg hm
  rcases hb b hg with h | h
  · exact hd b h hm
  · have := hX.lt hm; omega

/-- The two calls put: each tells the same. -/
theorem alike_put {B : Nat} {X Y GX GY : Tb} {k : ByteArray} {v : Int} {nx ny : Bool} {w w' u u' : World} (h : Alike X Y) (hx : PutRes B X GX k v nx w w') (hy : PutRes B Y GY k v ny u u') : nx = ny ∧ Alike GX GY := by
  obtain ⟨o, ho⟩ := view_ex X k
  refine ⟨by rw [(view_put hx ho).2.1 rfl, (view_put hy (h k o ho)).2.1 rfl], ?_⟩
  intro key o' hv
  obtain ⟨o2, ho2⟩ := view_ex X key
  have h1 := (view_put hx ho2).1
  have h2 := (view_put hy (h key o2 ho2)).1
  rw [View.one hx.ok.inv hv h1]
  exact h2
theorem alike_drop {B : Nat} {X Y GX GY : Tb} {k : ByteArray} {nx ny : Bool} {w w' u u' : World} (h : Alike X Y) (hx : DropRes B X GX k nx w w') (hy : DropRes B Y GY k ny u u') : nx = ny ∧ Alike GX GY := by
  obtain ⟨o, ho⟩ := view_ex X k
  refine ⟨by rw [(view_drop hx ho).2.1 rfl, (view_drop hy (h k o ho)).2.1 rfl], ?_⟩
  intro key o' hv
  obtain ⟨o2, ho2⟩ := view_ex X key
  have h1 := (view_drop hx ho2).1
  have h2 := (view_drop hy (h key o2 ho2)).1
  rw [View.one hx.ok.inv hv h1]
  exact h2
/-- How many keys a table has behind a call. -/
theorem count_put {B : Nat} {X G : Tb} {k : ByteArray} {v : Int} {new : Bool} {w w' : World} (h : PutRes B X G k v new w w') : G.count = X.count + (if new = true then 1 else 0) := by
  obtain ⟨Y, m, hS, _, hh⟩ := h.how
  rcases hh with ⟨rfl, hv⟩ | ⟨rfl, _, hc⟩
  · rw [hv.len.2.2.2, hS.T.2.2]; simp
  · rw [hc.count, hS.T.2.2]; simp
theorem count_drop {B : Nat} {X G : Tb} {k : ByteArray} {gone : Bool} {w w' : World} (h : DropRes B X G k gone w w') : G.count + (if gone = true then 1 else 0) = X.count := by
  obtain ⟨Y, m, hS, _, hh⟩ := h.how
  rcases hh with ⟨rfl, rfl, _⟩ | ⟨rfl, hw⟩
  · rw [hS.T.2.2]; simp
  · have := hw.count; rw [hS.T.2.2] at this; simp; exact this

end Go.Proofs.YtdldgiicblmknaaDoor
