/-
  A heap of keys with times: what a set, a push, a taking out leave to be put right, and what the row in order is behind it. Mathematics; no program, no condition.
-/
import Derived.Test.YtbaghdfalhlhcaaMathD
namespace Go.Proofs.Ytbaghdfalhlhcaa

theorem el_set_at {h : List Sc} {i : Nat} (hi : i < h.length) (y : Sc) : el (h.set i y) i = y := el_at (by rw [List.getElem?_set, if_pos rfl, if_pos hi])
theorem el_set_other {h : List Sc} {i k : Nat} (hk : k ≠ i) (y : Sc) : el (h.set i y) k = el h k := by
  unfold el
  rw [List.getElem?_set, if_neg (fun e => hk e.symm)]
theorem el_push_other {h : List Sc} {k : Nat} (hk : k < h.length) (y : Sc) : el (h ++ [y]) k = el h k := by
  unfold el
  rw [List.getElem?_append_left hk]
theorem el_push_at (h : List Sc) (y : Sc) : el (h ++ [y]) h.length = y := el_at (by rw [List.getElem?_append_right (Nat.le_refl _), Nat.sub_self]; rfl)
theorem el_out_other {h : List Sc} {i k : Nat} (hk : k < h.length - 1) (hi : k ≠ i) : el (outL h i) k = el h k := by
  unfold el
  rw [outL_get hk, if_neg hi]
theorem el_out_at {h : List Sc} {i : Nat} (hi : i < h.length - 1) : el (outL h i) i = el h (h.length - 1) := el_at (by rw [outL_get hi, if_pos rfl])
/-- A thing is turned at its place. -/
theorem mid_set {h : List Sc} (hh : Hp (el h) h.length) {i : Nat} (hi : i < h.length) (y : Sc) : Mid (el (h.set i y)) h.length i :=
  Mid.of hh (Nat.le_refl _) (fun _ _ hk => el_set_other hk y) hi
/-- A thing comes at the end. -/
theorem up_push {h : List Sc} (hh : Hp (el h) h.length) (y : Sc) : Up (el (h ++ [y])) (h.length + 1) h.length :=
  Up.push hh (fun _ hk => el_push_other hk y)
/-- The last one comes in another's place. -/
theorem mid_out {h : List Sc} (hh : Hp (el h) h.length) {i : Nat} (hi : i < h.length - 1) : Mid (el (outL h i)) (h.length - 1) i :=
  Mid.of hh (by omega) (fun _ hk he => el_out_other hk he) hi
/-- The last one goes. -/
theorem hp_out {h : List Sc} (hh : Hp (el h) h.length) : Hp (el (outL h (h.length - 1))) (h.length - 1) := by
  intro j h0 hj
  rw [el_out_other (by omega) (by omega), el_out_other hj (by omega)]
  exact hh j h0 (by omega)
theorem HR.after_set {h r h2 : List Sc} (k : HR h r) {i : Nat} {x : Sc} (hx : h[i]? = some x) {t : Int} (hp : h2.Perm (h.set i (x.1, t))) (hh : Hp (el h2) h2.length) : HR h2 (setK r x.1 t) :=
  ⟨hh, setK_rises k.ord _ _, setK_uniq k.uniq _ _, hp.trans (set_perm k.perm k.uq hx t)⟩
theorem HR.after_push {h r h2 : List Sc} (k : HR h r) {key : ByteArray} (hk : ∀ x ∈ h, x.1 ≠ key) {t : Int} (hp : h2.Perm (h ++ [(key, t)])) (hh : Hp (el h2) h2.length) : HR h2 (setK r key t) :=
  ⟨hh, setK_rises k.ord _ _, setK_uniq k.uniq _ _, hp.trans (push_perm k.perm hk t)⟩
theorem HR.after_out {h r h2 : List Sc} (k : HR h r) {i : Nat} {x : Sc} (hx : h[i]? = some x) (hp : h2.Perm (outL h i)) (hh : Hp (el h2) h2.length) : HR h2 (dropK r x.1) :=
  ⟨hh, dropK_rises k.ord _, dropK_uniq k.uniq _, hp.trans (out_perm k.perm k.uq hx)⟩
theorem HR.after_pop {h r h2 : List Sc} (k : HR h r) (hn : 0 < h.length) (hp : h2.Perm (outL h 0)) (hh : Hp (el h2) h2.length) : HR h2 (r.drop 1) := by
  have h0 := el_get hn
  have hf := k.first
  rw [h0] at hf
  have := k.after_out h0 hp hh
  rw [dropK_first k.uniq hf.symm] at this
  exact this
/-- The time of a key that stands at a place. -/
theorem HR.at_ {h r : List Sc} (k : HR h r) {i : Nat} {x : Sc} (hx : h[i]? = some x) : atK r x.1 = some x.2 := (atK_iff k.uniq).2 (k.mem.1 (List.mem_of_getElem? hx))
theorem HR.at_none {h r : List Sc} (k : HR h r) {key : ByteArray} (hk : ∀ x ∈ h, x.1 ≠ key) : atK r key = none := atK_none.2 (fun x hx => hk x (k.mem.2 hx))
end Go.Proofs.Ytbaghdfalhlhcaa
