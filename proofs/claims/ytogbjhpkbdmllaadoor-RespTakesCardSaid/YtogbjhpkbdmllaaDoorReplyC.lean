/-
  Plain mathematics of replies: how much is written of a reply that weighs little, however deep it is (its weight may have wrapped). No condition.
-/
import Derived.Test.YtogbjhpkbdmllaaDoorReplyB
import Derived.IntWalk
namespace Go.Proofs.YtogbjhpkbdmllaaDoor.Rp
open Go.Lib Go.RowKit Dec

section
variable {α : Type}
def wtGo (f : α → Int) : Int → List α → Int
  | n, [] => n
  | n, x :: l => if n < 100000 then wtGo f (wrap64 (n + f x)) l else n
def calmGo (c : α → Prop) (g : α → List UInt8 × Int) : List α → Prop
  | [] => True
  | x :: l => c x ∧ ((g x).2 = 0 → calmGo c g l)
end
/-- How many replies, and bytes, there are, as far as that is not too many. -/
def wtF : (n : Nat) → Rep n → Int
  | 0, _ => 0
  | n + 1, x => wtGo (wtF n) (1 + (x : RNode (Rep n)).txt.length) (x : RNode (Rep n)).sub
/-- No text in which a line's end is looked for is long. -/
def Calm : (n : Nat) → Nat → Rep n → Prop
  | 0, _, _ => True
  | n + 1, w, x => (named (x : RNode (Rep n)) = true → ((x : RNode (Rep n)).kind = 1 ∨ (x : RNode (Rep n)).kind = 2) → (x : RNode (Rep n)).txt.length ≤ 200000) ∧
      (faultF (x : RNode (Rep n)) w = 0 → calmGo (Calm n (w + 1)) (putF n (w + 1)) (x : RNode (Rep n)).sub)

def Tri (d : Int) (v : Int) (r : List UInt8 × Int) (c : Prop) : Prop :=
  (r.2 ≠ 0 ∧ (r.1.length : Int) ≤ 4000000 * d ∧ c) ∨ (r.2 = 0 ∧ 1 ≤ v ∧ v < 100000 ∧ (r.1.length : Int) ≤ 30 * v ∧ c) ∨ (100000 ≤ v ∧ v ≤ 281474976710656 + 100000 * d)
theorem itoa_len {n : Int} (h : inI64 n) : (itoa n).length ≤ 21 := itoa_length_le n h.1 h.2
theorem tri_go {α : Type} {f : α → Int} {g : α → List UInt8 × Int} {c : α → Prop} {d : Int} (hd : 0 ≤ d) (hd2 : d ≤ 9) (l : List α) : ∀ n : Int, 1 ≤ n → n < 100000 → (∀ x ∈ l, Tri d (f x) (g x) (c x)) →
    ((putGo g l).2 ≠ 0 ∧ ((putGo g l).1.length : Int) ≤ 30 * (100000 - n) + 4000000 * d ∧ calmGo c g l) ∨
    ((putGo g l).2 = 0 ∧ n ≤ wtGo f n l ∧ wtGo f n l < 100000 ∧ ((putGo g l).1.length : Int) ≤ 30 * (wtGo f n l - n) ∧ calmGo c g l) ∨
    (100000 ≤ wtGo f n l ∧ wtGo f n l ≤ 281474976710656 + 100000 * (d + 1)) := by
  induction l with
  | nil =>
    intro n h1 h2 _
    exact Or.inr (Or.inl ⟨rfl, Int.le_refl _, h2, by simp [putGo, wtGo], trivial⟩)
  | cons x l ih =>
    intro n h1 h2 h
    rw [putGo, wtGo, if_pos h2]
    rcases h x (by simp) with ⟨a1, a2, a3⟩ | ⟨b1, b2, b3, b4, b5⟩ | ⟨c1, c2⟩
    · left
      rw [if_neg a1]
      exact ⟨a1, by omega, a3, fun e => absurd e a1⟩
    · rw [if_pos b1, IntWalk.wrap64_in _ (by omega)]
      by_cases hb : n + f x < 100000
      · rcases ih (n + f x) (by omega) hb (fun y hy => h y (by simp [hy])) with ⟨a1, a2, a3⟩ | ⟨e1, e2, e3, e4, e5⟩ | e
        · exact Or.inl ⟨a1, by simp only [List.length_append]; push_cast; omega, b5, fun _ => a3⟩
        · exact Or.inr (Or.inl ⟨e1, by omega, e3, by simp only [List.length_append]; push_cast; omega, b5, fun _ => e5⟩)
        · exact Or.inr (Or.inr e)
      · right; right
        have : wtGo f (n + f x) l = n + f x := by
          cases l with
          | nil => rfl
          | cons y l => rw [wtGo, if_neg hb]
        rw [this]
        omega
    · right; right
      rw [IntWalk.wrap64_in _ (by omega)]
      have : wtGo f (n + f x) l = n + f x := by
        cases l with
        | nil => rfl
        | cons y l => rw [wtGo, if_neg (by omega)]
      rw [this]
      omega
theorem calmGo_nil {α : Type} {c : α → Prop} {g : α → List UInt8 × Int} {l : List α} (h : l = []) : calmGo c g l := by subst h; trivial
theorem tri_any (n : Nat) : ∀ (w : Nat) (x : Rep n), w ≤ 8 → Ok n x → Tri (9 - (w : Int)) (wtF n x) (putF n w x) (Calm n w x) := by
  induction n with
  | zero => intro w x; exact x.elim
  | succ n ih =>
    intro w x hw hok
    obtain ⟨h1, h2, h3⟩ := hok
    suffices key : ∀ y : RNode (Rep n), inI64 y.num → y.txt.length ≤ 140737488355328 → (∀ z ∈ y.sub, Ok n z) →
        Tri (9 - (w : Int)) (wtGo (wtF n) (1 + y.txt.length) y.sub) (putN (putF n (w + 1)) y w) ((named y = true → (y.kind = 1 ∨ y.kind = 2) → y.txt.length ≤ 200000) ∧ (faultF y w = 0 → calmGo (Calm n (w + 1)) (putF n (w + 1)) y.sub)) from key x h1 h2 h3
    clear h1 h2 h3 x
    intro y h1 h2 h3
    by_cases hz : faultF y w ≠ 0
    · have hp : putN (putF n (w + 1)) y w = ([], faultF y w) := by unfold putN; rw [if_pos hz]
      rw [hp]
      by_cases hc : named y = true ∧ (y.kind = 1 ∨ y.kind = 2) ∧ 100000 ≤ y.txt.length
      · obtain ⟨hn, hk, hl⟩ := hc
        right; right
        have hs : y.sub = [] := by
          rcases named_cases hn with h | h | h | h | h | h | h
          · exact h.2.2
          · exact h.2.2
          · exact h.2.2
          · exact h.2.2
          · exact h.2.2.2
          · exfalso; rcases hk with e | e <;> · rw [h.1] at e; cases e
          · exact h.2.2.2
        rw [hs]
        simp only [wtGo]
        omega
      · left
        refine ⟨hz, by simp; omega, fun hn hk => ?_, fun e => absurd e hz⟩
        exact Nat.le_of_not_lt fun hl => hc ⟨hn, hk, by omega⟩
    · have hz0 : faultF y w = 0 := by simpa using hz
      obtain ⟨hn, h12, h4, h6, h67⟩ := faultF_named hz0
      have leaf : y.sub = [] → ∀ bs : List UInt8, putN (putF n (w + 1)) y w = (bs, 0) → (bs.length : Int) ≤ 30 * (1 + y.txt.length) →
          Tri (9 - (w : Int)) (wtGo (wtF n) (1 + y.txt.length) y.sub) (putN (putF n (w + 1)) y w) ((named y = true → (y.kind = 1 ∨ y.kind = 2) → y.txt.length ≤ 200000) ∧ (faultF y w = 0 → calmGo (Calm n (w + 1)) (putF n (w + 1)) y.sub)) := by
        intro hs bs hp hb
        rw [hs, hp]
        by_cases hl : 1 + (y.txt.length : Int) < 100000
        · exact Or.inr (Or.inl ⟨rfl, by simp only [wtGo]; omega, by simpa only [wtGo] using hl, by simpa only [wtGo] using hb, fun _ _ => by omega, fun _ => trivial⟩)
        · exact Or.inr (Or.inr ⟨by simp only [wtGo]; omega, by simp only [wtGo]; omega⟩)
      obtain ⟨yk, yn, yt, ys⟩ := y
      simp only at h12 h4 h6 h67 h1 h2 h3 leaf ⊢
      have hnz : ¬ faultF (⟨yk, yn, yt, ys⟩ : RNode (Rep n)) w ≠ 0 := by simpa using hz0
      rcases named_cases hn with ⟨rfl, rfl, rfl⟩ | ⟨rfl, rfl, rfl⟩ | ⟨rfl, rfl, rfl⟩ | ⟨rfl, rfl, rfl⟩ | ⟨rfl, rfl, rfl, rfl⟩ | ⟨rfl, rfl, rfl⟩ | ⟨rfl, rfl, rfl, rfl⟩
      · exact leaf rfl (lineP 43 yt) (by unfold putN; rw [if_neg hnz]; rfl) (by simp [lineP, eol]; omega)
      · exact leaf rfl (lineP 45 yt) (by unfold putN; rw [if_neg hnz]; rfl) (by simp [lineP, eol]; omega)
      · have := itoa_len h1
        exact leaf rfl (lineP 58 (itoa yn)) (by unfold putN; rw [if_neg hnz]; rfl) (by simp [lineP, eol]; omega)
      · have := itoa_len (n := (yt.length : Int)) (by unfold inI64; omega)
        exact leaf rfl (lineP 36 (itoa yt.length) ++ yt ++ eol) (by unfold putN; rw [if_neg hnz]; rfl) (by simp [lineP, eol]; omega)
      · exact leaf rfl (lineP 36 (itoa (-1))) (by unfold putN; rw [if_neg hnz]; rfl) (by have := itoa_len (n := -1) (by unfold inI64; omega); simp [lineP, eol]; omega)
      · have hw8 := h67 (Or.inl rfl)
        have hb := h6 rfl
        have hlen := itoa_len (n := (ys.length : Int)) (by unfold inI64; omega)
        have hp : putN (putF n (w + 1)) (⟨6, 0, [], ys⟩ : RNode (Rep n)) w = (lineP 42 (itoa ys.length) ++ (putGo (putF n (w + 1)) ys).1, (putGo (putF n (w + 1)) ys).2) := by
          unfold putN; rw [if_neg hnz]; rfl
        rw [hp]
        have hgo := tri_go (f := wtF n) (g := putF n (w + 1)) (c := Calm n (w + 1)) (d := 9 - ((w + 1 : Nat) : Int)) (by omega) (by omega) ys (1 + (([] : List UInt8).length : Int)) (by simp) (by simp) (fun z hz' => ih (w + 1) z (by omega) (h3 z hz'))
        have hhead : ((lineP 42 (itoa (ys.length : Int))).length : Int) ≤ 24 := by simp [lineP, eol]; omega
        rcases hgo with ⟨a1, a2, a3⟩ | ⟨e1, e2, e3, e4, e5⟩ | ⟨c1, c2⟩
        · exact Or.inl ⟨a1, by simp only [List.length_append]; push_cast at a2 hhead ⊢; simp at a2; omega, fun _ hk => by simp, fun _ => a3⟩
        · refine Or.inr (Or.inl ⟨e1, by simp at e2 ⊢; omega, e3, ?_, fun _ hk => by simp, fun _ => e5⟩)
          simp only [List.length_append]; push_cast at e4 hhead ⊢; simp at e4 ⊢; omega
        · exact Or.inr (Or.inr ⟨c1, by push_cast at c2; omega⟩)
      · exact leaf rfl (lineP 42 (itoa (-1))) (by unfold putN; rw [if_neg hnz]; rfl) (by have := itoa_len (n := -1) (by unfold inI64; omega); simp [lineP, eol]; omega)
/-- Of a reply that weighs little not much is written. -/
theorem light {n : Nat} {x : Rep n} (hok : Ok n x) (h : wtF n x ≤ 20000) : (putF n 0 x).1.length ≤ 40000000 ∧ Calm n 0 x := by
  rcases tri_any n 0 x (by omega) hok with ⟨_, a, c⟩ | ⟨_, _, b, a, c⟩ | ⟨a, _⟩
  · exact ⟨by omega, c⟩
  · exact ⟨by omega, c⟩
  · omega
/-- What is put whole has no text that is longer than it. -/
theorem calm_go {α : Type} {c : α → Prop} {g : α → List UInt8 × Int} (l : List α) (hc : ∀ x ∈ l, (g x).2 = 0 → (g x).1.length ≤ 200000 → c x) : (putGo g l).2 = 0 → (putGo g l).1.length ≤ 200000 → calmGo c g l := by
  induction l with
  | nil => intro _ _; trivial
  | cons x l ih =>
    intro h hl
    rw [putGo] at h hl
    by_cases hx : (g x).2 = 0
    · rw [if_pos hx] at h hl
      simp only [List.length_append] at hl
      exact ⟨hc x (by simp) hx (by omega), fun _ => ih (fun y hy => hc y (by simp [hy])) h (by omega)⟩
    · rw [if_neg hx] at h; exact absurd h hx
theorem calm_put (n : Nat) : ∀ (w : Nat) (x : Rep n), (putF n w x).2 = 0 → (putF n w x).1.length ≤ 200000 → Calm n w x := by
  induction n with
  | zero => intro w x; exact x.elim
  | succ n ih =>
    intro w x h hl
    suffices key : ∀ y : RNode (Rep n), (putN (putF n (w + 1)) y w).2 = 0 → (putN (putF n (w + 1)) y w).1.length ≤ 200000 →
        ((named y = true → (y.kind = 1 ∨ y.kind = 2) → y.txt.length ≤ 200000) ∧ (faultF y w = 0 → calmGo (Calm n (w + 1)) (putF n (w + 1)) y.sub)) from key x h hl
    clear h hl x
    intro y h hl
    unfold putN at h hl
    by_cases hz : faultF y w ≠ 0
    · rw [if_pos hz] at h; exact absurd h hz
    · rw [if_neg hz] at h hl
      have hz0 : faultF y w = 0 := by simpa using hz
      obtain ⟨hn, h12, h4, h6, h67⟩ := faultF_named hz0
      obtain ⟨yk, yn, yt, ys⟩ := y
      simp only at h12 h4 h6 h67 h hl ⊢
      rcases named_cases hn with ⟨rfl, rfl, rfl⟩ | ⟨rfl, rfl, rfl⟩ | ⟨rfl, rfl, rfl⟩ | ⟨rfl, rfl, rfl⟩ | ⟨rfl, rfl, rfl, rfl⟩ | ⟨rfl, rfl, rfl⟩ | ⟨rfl, rfl, rfl, rfl⟩
      · refine ⟨fun _ _ => ?_, fun _ => trivial⟩
        simp [lineP, eol] at hl; omega
      · refine ⟨fun _ _ => ?_, fun _ => trivial⟩
        simp [lineP, eol] at hl; omega
      · exact ⟨fun _ _ => by simp, fun _ => trivial⟩
      · exact ⟨fun _ hk => by simp at hk, fun _ => trivial⟩
      · exact ⟨fun _ _ => by simp, fun _ => trivial⟩
      · refine ⟨fun _ _ => by simp, fun _ => ?_⟩
        refine calm_go ys (fun z _ hz' hl' => ih (w + 1) z hz' hl') h ?_
        simp only [if_false, Int.reduceEq, List.length_append] at hl
        omega
      · exact ⟨fun _ _ => by simp, fun _ => trivial⟩

end Go.Proofs.YtogbjhpkbdmllaaDoor.Rp
