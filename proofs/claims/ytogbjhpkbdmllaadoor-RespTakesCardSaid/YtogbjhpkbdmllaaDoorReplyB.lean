/-
  Plain mathematics of replies: what is cut off is too short; what is taken is put so; what is put is taken. No condition.
-/
import Derived.Test.YtogbjhpkbdmllaaDoorReply
namespace Go.Proofs.YtogbjhpkbdmllaaDoor.Rp
open Go.Lib Dec

/-! ### What is cut off -/
section
variable {lo hi ab : Int}
theorem endF_keep {a b : List UInt8} (h : endF (a ++ b) = 0) (hl : 2 ≤ a.length) : endF a = 0 := by
  obtain ⟨t, ht⟩ := endF_zero h
  match a, hl, ht with
  | c :: d :: a, _, ht =>
    simp only [List.cons_append, List.cons.injEq] at ht
    rw [ht.1, ht.2.1]; exact endF_eol _
theorem decGo_keep (a : List UInt8) : ∀ (pre b : List UInt8) (n : Int) (k : Nat), decGo lo hi ab pre (a ++ b) = .inr (n, k) → k ≤ pre.length + a.length → decGo lo hi ab pre a = .inr (n, k) := by
  induction a with
  | nil =>
    intro pre b n k h hl
    exfalso
    have := decGo_cut (lo := lo) (hi := hi) (ab := ab) b pre [] n k (by simpa using h)
    by_cases hk : pre.length + b.length < k
    · have := this hk; rw [List.nil_append] at h; rw [h] at this; cases this
    · -- the end itself takes two bytes
      clear this
      rw [List.nil_append] at h
      have hkk : ∀ (l p : List UInt8), decGo lo hi ab p l = .inr (n, k) → p.length + 2 ≤ k := by
        intro l
        induction l with
        | nil => intro p hp; cases hp
        | cons c l ihl =>
          intro p hp
          rw [decGo] at hp
          split at hp
          · split at hp
            · cases hp
            · split at hp
              · cases hp
              · split at hp
                · cases hp
                · have := ihl _ hp; simp at this; omega
          · split at hp
            · rename_i h45; have := ihl _ hp; simp [h45.2] at this ⊢; omega
            · split at hp
              · cases hp
              · have := (stopF_inr hp).2.1; omega
      have := hkk b pre h
      simp at hl; omega
  | cons c a ih =>
    intro pre b n k h hl
    rw [List.cons_append, decGo] at h
    rw [decGo]
    by_cases hc : isDig c = true
    · rw [if_pos hc] at h ⊢
      cases hn : numOf (pre ++ [c]) with
      | none => rw [hn] at h; cases h
      | some m =>
        rw [hn] at h
        simp only [] at h ⊢
        by_cases h1 : m < lo
        · rw [if_pos h1] at h; cases h
        · rw [if_neg h1] at h ⊢
          by_cases h2 : hi < m
          · rw [if_pos h2] at h; cases h
          · rw [if_neg h2] at h ⊢
            exact ih _ b n k h (by simp at hl ⊢; omega)
    · rw [if_neg hc] at h ⊢
      by_cases h45 : c = 45 ∧ pre = []
      · rw [if_pos h45] at h ⊢
        obtain ⟨rfl, rfl⟩ := h45
        exact ih _ b n k h (by simp at hl ⊢; omega)
      · rw [if_neg h45] at h ⊢
        cases hn : numOf pre with
        | none => rw [hn] at h; cases h
        | some m =>
          rw [hn] at h
          simp only [] at h ⊢
          obtain ⟨rfl, rfl, he⟩ := stopF_inr h
          have := endF_keep (a := c :: a) (b := b) he (by simp at hl ⊢; omega)
          unfold stopF
          rw [if_pos this]
end
theorem lineGo_keep (a : List UInt8) : ∀ (pre b q : List UInt8), lineGo pre (a ++ b) = .inr q → q.length + 2 ≤ pre.length + a.length → lineGo pre a = .inr q := by
  induction a with
  | nil =>
    intro pre b q h hl
    exfalso
    rw [List.nil_append] at h
    have hkk : ∀ (l p : List UInt8), lineGo p l = .inr q → p.length ≤ q.length := by
      intro l
      induction l with
      | nil => intro p hp; cases hp
      | cons c l ihl =>
        intro p hp
        rw [lineGo] at hp
        split at hp
        · split at hp
          · rw [Sum.inr.inj hp]; exact Nat.le_refl _
          · cases hp
        · have := ihl _ hp; simp at this; omega
    have := hkk b pre h
    simp at hl; omega
  | cons c a ih =>
    intro pre b q h hl
    rw [List.cons_append, lineGo] at h
    rw [lineGo]
    by_cases hc : c = 13 ∨ c = 10
    · rw [if_pos hc] at h ⊢
      by_cases he : endF (c :: (a ++ b)) = 0
      · rw [if_pos he] at h
        obtain rfl := Sum.inr.inj h
        rw [if_pos (endF_keep (a := c :: a) (b := b) he (by simp at hl ⊢; omega))]
      · rw [if_neg he] at h; cases h
    · rw [if_neg hc] at h ⊢
      exact ih _ b q h (by simp at hl ⊢; omega)

/-- Cut off, what was found is too short; else it is found as well. -/
def Cuts {β : Type} (f : List UInt8 → Sum Int (β × Nat)) : Prop :=
  ∀ a b x n, f (a ++ b) = .inr (x, n) → (a.length < n → f a = .inl 4) ∧ (n ≤ a.length → f a = .inr (x, n))
section
variable {α : Type}
theorem lineN_cuts (k : Int) : Cuts (lineN k : List UInt8 → Sum Int (RNode α × Nat)) := by
  intro a b x n h
  unfold lineN at h ⊢
  cases hq : lineGo [] (a ++ b) with
  | inl e => rw [hq] at h; cases h
  | inr q =>
    rw [hq] at h
    simp only [Sum.inr.injEq, Prod.mk.injEq] at h
    obtain ⟨rfl, rfl⟩ := h
    refine ⟨fun hl => ?_, fun hl => ?_⟩
    · rw [lineGo_cut a [] b q hq (by simpa using hl)]
    · rw [lineGo_keep a [] b q hq (by simpa using hl)]
theorem numN_cuts : Cuts (numN : List UInt8 → Sum Int (RNode α × Nat)) := by
  intro a b x n h
  unfold numN at h ⊢
  cases hq : decGo (-9223372036854775808) 9223372036854775807 5 [] (a ++ b) with
  | inl e => rw [hq] at h; cases h
  | inr q =>
    obtain ⟨m, k⟩ := q
    rw [hq] at h
    simp only [Sum.inr.injEq, Prod.mk.injEq] at h
    obtain ⟨rfl, rfl⟩ := h
    refine ⟨fun hl => ?_, fun hl => ?_⟩
    · rw [decGo_cut a [] b m k hq (by simpa using hl)]
    · rw [decGo_keep a [] b m k hq (by simpa using hl)]
theorem bodyN_cuts (n : Int) (k : Nat) (a b : List UInt8) (x : RNode α) (m : Nat) (h : bodyN n k (a ++ b) = .inr (x, m)) :
    (k + a.length < m → (bodyN n k a : Sum Int (RNode α × Nat)) = .inl 4) ∧ (m ≤ k + a.length → bodyN n k a = .inr (x, m)) := by
  unfold bodyN at h ⊢
  by_cases h1 : n = -1
  · rw [if_pos h1] at h ⊢
    simp only [Sum.inr.injEq, Prod.mk.injEq] at h
    obtain ⟨rfl, rfl⟩ := h
    exact ⟨fun hl => by omega, fun _ => rfl⟩
  · rw [if_neg h1] at h ⊢
    by_cases h2 : (a ++ b).length < n.toNat
    · rw [if_pos h2] at h; cases h
    · rw [if_neg h2] at h
      by_cases h3 : endF ((a ++ b).drop n.toNat) = 0
      · rw [if_pos h3] at h
        simp only [Sum.inr.injEq, Prod.mk.injEq] at h
        obtain ⟨hx, rfl⟩ := h
        by_cases h4 : a.length < n.toNat
        · rw [if_pos h4]
          exact ⟨fun _ => rfl, fun hl => by omega⟩
        · rw [if_neg h4]
          rw [List.drop_append_of_le_length (by omega)] at h3
          have hd : (a.drop n.toNat).length = a.length - n.toNat := List.length_drop ..
          refine ⟨fun hl => ?_, fun hl => ?_⟩
          · have := endF_cut h3 (by rw [hd]; omega)
            rw [if_neg (by rw [this]; decide), this]
          · rw [if_pos (endF_keep h3 (by rw [hd]; omega)), ← hx, List.take_append_of_le_length (by omega)]
      · rw [if_neg h3] at h; cases h
theorem bulkN_cuts : Cuts (bulkN : List UInt8 → Sum Int (RNode α × Nat)) := by
  intro a b x n h
  unfold bulkN at h ⊢
  cases hq : decGo (-1) 1048576 6 [] (a ++ b) with
  | inl e => rw [hq] at h; cases h
  | inr q =>
    obtain ⟨m, k⟩ := q
    rw [hq] at h
    simp only [] at h
    by_cases hk : a.length < k
    · rw [decGo_cut a [] b m k hq (by simpa using hk)]
      refine ⟨fun _ => rfl, fun hl => ?_⟩
      exfalso
      have : k ≤ n := by
        unfold bodyN at h
        split at h
        · simp at h; omega
        · split at h
          · cases h
          · split at h
            · simp at h; omega
            · cases h
      omega
    · rw [decGo_keep a [] b m k hq (by simp; omega)]
      simp only []
      rw [List.drop_append_of_le_length (by omega)] at h
      obtain ⟨c1, c2⟩ := bodyN_cuts m k (a.drop k) b x n h
      have hd : (a.drop k).length = a.length - k := List.length_drop ..
      exact ⟨fun hl => c1 (by rw [hd]; omega), fun hl => c2 (by rw [hd]; omega)⟩
theorem listGo_cuts {f : List UInt8 → Sum Int (α × Nat)} (hf : Cuts f) (c : Nat) : Cuts (listGo f c) := by
  induction c with
  | zero =>
    intro a b x n h
    simp only [listGo, Sum.inr.injEq, Prod.mk.injEq] at h ⊢
    exact ⟨fun hl => by omega, fun _ => h⟩
  | succ c ih =>
    intro a b x n h
    rw [listGo] at h ⊢
    cases h1 : f (a ++ b) with
    | inl e => rw [h1] at h; cases h
    | inr p =>
      obtain ⟨y, m⟩ := p
      rw [h1] at h
      simp only [] at h
      obtain ⟨c1, c2⟩ := hf a b y m h1
      cases h2 : listGo f c ((a ++ b).drop m) with
      | inl e => rw [h2] at h; cases h
      | inr p =>
        obtain ⟨l, j⟩ := p
        rw [h2] at h
        simp only [Sum.inr.injEq, Prod.mk.injEq] at h
        obtain ⟨rfl, rfl⟩ := h
        by_cases hm : a.length < m
        · rw [c1 hm]
          exact ⟨fun _ => rfl, fun hl => by omega⟩
        · rw [c2 (by omega)]
          simp only []
          rw [List.drop_append_of_le_length (by omega)] at h2
          obtain ⟨d1, d2⟩ := ih (a.drop m) b l j h2
          have hd : (a.drop m).length = a.length - m := List.length_drop ..
          refine ⟨fun hl => ?_, fun hl => ?_⟩
          · rw [d1 (by rw [hd]; omega)]
          · rw [d2 (by rw [hd]; omega)]
theorem listN_cuts {f : List UInt8 → Sum Int (α × Nat)} (hf : Cuts f) (deep : Bool) : Cuts (listN deep f) := by
  intro a b x n h
  unfold listN at h ⊢
  cases deep with
  | true => cases h
  | false =>
    simp only [Bool.false_eq_true, if_false] at h ⊢
    cases hq : decGo (-1) 65536 7 [] (a ++ b) with
    | inl e => rw [hq] at h; cases h
    | inr q =>
      obtain ⟨m, k⟩ := q
      rw [hq] at h
      simp only [] at h
      by_cases hk : a.length < k
      · rw [decGo_cut a [] b m k hq (by simpa using hk)]
        refine ⟨fun _ => rfl, fun hl => ?_⟩
        exfalso
        have : k ≤ n := by
          unfold subsN at h
          split at h
          · simp at h; omega
          · split at h
            · cases h
            · simp at h; omega
        omega
      · rw [decGo_keep a [] b m k hq (by simp; omega)]
        simp only []
        rw [List.drop_append_of_le_length (by omega)] at h
        have hd : (a.drop k).length = a.length - k := List.length_drop ..
        unfold subsN at h ⊢
        by_cases h1 : m = -1
        · rw [if_pos h1] at h ⊢
          simp only [Sum.inr.injEq, Prod.mk.injEq] at h
          obtain ⟨rfl, rfl⟩ := h
          exact ⟨fun hl => by omega, fun _ => rfl⟩
        · rw [if_neg h1] at h ⊢
          cases h2 : listGo f m.toNat (a.drop k ++ b) with
          | inl e => rw [h2] at h; cases h
          | inr p =>
            obtain ⟨l, j⟩ := p
            rw [h2] at h
            simp only [Sum.inr.injEq, Prod.mk.injEq] at h
            obtain ⟨rfl, rfl⟩ := h
            obtain ⟨d1, d2⟩ := listGo_cuts hf m.toNat (a.drop k) b l j h2
            refine ⟨fun hl => ?_, fun hl => ?_⟩
            · rw [d1 (by rw [hd]; omega)]
            · rw [d2 (by rw [hd]; omega)]
theorem signN_cuts {f : List UInt8 → Sum Int (α × Nat)} (hf : Cuts f) (deep : Bool) (c : UInt8) : Cuts (signN deep f c) := by
  intro a b x n h
  unfold signN at h ⊢
  by_cases h1 : c = 43
  · rw [if_pos h1] at h ⊢; exact lineN_cuts _ a b x n h
  · rw [if_neg h1] at h ⊢
    by_cases h2 : c = 45
    · rw [if_pos h2] at h ⊢; exact lineN_cuts _ a b x n h
    · rw [if_neg h2] at h ⊢
      by_cases h3 : c = 58
      · rw [if_pos h3] at h ⊢; exact numN_cuts a b x n h
      · rw [if_neg h3] at h ⊢
        by_cases h4 : c = 36
        · rw [if_pos h4] at h ⊢; exact bulkN_cuts a b x n h
        · rw [if_neg h4] at h ⊢
          by_cases h5 : c = 42
          · rw [if_pos h5] at h ⊢; exact listN_cuts hf deep a b x n h
          · rw [if_neg h5] at h; cases h
theorem plus1_inr {r : Sum Int (α × Nat)} {x : α} {n : Nat} (h : plus1 r = .inr (x, n)) : ∃ m, r = .inr (x, m) ∧ n = m + 1 := by
  unfold plus1 at h
  split at h
  · cases h
  · simp only [Sum.inr.injEq, Prod.mk.injEq] at h
    obtain ⟨rfl, rfl⟩ := h
    exact ⟨_, rfl, rfl⟩
theorem oneN_cuts {f : List UInt8 → Sum Int (α × Nat)} (hf : Cuts f) (deep : Bool) : Cuts (oneN deep f) := by
  intro a b x n h
  cases a with
  | nil =>
    refine ⟨fun _ => rfl, fun hl => ?_⟩
    exfalso
    rw [List.nil_append] at h
    cases b with
    | nil => cases h
    | cons c b =>
      obtain ⟨m, _, rfl⟩ := plus1_inr h
      simp at hl
  | cons c a =>
    rw [List.cons_append] at h
    obtain ⟨m, hm, rfl⟩ := plus1_inr (r := signN deep f c (a ++ b)) h
    obtain ⟨c1, c2⟩ := signN_cuts hf deep c a b x m hm
    show (_ → plus1 (signN deep f c a) = _) ∧ (_ → plus1 (signN deep f c a) = _)
    refine ⟨fun hl => ?_, fun hl => ?_⟩
    · rw [c1 (by simp at hl; omega)]; rfl
    · rw [c2 (by simp at hl; omega)]; rfl
end
theorem takeF_cuts (k : Nat) : Cuts (takeF k) := by
  induction k with
  | zero => intro a b x n h; cases h
  | succ k ih => exact oneN_cuts ih (k == 0)

/-! ### What is taken is put so -/
section
variable {α : Type}
/-- What is found is what g puts. -/
def Puts (f : List UInt8 → Sum Int (α × Nat)) (g : α → List UInt8 × Int) : Prop :=
  ∀ s x n, f s = .inr (x, n) → ∃ bs u, s = bs ++ u ∧ bs.length = n ∧ g x = (bs, 0)
theorem listGo_puts {f : List UInt8 → Sum Int (α × Nat)} {g : α → List UInt8 × Int} {ok : α → Prop} {M : Nat} (hf : Puts f g) (ho : ∀ s x n, s.length ≤ M → f s = .inr (x, n) → ok x) (c : Nat) :
    ∀ s l n, s.length ≤ M → listGo f c s = .inr (l, n) → l.length = c ∧ (∀ x ∈ l, ok x) ∧ ∃ bs u, s = bs ++ u ∧ bs.length = n ∧ putGo g l = (bs, 0) := by
  induction c with
  | zero =>
    intro s l n hM h
    simp only [listGo, Sum.inr.injEq, Prod.mk.injEq] at h
    obtain ⟨rfl, rfl⟩ := h
    exact ⟨rfl, fun x hx => by simp at hx, [], s, rfl, rfl, rfl⟩
  | succ c ih =>
    intro s l n hM h
    rw [listGo] at h
    cases h1 : f s with
    | inl e => rw [h1] at h; cases h
    | inr p =>
      obtain ⟨y, m⟩ := p
      rw [h1] at h
      simp only [] at h
      obtain ⟨bs, u, rfl, rfl, hg⟩ := hf s y m h1
      rw [List.drop_left] at h
      cases h2 : listGo f c u with
      | inl e => rw [h2] at h; cases h
      | inr p =>
        obtain ⟨l', j⟩ := p
        rw [h2] at h
        simp only [Sum.inr.injEq, Prod.mk.injEq] at h
        obtain ⟨rfl, rfl⟩ := h
        obtain ⟨hlen, hok, cs, v, rfl, rfl, hp⟩ := ih _ _ _ (by simp at hM; omega) h2
        refine ⟨by simp [hlen], ?_, bs ++ cs, v, by simp, by simp, ?_⟩
        · intro x hx
          rcases List.mem_cons.1 hx with rfl | hx
          · exact ho _ _ _ hM h1
          · exact hok x hx
        · rw [putGo, hg, hp]; rfl
theorem faultF_zero {x : RNode α} {w : Nat} (h1 : named x = true) (h2 : (x.kind = 1 ∨ x.kind = 2) → hasEol x.txt = false) (h3 : x.kind = 4 → x.txt.length ≤ 1048576) (h4 : x.kind = 6 → x.sub.length ≤ 65536) (h5 : x.kind = 6 ∨ x.kind = 7 → w < 8) : faultF x w = 0 := by
  unfold faultF
  rw [if_neg (by rw [h1]; decide), if_neg (by rintro ⟨a, b⟩; rw [h2 a] at b; cases b), if_neg (by rintro ⟨a, b⟩; have := h3 a; omega), if_neg (by rintro ⟨a, b⟩; have := h4 a; omega), if_neg (by rintro ⟨a, b⟩; have := h5 a; omega)]
theorem lineN_puts {k : Int} {s : List UInt8} {x : RNode α} {n : Nat} (h : lineN k s = .inr (x, n)) :
    ∃ q u, x = ⟨k, 0, q, []⟩ ∧ s = q ++ eol ++ u ∧ n = q.length + 2 ∧ hasEol q = false := by
  unfold lineN at h
  cases hq : lineGo [] s with
  | inl e => rw [hq] at h; cases h
  | inr q =>
    rw [hq] at h
    simp only [Sum.inr.injEq, Prod.mk.injEq] at h
    obtain ⟨rfl, rfl⟩ := h
    obtain ⟨u, hu, hc⟩ := lineGo_text s [] q hq (fun _ h => by simp at h)
    exact ⟨q, u, rfl, by rw [List.nil_append] at hu; rw [hu]; simp [eol], rfl, clean_hasEol hc⟩
theorem oneN_puts {f : List UInt8 → Sum Int (α × Nat)} {g : α → List UInt8 × Int} {ok : α → Prop} {M : Nat} {deep : Bool} {w : Nat} (hd : deep = false → w < 8) (hf : deep = false → Puts f g) (ho : ∀ s x n, s.length ≤ M → f s = .inr (x, n) → ok x)
    (s : List UInt8) (x : RNode α) (n : Nat) (hM : s.length ≤ M) (h : oneN deep f s = .inr (x, n)) :
    (∃ bs u, s = bs ++ u ∧ bs.length = n ∧ putN g x w = (bs, 0)) ∧ inI64 x.num ∧ x.txt.length ≤ s.length ∧ ∀ y ∈ x.sub, ok y := by
  cases s with
  | nil => cases h
  | cons c t =>
    obtain ⟨m, hm, rfl⟩ := plus1_inr (r := signN deep f c t) h
    clear h
    have z0 : inI64 0 := by unfold inI64; omega
    unfold signN at hm
    by_cases h1 : c = 43
    · rw [if_pos h1] at hm
      obtain ⟨q, u, rfl, rfl, rfl, hq⟩ := lineN_puts hm
      refine ⟨⟨lineP 43 q, u, by rw [h1]; simp [lineP], by simp [lineP, eol], ?_⟩, z0, by simp; omega, fun y hy => by simp at hy⟩
      unfold putN
      rw [if_neg (by rw [faultF_zero (by simp [named]) (fun _ => hq) (by simp) (by simp) (by simp)]; simp)]
      rfl
    · rw [if_neg h1] at hm
      by_cases h2 : c = 45
      · rw [if_pos h2] at hm
        obtain ⟨q, u, rfl, rfl, rfl, hq⟩ := lineN_puts hm
        refine ⟨⟨lineP 45 q, u, by rw [h2]; simp [lineP], by simp [lineP, eol], ?_⟩, z0, by simp; omega, fun y hy => by simp at hy⟩
        unfold putN
        rw [if_neg (by rw [faultF_zero (by simp [named]) (fun _ => hq) (by simp) (by simp) (by simp)]; simp)]
        rfl
      · rw [if_neg h2] at hm
        by_cases h3 : c = 58
        · rw [if_pos h3] at hm
          unfold numN at hm
          cases hq : decGo (-9223372036854775808) 9223372036854775807 5 [] t with
          | inl e => rw [hq] at hm; cases hm
          | inr q =>
            obtain ⟨v, k⟩ := q
            rw [hq] at hm
            simp only [Sum.inr.injEq, Prod.mk.injEq] at hm
            obtain ⟨rfl, rfl⟩ := hm
            obtain ⟨u, hu, rfl, _, _, hi⟩ := decGo_text t [] v k hq decOk_nil
            rw [List.nil_append] at hu
            refine ⟨⟨lineP 58 (itoa v), u, by rw [h3, hu]; simp [lineP, eol], by simp [lineP, eol], ?_⟩, hi, by simp, fun y hy => by simp at hy⟩
            unfold putN
            rw [if_neg (by rw [faultF_zero (by simp [named]) (by simp) (by simp) (by simp) (by simp)]; simp)]
            rfl
        · rw [if_neg h3] at hm
          by_cases h4 : c = 36
          · rw [if_pos h4] at hm
            unfold bulkN at hm
            cases hq : decGo (-1) 1048576 6 [] t with
            | inl e => rw [hq] at hm; cases hm
            | inr q =>
              obtain ⟨v, k⟩ := q
              rw [hq] at hm
              simp only [] at hm
              obtain ⟨u, hu, rfl, hlo, hhi, hi⟩ := decGo_text t [] v k hq decOk_nil
              rw [List.nil_append] at hu
              subst hu
              have hdrop : (itoa v ++ 13 :: 10 :: u).drop ((itoa v).length + 2) = u := by
                rw [List.drop_append, List.drop_of_length_le (by omega)]; simp
              rw [hdrop] at hm
              unfold bodyN at hm
              by_cases hv : v = -1
              · rw [if_pos hv] at hm
                simp only [Sum.inr.injEq, Prod.mk.injEq] at hm
                obtain ⟨rfl, rfl⟩ := hm
                subst hv
                refine ⟨⟨lineP 36 (itoa (-1)), u, by rw [h4]; simp [lineP, eol], by simp [lineP, eol], ?_⟩, z0, by simp, fun y hy => by simp at hy⟩
                unfold putN
                rw [if_neg (by rw [faultF_zero (by simp [named]) (by simp) (by simp) (by simp) (by simp)]; simp)]
                rfl
              · rw [if_neg hv] at hm
                by_cases hb : u.length < v.toNat
                · rw [if_pos hb] at hm; cases hm
                · rw [if_neg hb] at hm
                  by_cases he : endF (u.drop v.toNat) = 0
                  · rw [if_pos he] at hm
                    simp only [Sum.inr.injEq, Prod.mk.injEq] at hm
                    obtain ⟨rfl, rfl⟩ := hm
                    obtain ⟨r, hr⟩ := endF_zero he
                    have hl : (u.take v.toNat).length = v.toNat := by rw [List.length_take]; omega
                    have hli : ((u.take v.toNat).length : Int) = v := by rw [hl]; omega
                    have hu2 : u = u.take v.toNat ++ (13 :: 10 :: r) := by rw [← hr, List.take_append_drop]
                    refine ⟨⟨lineP 36 (itoa v) ++ u.take v.toNat ++ eol, r, ?_, ?_, ?_⟩, z0, ?_, fun y hy => by simp at hy⟩
                    · rw [h4]; conv => lhs; rw [hu2]
                      simp [lineP, eol]
                    · simp only [List.length_append, hl, lineP, eol, List.length_cons, List.length_nil]; omega
                    · unfold putN
                      rw [if_neg (by rw [faultF_zero (by simp [named]) (by simp) (fun _ => by show (u.take v.toNat).length ≤ _; rw [hl]; omega) (by simp) (by simp)]; simp)]
                      show (lineP 36 (itoa ((u.take v.toNat).length : Int)) ++ u.take v.toNat ++ eol, (0 : Int)) = _
                      rw [hli]
                    · show (u.take v.toNat).length ≤ _
                      rw [List.length_take]; simp; omega
                  · rw [if_neg he] at hm; cases hm
          · rw [if_neg h4] at hm
            by_cases h5 : c = 42
            · rw [if_pos h5] at hm
              unfold listN at hm
              cases deep with
              | true => cases hm
              | false =>
                simp only [Bool.false_eq_true, if_false] at hm
                cases hq : decGo (-1) 65536 7 [] t with
                | inl e => rw [hq] at hm; cases hm
                | inr q =>
                  obtain ⟨v, k⟩ := q
                  rw [hq] at hm
                  simp only [] at hm
                  obtain ⟨u, hu, rfl, hlo, hhi, hi⟩ := decGo_text t [] v k hq decOk_nil
                  rw [List.nil_append] at hu
                  subst hu
                  have hdrop : (itoa v ++ 13 :: 10 :: u).drop ((itoa v).length + 2) = u := by
                    rw [List.drop_append, List.drop_of_length_le (by omega)]; simp
                  rw [hdrop] at hm
                  unfold subsN at hm
                  by_cases hv : v = -1
                  · rw [if_pos hv] at hm
                    simp only [Sum.inr.injEq, Prod.mk.injEq] at hm
                    obtain ⟨rfl, rfl⟩ := hm
                    subst hv
                    refine ⟨⟨lineP 42 (itoa (-1)), u, by rw [h5]; simp [lineP, eol], by simp [lineP, eol], ?_⟩, z0, by simp, fun y hy => by simp at hy⟩
                    unfold putN
                    rw [if_neg (by rw [faultF_zero (by simp [named]) (by simp) (by simp) (by simp) (fun _ => hd rfl)]; simp)]
                    rfl
                  · rw [if_neg hv] at hm
                    cases hg : listGo f v.toNat u with
                    | inl e => rw [hg] at hm; cases hm
                    | inr p =>
                      obtain ⟨l, j⟩ := p
                      rw [hg] at hm
                      simp only [Sum.inr.injEq, Prod.mk.injEq] at hm
                      obtain ⟨rfl, rfl⟩ := hm
                      obtain ⟨hlen, hok, bs, r, rfl, rfl, hp⟩ := listGo_puts (hf rfl) ho v.toNat u l j (by simp at hM; omega) hg
                      have hli : (l.length : Int) = v := by rw [hlen]; omega
                      refine ⟨⟨lineP 42 (itoa v) ++ bs, r, by rw [h5]; simp [lineP, eol], by simp [lineP, eol]; omega, ?_⟩, z0, by simp, hok⟩
                      unfold putN
                      rw [if_neg (by rw [faultF_zero (by simp [named]) (by simp) (by simp) (fun _ => by show l.length ≤ _; omega) (fun _ => hd rfl)]; simp)]
                      show (lineP 42 (itoa (l.length : Int)) ++ (putGo g l).1, (putGo g l).2) = _
                      rw [hp, hli]
            · rw [if_neg h5] at hm; cases hm
end
theorem takeF_puts (k : Nat) : ∀ w, w + k = 9 → Puts (takeF k) (putF k w) := by
  induction k with
  | zero => intro w _ s x n h; cases h
  | succ k ih =>
    intro w hw s x n h
    exact (oneN_puts (ok := fun _ => True) (M := s.length) (w := w) (fun hd => by have : k ≠ 0 := by simpa using hd
                                                                                  omega) (fun _ => ih (w + 1) (by omega)) (fun _ _ _ _ _ => trivial) s x n (Nat.le_refl _) h).1
theorem takeF_ok (k : Nat) : ∀ w, w + k = 9 → ∀ s x n, s.length ≤ 140737488355328 → takeF k s = .inr (x, n) → Ok k x := by
  induction k with
  | zero => intro w _ s x n _ h; cases h
  | succ k ih =>
    intro w hw s x n hs h
    obtain ⟨_, h1, h2, h3⟩ := oneN_puts (ok := Ok k) (M := 140737488355328) (w := w) (fun hd => by have : k ≠ 0 := by simpa using hd
                                                                                                   omega) (fun _ => takeF_puts k (w + 1) (by omega)) (fun s x n hs h => ih (w + 1) (by omega) s x n hs h) s x n hs h
    exact ⟨h1, Nat.le_trans h2 hs, h3⟩

/-! ### What is put is taken -/
section
variable {α β : Type}
theorem putGo_takes {g : α → List UInt8 × Int} {f : List UInt8 → Sum Int (β × Nat)} {same : α → β → Bool} (l : List α)
    (hf : ∀ x ∈ l, (g x).2 = 0 → ∀ t, ∃ y, f ((g x).1 ++ t) = .inr (y, (g x).1.length) ∧ same x y = true) :
    (putGo g l).2 = 0 → ∀ t, ∃ ys, listGo f l.length ((putGo g l).1 ++ t) = .inr (ys, (putGo g l).1.length) ∧ sameL same l ys = true := by
  induction l with
  | nil => intro _ t; exact ⟨[], rfl, rfl⟩
  | cons x l ih =>
    intro h t
    rw [putGo] at h ⊢
    by_cases hx : (g x).2 = 0
    · rw [if_pos hx] at h ⊢
      obtain ⟨y, hy, hs⟩ := hf x (by simp) hx ((putGo g l).1 ++ t)
      obtain ⟨ys, hys, hss⟩ := ih (fun z hz => hf z (by simp [hz])) h t
      refine ⟨y :: ys, ?_, by simp [sameL, hs, hss]⟩
      rw [List.length_cons, listGo, List.append_assoc, hy]
      simp only [List.drop_left]
      rw [hys]
      simp
    · rw [if_neg hx] at h
      exact absurd h hx
theorem faultF_named {x : RNode α} {w : Nat} (h : faultF x w = 0) : named x = true ∧ ((x.kind = 1 ∨ x.kind = 2) → hasEol x.txt = false) ∧ (x.kind = 4 → x.txt.length ≤ 1048576) ∧ (x.kind = 6 → x.sub.length ≤ 65536) ∧ (x.kind = 6 ∨ x.kind = 7 → w < 8) := by
  unfold faultF at h
  split at h
  · simp at h
  · rename_i h1
    split at h
    · simp at h
    · rename_i h2
      split at h
      · simp at h
      · rename_i h3
        split at h
        · simp at h
        · rename_i h4
          split at h
          · simp at h
          · rename_i h5
            refine ⟨by simpa using h1, fun a => ?_, fun a => ?_, fun a => ?_, fun a => ?_⟩
            · cases hb : hasEol x.txt with
              | false => rfl
              | true => exact absurd ⟨a, hb⟩ h2
            · exact Nat.le_of_not_lt fun b => h3 ⟨a, b⟩
            · exact Nat.le_of_not_lt fun b => h4 ⟨a, b⟩
            · exact Nat.lt_of_not_le fun b => h5 ⟨a, b⟩
/-- The eight kinds of a reply that has no fault. -/
theorem named_cases {x : RNode α} (h : named x = true) :
    (x.kind = 1 ∧ x.num = 0 ∧ x.sub = []) ∨ (x.kind = 2 ∧ x.num = 0 ∧ x.sub = []) ∨ (x.kind = 3 ∧ x.txt = [] ∧ x.sub = []) ∨ (x.kind = 4 ∧ x.num = 0 ∧ x.sub = []) ∨
    (x.kind = 5 ∧ x.num = 0 ∧ x.txt = [] ∧ x.sub = []) ∨ (x.kind = 6 ∧ x.num = 0 ∧ x.txt = []) ∨ (x.kind = 7 ∧ x.num = 0 ∧ x.txt = [] ∧ x.sub = []) := by
  unfold named at h
  by_cases h1 : x.kind = 1 ∨ x.kind = 2 ∨ x.kind = 4
  · rw [if_pos h1] at h
    simp only [Bool.and_eq_true, beq_iff_eq, List.isEmpty_iff] at h
    rcases h1 with e | e | e
    · exact Or.inl ⟨e, h.1, h.2⟩
    · exact Or.inr (Or.inl ⟨e, h.1, h.2⟩)
    · exact Or.inr (Or.inr (Or.inr (Or.inl ⟨e, h.1, h.2⟩)))
  · rw [if_neg h1] at h
    by_cases h2 : x.kind = 3
    · rw [if_pos h2] at h
      simp only [Bool.and_eq_true, List.isEmpty_iff] at h
      exact Or.inr (Or.inr (Or.inl ⟨h2, h.1, h.2⟩))
    · rw [if_neg h2] at h
      by_cases h3 : x.kind = 6
      · rw [if_pos h3] at h
        simp only [Bool.and_eq_true, beq_iff_eq, List.isEmpty_iff] at h
        exact Or.inr (Or.inr (Or.inr (Or.inr (Or.inr (Or.inl ⟨h3, h.1, h.2⟩)))))
      · rw [if_neg h3] at h
        by_cases h4 : x.kind = 5 ∨ x.kind = 7
        · rw [if_pos h4] at h
          simp only [Bool.and_eq_true, beq_iff_eq, List.isEmpty_iff] at h
          rcases h4 with e | e
          · exact Or.inr (Or.inr (Or.inr (Or.inr (Or.inl ⟨e, h.1.1, h.1.2, h.2⟩))))
          · exact Or.inr (Or.inr (Or.inr (Or.inr (Or.inr (Or.inr ⟨e, h.1.1, h.1.2, h.2⟩)))))
        · rw [if_neg h4] at h; cases h
theorem drop_head (a u : List UInt8) : (a ++ 13 :: 10 :: u).drop (a.length + 2) = u := by
  rw [List.drop_append, List.drop_of_length_le (by omega)]; simp
theorem putN_takes {g : α → List UInt8 × Int} {f : List UInt8 → Sum Int (β × Nat)} {same : α → β → Bool} {deep : Bool} {w : Nat} (x : RNode α) (hd : w < 8 → deep = false) (hi : inI64 x.num) (hl : x.txt.length ≤ 140737488355328)
    (hf : w < 8 → ∀ y ∈ x.sub, (g y).2 = 0 → ∀ t, ∃ z, f ((g y).1 ++ t) = .inr (z, (g y).1.length) ∧ same y z = true) (h : (putN g x w).2 = 0) (t : List UInt8) :
    ∃ y, oneN deep f ((putN g x w).1 ++ t) = .inr (y, (putN g x w).1.length) ∧ sameN same x y = true := by
  unfold putN at h ⊢
  by_cases hz : faultF x w ≠ 0
  · rw [if_pos hz] at h; exact absurd h hz
  · rw [if_neg hz] at h ⊢
    obtain ⟨hn, h12, h4, h6, h67⟩ := faultF_named (by simpa using hz)
    obtain ⟨xk, xn, xt, xs⟩ := x
    simp only at h12 h4 h6 h67 hi hl hf h ⊢
    rcases named_cases hn with ⟨rfl, rfl, rfl⟩ | ⟨rfl, rfl, rfl⟩ | ⟨rfl, rfl, rfl⟩ | ⟨rfl, rfl, rfl⟩ | ⟨rfl, rfl, rfl, rfl⟩ | ⟨rfl, rfl, rfl⟩ | ⟨rfl, rfl, rfl, rfl⟩
    · refine ⟨⟨1, 0, xt, []⟩, ?_, by simp [sameN, sameL]⟩
      show plus1 (signN deep f 43 (xt ++ eol ++ t)) = _
      simp only [signN, if_true, lineN]
      rw [show xt ++ eol ++ t = xt ++ (13 :: 10 :: t) by simp [eol], lineGo_eol xt [] t (hasEol_clean (h12 (Or.inl rfl)))]
      simp [plus1, lineP, eol]
    · refine ⟨⟨2, 0, xt, []⟩, ?_, by simp [sameN, sameL]⟩
      show plus1 (signN deep f 45 (xt ++ eol ++ t)) = _
      unfold signN
      rw [if_neg (by decide), if_pos rfl]
      unfold lineN
      rw [show xt ++ eol ++ t = xt ++ (13 :: 10 :: t) by simp [eol], lineGo_eol xt [] t (hasEol_clean (h12 (Or.inr rfl)))]
      simp [plus1, lineP, eol]
    · refine ⟨⟨3, xn, [], []⟩, ?_, by simp [sameN, sameL]⟩
      show plus1 (signN deep f 58 (itoa xn ++ eol ++ t)) = _
      unfold signN
      rw [if_neg (by decide), if_neg (by decide), if_pos rfl]
      unfold numN
      rw [show itoa xn ++ eol ++ t = itoa xn ++ (13 :: 10 :: t) by simp [eol], decGo_itoa xn t hi hi.1 hi.2 (by decide) (by decide)]
      simp [plus1, lineP, eol]
    · have hb := h4 rfl
      refine ⟨⟨4, 0, xt, []⟩, ?_, by simp [sameN, sameL]⟩
      show plus1 (signN deep f 36 ((itoa xt.length ++ eol ++ xt ++ eol) ++ t)) = _
      unfold signN
      rw [if_neg (by decide), if_neg (by decide), if_neg (by decide), if_pos rfl]
      unfold bulkN
      rw [show itoa (xt.length : Int) ++ eol ++ xt ++ eol ++ t = itoa (xt.length : Int) ++ (13 :: 10 :: (xt ++ (13 :: 10 :: t))) by simp [eol], decGo_itoa _ _ (by unfold inI64; omega) (by omega) (by omega) (by decide) (by decide)]
      simp only [drop_head]
      unfold bodyN
      rw [if_neg (by omega), if_neg (by simp), Int.toNat_natCast, List.drop_left, if_pos (endF_eol _), List.take_left]
      simp [plus1, lineP, eol]; omega
    · refine ⟨⟨5, 0, [], []⟩, ?_, by simp [sameN, sameL]⟩
      show plus1 (signN deep f 36 (itoa (-1) ++ eol ++ t)) = _
      unfold signN
      rw [if_neg (by decide), if_neg (by decide), if_neg (by decide), if_pos rfl]
      unfold bulkN
      rw [show itoa (-1) ++ eol ++ t = itoa (-1) ++ (13 :: 10 :: t) by simp [eol], decGo_itoa _ _ (by unfold inI64; omega) (by omega) (by omega) (by decide) (by decide)]
      simp [bodyN, plus1, lineP, eol]
    · have hw := h67 (Or.inl rfl)
      have hb := h6 rfl
      have hd' := hd hw
      subst hd'
      have hg : (putGo g xs).2 = 0 := h
      obtain ⟨ys, hys, hss⟩ := putGo_takes xs (hf hw) hg t
      refine ⟨⟨6, 0, [], ys⟩, ?_, by simp [sameN, hss]⟩
      show plus1 (signN false f 42 ((itoa xs.length ++ eol ++ (putGo g xs).1) ++ t)) = _
      unfold signN
      rw [if_neg (by decide), if_neg (by decide), if_neg (by decide), if_neg (by decide), if_pos rfl]
      unfold listN
      rw [if_neg (by decide), show itoa (xs.length : Int) ++ eol ++ (putGo g xs).1 ++ t = itoa (xs.length : Int) ++ (13 :: 10 :: ((putGo g xs).1 ++ t)) by simp [eol], decGo_itoa _ _ (by unfold inI64; omega) (by omega) (by omega) (by decide) (by decide)]
      simp only [drop_head]
      unfold subsN
      rw [if_neg (by omega), Int.toNat_natCast, hys]
      simp [plus1, lineP, eol]; omega
    · have hw := h67 (Or.inr rfl)
      have hd' := hd hw
      subst hd'
      refine ⟨⟨7, 0, [], []⟩, ?_, by simp [sameN, sameL]⟩
      show plus1 (signN false f 42 (itoa (-1) ++ eol ++ t)) = _
      unfold signN
      rw [if_neg (by decide), if_neg (by decide), if_neg (by decide), if_neg (by decide), if_pos rfl]
      unfold listN
      rw [if_neg (by decide), show itoa (-1) ++ eol ++ t = itoa (-1) ++ (13 :: 10 :: t) by simp [eol], decGo_itoa _ _ (by unfold inI64; omega) (by omega) (by omega) (by decide) (by decide)]
      simp [subsN, plus1, lineP, eol]
end
theorem putF_takes (n : Nat) : ∀ (w k : Nat) (x : Rep n), w + k = 8 → Ok n x → (putF n w x).2 = 0 → ∀ t, ∃ y, takeF (k + 1) ((putF n w x).1 ++ t) = .inr (y, (putF n w x).1.length) ∧ sameF n (k + 1) x y = true := by
  induction n with
  | zero => intro w k x; exact x.elim
  | succ n ih =>
    intro w k x hw hok h t
    obtain ⟨h1, h2, h3⟩ := hok
    have hx := putN_takes (g := putF n (w + 1)) (f := takeF k) (same := sameF n k) (deep := k == 0) (w := w) x (fun hlt => by simp; omega) h1 h2 (fun hlt y hy hg t' => by
      obtain ⟨k', rfl⟩ : ∃ k', k = k' + 1 := ⟨k - 1, by omega⟩
      exact ih (w + 1) k' y (by omega) (h3 y hy) hg t') h t
    exact hx

theorem sameL_refl {α : Type} {f : α → α → Bool} : ∀ l : List α, (∀ x ∈ l, f x x = true) → sameL f l l = true
  | [], _ => rfl
  | x :: l, h => by simp [sameL, h x (by simp), sameL_refl l (fun y hy => h y (by simp [hy]))]
theorem sameF_refl (k : Nat) : ∀ x : Rep k, sameF k k x x = true := by
  induction k with
  | zero => intro x; exact x.elim
  | succ k ih =>
    intro x
    show sameN (sameF k k) (x : RNode (Rep k)) (x : RNode (Rep k)) = true
    simp [sameN, sameL_refl _ (fun y _ => ih y)]

end Go.Proofs.YtogbjhpkbdmllaaDoor.Rp
