/-
  The walks of the readers of a line, a number and a bulk. A premise: the text is shorter than 4294967281 bytes.
-/
import Derived.Test.YtogbjhpkbdmllaaDoorRC
import Derived.Test.YtogbjhpkbdmllaaDoorRD
namespace Go.Proofs.YtogbjhpkbdmllaaDoor
open Go.RowKit Rp Dec

/-- What a reader of a reply answers: its reply lies in blocks of its own. -/
def TakeEnd (k : Nat) (R : Sum Int (Rep k × Nat)) (w : World) (e : Ending) (w' : World) : Prop := Below w.heap.size w w' ∧ match R with
  | .inl x => e = .returned (.tuple #[.agg #[.int .i64 0, .int .i64 0, .string ⟨#[]⟩, .slice none 0 0], .int .i64 0, .int .i64 x])
  | .inr (y, n) => ∃ cs : Array Value, e = .returned (.tuple #[.agg cs, .int .i64 n, .int .i64 0]) ∧ RAt w' (fun b => w.heap.size ≤ b) k y cs.toList
theorem take_no {k : Nat} {R : Sum Int (Rep k × Nat)} {w w' : World} {x : Int} (h : R = .inl x) (hb : Below w.heap.size w w') : TakeEnd k R w (.returned (.tuple #[.agg #[.int .i64 0, .int .i64 0, .string ⟨#[]⟩, .slice none 0 0], .int .i64 0, .int .i64 x])) w' := by
  subst h; exact ⟨hb, rfl⟩
/-- A reply that has no others. -/
theorem leaf_at {k : Nat} {W : World} {ok : Nat → Prop} {b : ByteArray} {kind num : Int} {l : List UInt8} {A : Option Addr} {cap : Nat} (hb : b.data.toList = l) (h1 : inI64 kind) (h2 : inI64 num) (h3 : b.size ≤ 140737488355328) :
    RAt W ok (k + 1) (⟨kind, num, l, []⟩ : RNode (Rep k)) [.int .i64 kind, .int .i64 num, .string b, .slice A 0 cap] :=
  ⟨b, A, cap, rfl, hb, h1, h2, h3, by simp, fun i y hy => by simp at hy⟩
theorem take_leaf {k : Nat} {R : Sum Int (Rep (k + 1) × Nat)} {w w' : World} {b : ByteArray} {kind num : Int} {l : List UInt8} {n : Nat} {m : Int} (h : R = .inr ((⟨kind, num, l, []⟩ : RNode (Rep k)), n)) (hm : m = n) (hb : Below w.heap.size w w')
    (hd : b.data.toList = l) (h1 : inI64 kind) (h2 : inI64 num) (h3 : b.size ≤ 140737488355328) :
    TakeEnd (k + 1) R w (.returned (.tuple #[.agg #[.int .i64 kind, .int .i64 num, .string b, .slice none 0 0], .int .i64 m, .int .i64 0])) w' := by
  subst h hm
  exact ⟨hb, _, rfl, leaf_at hd h1 h2 h3⟩

theorem line_none (l : List UInt8) : ∀ pre, Lib.indexAny l [13, 10] < 0 → lineGo pre l = .inl 4 := by
  induction l with
  | nil => intro pre _; rfl
  | cons c l ih =>
    intro pre h
    rw [Lib.indexAny] at h
    have hge := Lib.indexAny_ge [13, 10] l
    by_cases hc : ([13, 10] : List UInt8).contains c = true
    · rw [if_pos hc] at h; omega
    · rw [if_neg hc] at h
      rw [lineGo, if_neg (by intro e; apply hc; rcases e with rfl | rfl <;> decide)]
      refine ih _ ?_
      split at h
      · rename_i e
        have := beq_iff_eq.1 e
        rw [this]; decide
      · omega
theorem line_some (l : List UInt8) : ∀ pre (i : Nat), Lib.indexAny l [13, 10] = i → i < l.length ∧ lineGo pre l = (if endF (l.drop i) = 0 then .inr (pre ++ l.take i) else .inl (endF (l.drop i))) := by
  induction l with
  | nil => intro pre i h; rw [Lib.indexAny] at h; omega
  | cons c l ih =>
    intro pre i h
    rw [Lib.indexAny] at h
    have hge := Lib.indexAny_ge [13, 10] l
    by_cases hc : ([13, 10] : List UInt8).contains c = true
    · rw [if_pos hc] at h
      obtain rfl : i = 0 := by omega
      rw [lineGo, if_pos (by simpa using hc)]
      exact ⟨by simp, by simp⟩
    · rw [if_neg hc] at h
      split at h
      · omega
      · rename_i hn
        have hn' : Lib.indexAny l [13, 10] ≠ -1 := fun e => hn (by rw [e]; rfl)
        obtain ⟨j, rfl⟩ : ∃ j, i = j + 1 := ⟨i - 1, by omega⟩
        have hj : Lib.indexAny l [13, 10] = j := by push_cast at h; omega
        obtain ⟨h1, h2⟩ := ih (pre ++ [c]) j hj
        refine ⟨by simp; omega, ?_⟩
        rw [lineGo, if_neg (by simpa using hc), h2]
        simp
theorem tail_data (s : ByteArray) (k : Nat) : (s.extract k s.size).data.toList = s.data.toList.drop k := by
  rw [Lib.extract_data, List.take_of_length_le]; simp
theorem head_data (s : ByteArray) (k : Nat) : (s.extract 0 k).data.toList = s.data.toList.take k := by
  rw [Lib.extract_data]; simp
theorem ended_tail (s : ByteArray) (k : Nat) (w : World) (v : Int) (h : Hid (endF (s.data.toList.drop k) = v)) :
    Calls Tryd.prog 52 #[.string (s.extract k s.size)] w fun e w' => e = .returned (.int .i64 v) ∧ w = w' := by
  have := ended_any (s.extract k s.size) w
  rwa [tail_data, h.out] at this

theorem cells4 {W W' : World} {b B : Nat} {c0 c1 c2 c3 : Value} (hb : Below B W W') (h : W.heap[b]? = some (.cells #[c0, c1, c2, c3] 24 (0, 0))) (hl : b < B) :
    W'.cell? ⟨b, 0, none⟩ = some c0 ∧ W'.cell? ⟨b, 1, none⟩ = some c1 ∧ W'.cell? ⟨b, 2, none⟩ = some c2 ∧ W'.cell? ⟨b, 3, none⟩ = some c3 ∧
      W'.frozen? ⟨b, 0, none⟩ = false ∧ W'.frozen? ⟨b, 1, none⟩ = false ∧ W'.frozen? ⟨b, 2, none⟩ = false ∧ W'.frozen? ⟨b, 3, none⟩ = false := by
  have h' := (hb.block b hl).trans h
  exact ⟨Lib.cell_of_heap h' 0, Lib.cell_of_heap h' 1, Lib.cell_of_heap h' 2, Lib.cell_of_heap h' 3, Lib.frozen_of_heap h' 0, Lib.frozen_of_heap h' 1, Lib.frozen_of_heap h' 2, Lib.frozen_of_heap h' 3⟩

/-- Four cells laid anew. -/
theorem laid4 {W : World} {b : Nat} {c0 c1 c2 c3 v0 v1 v2 v3 : Value} (h : W.heap[b]? = some (.cells #[c0, c1, c2, c3] 24 (0, 0))) :
    ((((W.setCell ⟨b, 0, none⟩ v0).setCell ⟨b, 1, none⟩ v1).setCell ⟨b, 2, none⟩ v2).setCell ⟨b, 3, none⟩ v3).heap[b]? = some (.cells #[v0, v1, v2, v3] 24 (0, 0)) := by
  simp [World.setCell, Array.getElem?_modify, h]
theorem read4 {W : World} {b : Nat} {c0 c1 c2 c3 : Value} (h : W.heap[b]? = some (.cells #[c0, c1, c2, c3] 24 (0, 0))) :
    W.cell? ⟨b, 0, none⟩ = some c0 ∧ W.cell? ⟨b, 1, none⟩ = some c1 ∧ W.cell? ⟨b, 2, none⟩ = some c2 ∧ W.cell? ⟨b, 3, none⟩ = some c3 :=
  ⟨Lib.cell_of_heap h 0, Lib.cell_of_heap h 1, Lib.cell_of_heap h 2, Lib.cell_of_heap h 3⟩
theorem put_below {B : Nat} {W W' : World} (hb : Below B W W') {b : Nat} (h : B ≤ b) (v0 v1 v2 v3 : Value) :
    Below B W ((((W'.setCell ⟨b, 0, none⟩ v0).setCell ⟨b, 1, none⟩ v1).setCell ⟨b, 2, none⟩ v2).setCell ⟨b, 3, none⟩ v3) :=
  (((hb.setCell (p := ⟨b, 0, none⟩) h v0).setCell (p := ⟨b, 1, none⟩) h v1).setCell (p := ⟨b, 2, none⟩) h v2).setCell (p := ⟨b, 3, none⟩) h v3
/-- Behind a call that made memory, the answer laid in its block. -/
theorem ret_below {w w' : World} {o : Obj} (hb : Below (w.alloc o).heap.size (w.alloc o) w') {v0 v1 v2 v3 : Value} :
    Below w.heap.size w ((((w'.setCell ⟨w.heap.size, 0, none⟩ v0).setCell ⟨w.heap.size, 1, none⟩ v1).setCell ⟨w.heap.size, 2, none⟩ v2).setCell ⟨w.heap.size, 3, none⟩ v3) :=
  put_below (((Below.refl w.heap.size w).alloc (Nat.le_refl _) _).trans (hb.mono (by simp))) (Nat.le_refl _) _ _ _ _

set_option maxHeartbeats 1000000 in
theorem takeLine_any (k : Nat) (kind : Int) (s : ByteArray) (w : World) (hs : s.size < 4294967281) (hk : inI64 kind) :
    Calls Tryd.prog 36 #[.int .i64 kind, .string s] w (TakeEnd (k + 1) (lineN kind s.data.toList : Sum Int (RNode (Rep k) × Nat)) w) := by
  have hx := fun w => index_any s w hs
  have hnew := Lib.hid (heap_alloc_new w (.cells #[.int .i64 0, .int .i64 0, .string ⟨#[]⟩, .slice none 0 0] 24))
  by_cases hi : Lib.indexAny s.data.toList [13, 10] < 0
  · have hR : Hid ((lineN kind s.data.toList : Sum Int (RNode (Rep k) × Nat)) = .inl 4) := Lib.hid (by unfold lineN; rw [line_none _ _ hi])
    generalize Lib.indexAny s.data.toList [13, 10] = v at hx hi
    go_enter Tryd.func36, Tryd.ntmps36
    go_wp2_with (go_at_call 51; ((with_reducible refine (hx _).mono ?_); rintro e w' ⟨rfl, hb⟩; obtain ⟨c0, c1, c2, c3, f0, f1, f2, f3⟩ := cells4 hb hnew.out (by simp)))
    have hl := laid4 (v0 := .int .i64 0) (v1 := .int .i64 0) (v2 := .string ⟨#[]⟩) (v3 := .slice none 0 0) ((hb.block w.heap.size (by simp)).trans hnew.out)
    have hB := Lib.hid (ret_below hb (v0 := .int .i64 0) (v1 := .int .i64 0) (v2 := .string ⟨#[]⟩) (v3 := .slice none 0 0))
    generalize ((((w'.setCell ⟨w.heap.size, 0, none⟩ (.int .i64 0)).setCell ⟨w.heap.size, 1, none⟩ (.int .i64 0)).setCell ⟨w.heap.size, 2, none⟩ (.string ⟨#[]⟩)).setCell ⟨w.heap.size, 3, none⟩ (.slice none 0 0)) = w2 at hl hB ⊢
    obtain ⟨d0, d1, d2, d3⟩ := read4 hl
    refine bodyPost_ret (v := .tuple #[.agg #[.int .i64 0, .int .i64 0, .string ⟨#[]⟩, .slice none 0 0], .int .i64 (0), .int .i64 (4)]) (by simp [results, Tryd.results36, go_sem, d0, d1, d2, d3]) rfl ?_
    exact take_no hR.out hB.out
  · obtain ⟨i, hv⟩ : ∃ i : Nat, Lib.indexAny s.data.toList [13, 10] = i := ⟨(Lib.indexAny s.data.toList [13, 10]).toNat, by omega⟩
    obtain ⟨hlt, hG⟩ := line_some s.data.toList [] i hv
    rw [hv] at hx
    have hlt' : i < s.size := by simpa using hlt
    clear hlt hi hv
    rw [List.nil_append] at hG
    rcases endF_cases (s.data.toList.drop i) with hz | hz | hz
    · have hR : Hid ((lineN kind s.data.toList : Sum Int (RNode (Rep k) × Nat)) = .inr (⟨kind, 0, s.data.toList.take i, []⟩, i + 2)) := Lib.hid (by
        unfold lineN; rw [hG, if_pos hz]
        simp only []
        rw [List.length_take, Nat.min_eq_left (by simp; omega)])
      have hzH := Lib.hid hz
      clear hz hG
      go_enter Tryd.func36, Tryd.ntmps36
      go_wp2_with (first
        | (go_at_call 51; ((with_reducible refine (hx _).mono ?_); rintro e w' ⟨rfl, hb⟩; obtain ⟨c0, c1, c2, c3, f0, f1, f2, f3⟩ := cells4 hb hnew.out (by simp)))
        | (go_at_call 52; ((with_reducible refine (ended_tail s i _ 0 hzH).mono ?_); rintro e w3 ⟨rfl, rfl⟩)))
      have hl := laid4 (v0 := .int .i64 kind) (v1 := .int .i64 0) (v2 := .string (s.extract 0 i)) (v3 := .slice none 0 0) ((hb.block w.heap.size (by simp)).trans hnew.out)
      have hB := Lib.hid (ret_below hb (v0 := .int .i64 kind) (v1 := .int .i64 0) (v2 := .string (s.extract 0 i)) (v3 := .slice none 0 0))
      generalize ((((w'.setCell ⟨w.heap.size, 0, none⟩ (.int .i64 kind)).setCell ⟨w.heap.size, 1, none⟩ (.int .i64 0)).setCell ⟨w.heap.size, 2, none⟩ (.string (s.extract 0 i))).setCell ⟨w.heap.size, 3, none⟩ (.slice none 0 0)) = w2 at hl hB ⊢
      obtain ⟨d0, d1, d2, d3⟩ := read4 hl
      refine bodyPost_ret (v := .tuple #[.agg #[.int .i64 kind, .int .i64 0, .string (s.extract 0 i), .slice none 0 0], .int .i64 ((i : Int) + 2), .int .i64 (0)]) (by simp [results, Tryd.results36, go_sem, d0, d1, d2, d3]) rfl ?_
      exact take_leaf hR.out (by omega) hB.out (head_data s i) hk (by unfold inI64; omega) (by simp; omega)
    · have hR : Hid ((lineN kind s.data.toList : Sum Int (RNode (Rep k) × Nat)) = .inl 4) := Lib.hid (by unfold lineN; rw [hG, if_neg (by rw [hz]; decide), hz])
      have hzH := Lib.hid hz
      clear hz hG
      go_enter Tryd.func36, Tryd.ntmps36
      go_wp2_with (first
        | (go_at_call 51; ((with_reducible refine (hx _).mono ?_); rintro e w' ⟨rfl, hb⟩; obtain ⟨c0, c1, c2, c3, f0, f1, f2, f3⟩ := cells4 hb hnew.out (by simp)))
        | (go_at_call 52; ((with_reducible refine (ended_tail s i _ 4 hzH).mono ?_); rintro e w3 ⟨rfl, rfl⟩)))
      have hl := laid4 (v0 := .int .i64 0) (v1 := .int .i64 0) (v2 := .string ⟨#[]⟩) (v3 := .slice none 0 0) ((hb.block w.heap.size (by simp)).trans hnew.out)
      have hB := Lib.hid (ret_below hb (v0 := .int .i64 0) (v1 := .int .i64 0) (v2 := .string ⟨#[]⟩) (v3 := .slice none 0 0))
      generalize ((((w'.setCell ⟨w.heap.size, 0, none⟩ (.int .i64 0)).setCell ⟨w.heap.size, 1, none⟩ (.int .i64 0)).setCell ⟨w.heap.size, 2, none⟩ (.string ⟨#[]⟩)).setCell ⟨w.heap.size, 3, none⟩ (.slice none 0 0)) = w2 at hl hB ⊢
      obtain ⟨d0, d1, d2, d3⟩ := read4 hl
      refine bodyPost_ret (v := .tuple #[.agg #[.int .i64 0, .int .i64 0, .string ⟨#[]⟩, .slice none 0 0], .int .i64 (0), .int .i64 (4)]) (by simp [results, Tryd.results36, go_sem, d0, d1, d2, d3]) rfl ?_
      exact take_no hR.out hB.out
    · have hR : Hid ((lineN kind s.data.toList : Sum Int (RNode (Rep k) × Nat)) = .inl 5) := Lib.hid (by unfold lineN; rw [hG, if_neg (by rw [hz]; decide), hz])
      have hzH := Lib.hid hz
      clear hz hG
      go_enter Tryd.func36, Tryd.ntmps36
      go_wp2_with (first
        | (go_at_call 51; ((with_reducible refine (hx _).mono ?_); rintro e w' ⟨rfl, hb⟩; obtain ⟨c0, c1, c2, c3, f0, f1, f2, f3⟩ := cells4 hb hnew.out (by simp)))
        | (go_at_call 52; ((with_reducible refine (ended_tail s i _ 5 hzH).mono ?_); rintro e w3 ⟨rfl, rfl⟩)))
      have hl := laid4 (v0 := .int .i64 0) (v1 := .int .i64 0) (v2 := .string ⟨#[]⟩) (v3 := .slice none 0 0) ((hb.block w.heap.size (by simp)).trans hnew.out)
      have hB := Lib.hid (ret_below hb (v0 := .int .i64 0) (v1 := .int .i64 0) (v2 := .string ⟨#[]⟩) (v3 := .slice none 0 0))
      generalize ((((w'.setCell ⟨w.heap.size, 0, none⟩ (.int .i64 0)).setCell ⟨w.heap.size, 1, none⟩ (.int .i64 0)).setCell ⟨w.heap.size, 2, none⟩ (.string ⟨#[]⟩)).setCell ⟨w.heap.size, 3, none⟩ (.slice none 0 0)) = w2 at hl hB ⊢
      obtain ⟨d0, d1, d2, d3⟩ := read4 hl
      refine bodyPost_ret (v := .tuple #[.agg #[.int .i64 0, .int .i64 0, .string ⟨#[]⟩, .slice none 0 0], .int .i64 (0), .int .i64 (5)]) (by simp [results, Tryd.results36, go_sem, d0, d1, d2, d3]) rfl ?_
      exact take_no hR.out hB.out

def mkInt (n : Int) : Value := .agg #[.int .i64 3, .int .i64 n, .string ⟨#[]⟩, .slice none 0 0]
def mkText (s : ByteArray) : Value := .agg #[.int .i64 4, .int .i64 0, .string s, .slice none 0 0]
theorem int_any (n : Int) (w : World) : Calls Tryd.prog 18 #[.int .i64 n] w fun e w' => e = .returned (.agg #[.int .i64 3, .int .i64 n, .string ⟨#[]⟩, .slice none 0 0]) ∧ Below w.heap.size w w' := by
  go_enter Tryd.func18, Tryd.ntmps18
  go_wp2_with fail
  exact bodyPost_ret (v := .agg #[.int .i64 3, .int .i64 n, .string ⟨#[]⟩, .slice none 0 0]) (by simp [results, Tryd.results18, go_sem]) rfl ⟨rfl, (Below.refl _ _).alloc (Nat.le_refl _) _⟩
theorem textr_any (s : ByteArray) (w : World) : Calls Tryd.prog 19 #[.string s] w fun e w' => e = .returned (.agg #[.int .i64 4, .int .i64 0, .string s, .slice none 0 0]) ∧ Below w.heap.size w w' := by
  go_enter Tryd.func19, Tryd.ntmps19
  go_wp2_with fail
  exact bodyPost_ret (v := .agg #[.int .i64 4, .int .i64 0, .string s, .slice none 0 0]) (by simp [results, Tryd.results19, go_sem]) rfl ⟨rfl, (Below.refl _ _).alloc (Nat.le_refl _) _⟩
theorem dec_as {s : ByteArray} {lo hi ab : Int} {R : Sum Int (Int × Nat)} (hs : s.size ≤ 140737488355328) (h : decGo lo hi ab [] s.data.toList = R) (w : World) :
    Calls Tryd.prog 53 #[.string s, .int .i64 lo, .int .i64 hi, .int .i64 ab] w fun e w' => DecEnd R e ∧ w = w' := by
  have := decimal_any s lo hi ab w hs
  rwa [h] at this
/-- The reader's fault is one of three. -/
theorem dec_err {lo hi ab : Int} (l : List UInt8) : ∀ (pre : List UInt8) (x : Int), decGo lo hi ab pre l = .inl x → x = 4 ∨ x = 5 ∨ x = ab := by
  induction l with
  | nil => intro pre x h; simp [decGo] at h; exact Or.inl h.symm
  | cons c l ih =>
    intro pre x h
    rw [decGo] at h
    split at h
    · split at h
      · simp at h; exact Or.inr (Or.inl h.symm)
      · split at h
        · simp at h; exact Or.inr (Or.inl h.symm)
        · split at h
          · simp at h; exact Or.inr (Or.inr h.symm)
          · exact ih _ _ h
    · split at h
      · exact ih _ _ h
      · split at h
        · simp at h; exact Or.inr (Or.inl h.symm)
        · unfold stopF at h
          split at h
          · cases h
          · rename_i hz
            rcases endF_cases (c :: l) with e | e | e
            · exact absurd e hz
            · simp [e] at h; exact Or.inl h.symm
            · simp [e] at h; exact Or.inr (Or.inl h.symm)
theorem dec_bounds {s : ByteArray} {lo hi ab n : Int} {k : Nat} (h : decGo lo hi ab [] s.data.toList = .inr (n, k)) : k ≤ s.size ∧ 2 ≤ k ∧ lo ≤ n ∧ n ≤ hi ∧ inI64 n := by
  obtain ⟨u, hu, rfl, h1, h2, h3⟩ := decGo_text _ _ _ _ h decOk_nil
  rw [List.nil_append] at hu
  have := congrArg List.length hu
  simp at this
  have e : s.size = s.data.size := rfl
  exact ⟨by omega, by omega, h1, h2, h3⟩

set_option maxHeartbeats 1000000 in
theorem takeNumber_any (k : Nat) (s : ByteArray) (w : World) (hs : s.size < 4294967281) :
    Calls Tryd.prog 37 #[.string s] w (TakeEnd (k + 1) (numN s.data.toList : Sum Int (RNode (Rep k) × Nat)) w) := by
  have hnew := Lib.hid (heap_alloc_new w (.cells #[.int .i64 0, .int .i64 0, .string ⟨#[]⟩, .slice none 0 0] 24))
  cases hD : decGo (-9223372036854775808) 9223372036854775807 5 [] s.data.toList with
  | inl x =>
    have hx := dec_as (s := s) (by omega) hD
    have hR : Hid ((numN s.data.toList : Sum Int (RNode (Rep k) × Nat)) = .inl x) := Lib.hid (by unfold numN; rw [hD])
    have hne : (x != 0) = true := by rcases dec_err _ _ _ hD with e | e | e <;> rw [e] <;> decide
    clear hD
    go_enter Tryd.func37, Tryd.ntmps37
    go_wp2_with (go_at_call 53; ((with_reducible refine (hx _).mono ?_); rintro e w' ⟨rfl, rfl⟩))
    refine bodyPost_ret (v := .tuple #[.agg #[.int .i64 0, .int .i64 0, .string ⟨#[]⟩, .slice none 0 0], .int .i64 (0), .int .i64 (x)]) (by simp [results, Tryd.results37, go_sem]) rfl ?_
    exact take_no hR.out ((Below.refl _ _).alloc (Nat.le_refl _) _)
  | inr q =>
    obtain ⟨n, j⟩ := q
    have hx := dec_as (s := s) (by omega) hD
    have hR : Hid ((numN s.data.toList : Sum Int (RNode (Rep k) × Nat)) = .inr (⟨3, n, [], []⟩, j)) := Lib.hid (by unfold numN; rw [hD])
    obtain ⟨_, _, _, _, hn⟩ := dec_bounds hD
    clear hD
    go_enter Tryd.func37, Tryd.ntmps37
    go_wp2_with (first
      | (go_at_call 53; ((with_reducible refine (hx _).mono ?_); rintro e w' ⟨rfl, rfl⟩))
      | (go_at_call 18; ((with_reducible refine (int_any n _).mono ?_); rintro e w' ⟨rfl, hb⟩; obtain ⟨c0, c1, c2, c3, f0, f1, f2, f3⟩ := cells4 hb hnew.out (by simp))))
    have hl := laid4 (v0 := .int .i64 3) (v1 := .int .i64 n) (v2 := .string ⟨#[]⟩) (v3 := .slice none 0 0) ((hb.block w.heap.size (by simp)).trans hnew.out)
    have hB := Lib.hid (ret_below hb (v0 := .int .i64 3) (v1 := .int .i64 n) (v2 := .string ⟨#[]⟩) (v3 := .slice none 0 0))
    generalize ((((w'.setCell ⟨w.heap.size, 0, none⟩ (.int .i64 3)).setCell ⟨w.heap.size, 1, none⟩ (.int .i64 n)).setCell ⟨w.heap.size, 2, none⟩ (.string ⟨#[]⟩)).setCell ⟨w.heap.size, 3, none⟩ (.slice none 0 0)) = w2 at hl hB ⊢
    obtain ⟨d0, d1, d2, d3⟩ := read4 hl
    refine bodyPost_ret (v := .tuple #[.agg #[.int .i64 3, .int .i64 n, .string ⟨#[]⟩, .slice none 0 0], .int .i64 (j), .int .i64 (0)]) (by simp [results, Tryd.results37, go_sem, d0, d1, d2, d3]) rfl ?_
    exact take_leaf hR.out rfl hB.out rfl (by unfold inI64; omega) hn (Nat.zero_le _)

set_option maxHeartbeats 2000000 in
theorem takeBulk_any (k : Nat) (s : ByteArray) (w : World) (hs : s.size < 4294967281) :
    Calls Tryd.prog 38 #[.string s] w (TakeEnd (k + 1) (bulkN s.data.toList : Sum Int (RNode (Rep k) × Nat)) w) := by
  have hnew := Lib.hid (heap_alloc_new w (.cells #[.int .i64 0, .int .i64 0, .string ⟨#[]⟩, .slice none 0 0] 24))
  cases hD : decGo (-1) 1048576 6 [] s.data.toList with
  | inl x =>
    have hx := dec_as (s := s) (by omega) hD
    have hR : Hid ((bulkN s.data.toList : Sum Int (RNode (Rep k) × Nat)) = .inl x) := Lib.hid (by unfold bulkN; rw [hD])
    have hne : (x != 0) = true := by rcases dec_err _ _ _ hD with e | e | e <;> rw [e] <;> decide
    clear hD
    go_enter Tryd.func38, Tryd.ntmps38
    go_wp2_with (go_at_call 53; ((with_reducible refine (hx _).mono ?_); rintro e w' ⟨rfl, rfl⟩))
    refine bodyPost_ret (v := .tuple #[.agg #[.int .i64 0, .int .i64 0, .string ⟨#[]⟩, .slice none 0 0], .int .i64 (0), .int .i64 (x)]) (by simp [results, Tryd.results38, go_sem]) rfl ?_
    exact take_no hR.out ((Below.refl _ _).alloc (Nat.le_refl _) _)
  | inr q =>
    obtain ⟨n, j⟩ := q
    have hx := dec_as (s := s) (by omega) hD
    have hG : (bulkN s.data.toList : Sum Int (RNode (Rep k) × Nat)) = bodyN n j (s.data.toList.drop j) := by unfold bulkN; rw [hD]
    obtain ⟨hj, _, hlo, hhi, _⟩ := dec_bounds hD
    clear hD
    by_cases hn1 : n = -1
    · subst hn1
      have hR : Hid ((bulkN s.data.toList : Sum Int (RNode (Rep k) × Nat)) = .inr (⟨5, 0, [], []⟩, j)) := Lib.hid (by rw [hG]; unfold bodyN; rw [if_pos rfl])
      clear hG
      go_enter Tryd.func38, Tryd.ntmps38
      go_wp2_with (go_at_call 53; ((with_reducible refine (hx _).mono ?_); rintro e w' ⟨rfl, rfl⟩))
      refine bodyPost_ret (v := .tuple #[.agg #[.int .i64 5, .int .i64 0, .string ⟨#[]⟩, .slice none 0 0], .int .i64 (j), .int .i64 (0)]) (by simp [results, Tryd.results38, go_sem]) rfl ?_
      exact take_leaf hR.out rfl ((Below.refl _ _).alloc (Nat.le_refl _) _) rfl (by unfold inI64; omega) (by unfold inI64; omega) (Nat.zero_le _)
    · obtain ⟨m, rfl⟩ : ∃ m : Nat, n = (m : Int) := ⟨n.toNat, by omega⟩
      have hq : ((m : Int) == -1) = false := beq_eq_false_iff_ne.2 (by omega)
      obtain ⟨t, ht⟩ : ∃ t, s.extract j s.size = t := ⟨_, rfl⟩
      have htd : t.data.toList = s.data.toList.drop j := by rw [← ht]; exact tail_data s j
      have htz : t.size = s.size - j := by rw [← ht]; simp
      have hG2 : (bulkN s.data.toList : Sum Int (RNode (Rep k) × Nat)) = if t.size < m then .inl 4 else if endF (t.data.toList.drop m) = 0 then .inr (⟨4, 0, t.data.toList.take m, []⟩, j + m + 2) else .inl (endF (t.data.toList.drop m)) := by
        rw [hG, ← htd]; unfold bodyN; rw [if_neg hn1, Int.toNat_natCast]
        have : t.data.toList.length = t.size := by simp
        rw [this]
      clear hG hn1
      have htzH := Lib.hid htz
      have htl : t.size ≤ s.size := by omega
      clear htz htd
      by_cases hlt : t.size < m
      · have hR : Hid ((bulkN s.data.toList : Sum Int (RNode (Rep k) × Nat)) = .inl 4) := Lib.hid (by rw [hG2, if_pos hlt])
        clear hG2
        go_enter Tryd.func38, Tryd.ntmps38
        go_wp2_with (go_at_call 53; ((with_reducible refine (hx _).mono ?_); rintro e w' ⟨rfl, rfl⟩))
        refine bodyPost_ret (v := .tuple #[.agg #[.int .i64 0, .int .i64 0, .string ⟨#[]⟩, .slice none 0 0], .int .i64 (0), .int .i64 (4)]) (by simp [results, Tryd.results38, go_sem]) rfl ?_
        exact take_no hR.out ((Below.refl _ _).alloc (Nat.le_refl _) _)
      · rw [if_neg hlt] at hG2
        rcases endF_cases (t.data.toList.drop m) with hz | hz | hz
        · have hR : Hid ((bulkN s.data.toList : Sum Int (RNode (Rep k) × Nat)) = .inr (⟨4, 0, t.data.toList.take m, []⟩, j + m + 2)) := Lib.hid (by rw [hG2, if_pos hz])
          have hzH := Lib.hid hz
          clear hz hG2
          go_enter Tryd.func38, Tryd.ntmps38
          go_wp2_with (first
            | (go_at_call 53; ((with_reducible refine (hx _).mono ?_); rintro e w' ⟨rfl, rfl⟩))
            | (go_at_call 52; ((with_reducible refine (ended_tail t m _ 0 hzH).mono ?_); rintro e w3 ⟨rfl, rfl⟩))
            | (go_at_call 19; ((with_reducible refine (textr_any (t.extract 0 m) _).mono ?_); rintro e w' ⟨rfl, hb⟩; obtain ⟨c0, c1, c2, c3, f0, f1, f2, f3⟩ := cells4 hb hnew.out (by simp))))
          have hl := laid4 (v0 := .int .i64 4) (v1 := .int .i64 0) (v2 := .string (t.extract 0 m)) (v3 := .slice none 0 0) ((hb.block w.heap.size (by simp)).trans hnew.out)
          have hB := Lib.hid (ret_below hb (v0 := .int .i64 4) (v1 := .int .i64 0) (v2 := .string (t.extract 0 m)) (v3 := .slice none 0 0))
          generalize ((((w'.setCell ⟨w.heap.size, 0, none⟩ (.int .i64 4)).setCell ⟨w.heap.size, 1, none⟩ (.int .i64 0)).setCell ⟨w.heap.size, 2, none⟩ (.string (t.extract 0 m))).setCell ⟨w.heap.size, 3, none⟩ (.slice none 0 0)) = w2 at hl hB ⊢
          obtain ⟨d0, d1, d2, d3⟩ := read4 hl
          refine bodyPost_ret (v := .tuple #[.agg #[.int .i64 4, .int .i64 0, .string (t.extract 0 m), .slice none 0 0], .int .i64 ((j : Int) + m + 2), .int .i64 (0)]) (by simp [results, Tryd.results38, go_sem, d0, d1, d2, d3]) rfl ?_
          exact take_leaf hR.out (by omega) hB.out (head_data t m) (by unfold inI64; omega) (by unfold inI64; omega) (by simp; omega)
        · have hR : Hid ((bulkN s.data.toList : Sum Int (RNode (Rep k) × Nat)) = .inl 4) := Lib.hid (by rw [hG2, if_neg (by rw [hz]; decide), hz])
          have hzH := Lib.hid hz
          clear hz hG2
          go_enter Tryd.func38, Tryd.ntmps38
          go_wp2_with (first
            | (go_at_call 53; ((with_reducible refine (hx _).mono ?_); rintro e w' ⟨rfl, rfl⟩))
            | (go_at_call 52; ((with_reducible refine (ended_tail t m _ 4 hzH).mono ?_); rintro e w3 ⟨rfl, rfl⟩)))
          refine bodyPost_ret (v := .tuple #[.agg #[.int .i64 0, .int .i64 0, .string ⟨#[]⟩, .slice none 0 0], .int .i64 (0), .int .i64 (4)]) (by simp [results, Tryd.results38, go_sem]) rfl ?_
          exact take_no hR.out ((Below.refl _ _).alloc (Nat.le_refl _) _)
        · have hR : Hid ((bulkN s.data.toList : Sum Int (RNode (Rep k) × Nat)) = .inl 5) := Lib.hid (by rw [hG2, if_neg (by rw [hz]; decide), hz])
          have hzH := Lib.hid hz
          clear hz hG2
          go_enter Tryd.func38, Tryd.ntmps38
          go_wp2_with (first
            | (go_at_call 53; ((with_reducible refine (hx _).mono ?_); rintro e w' ⟨rfl, rfl⟩))
            | (go_at_call 52; ((with_reducible refine (ended_tail t m _ 5 hzH).mono ?_); rintro e w3 ⟨rfl, rfl⟩)))
          refine bodyPost_ret (v := .tuple #[.agg #[.int .i64 0, .int .i64 0, .string ⟨#[]⟩, .slice none 0 0], .int .i64 (0), .int .i64 (5)]) (by simp [results, Tryd.results38, go_sem]) rfl ?_
          exact take_no hR.out ((Below.refl _ _).alloc (Nat.le_refl _) _)

end Go.Proofs.YtogbjhpkbdmllaaDoor
