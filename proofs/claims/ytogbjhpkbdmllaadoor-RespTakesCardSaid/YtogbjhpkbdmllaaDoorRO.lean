/-
  The walks of the readers as the packages hand them out, and of the law's own small look. A premise: the library's table of powers of ten holds what its initialiser lays.
-/
import Derived.Test.YtogbjhpkbdmllaaDoorRH
import Derived.Test.YtogbjhpkbdmllaaDoorRL
import Derived.Test.YtogbjhpkbdmllaaDoorRM
import Derived.Test.YtogbjhpkbdmllaaDoorRN
import Derived.Deep.RegionHeld3
import Derived.StillTailTactics
namespace Go.Proofs.YtogbjhpkbdmllaaDoor
open Go.RowKit Rp Dec

theorem sameL_symm {α β : Type} {f : α → β → Bool} {g : β → α → Bool} (h : ∀ a b, f a b = g b a) : ∀ (l : List α) (m : List β), sameL f l m = sameL g m l
  | [], [] => rfl
  | [], _ :: _ => rfl
  | _ :: _, [] => rfl
  | a :: l, b :: m => by rw [sameL, sameL, h, sameL_symm h l m]
theorem sameF_symm (n : Nat) : ∀ (m : Nat) (x : Rep n) (y : Rep m), sameF n m x y = sameF m n y x := by
  induction n with
  | zero => intro m x; exact x.elim
  | succ n ih =>
    intro m
    cases m with
    | zero => intro x y; exact y.elim
    | succ m =>
      intro x y
      show sameN (sameF n m) (x : RNode (Rep n)) (y : RNode (Rep m)) = sameN (sameF m n) (y : RNode (Rep m)) (x : RNode (Rep n))
      unfold sameN
      rw [sameL_symm (ih m), Bool.beq_comm (a := (x : RNode (Rep n)).kind), Bool.beq_comm (a := (x : RNode (Rep n)).num), Bool.beq_comm (a := (x : RNode (Rep n)).txt)]

set_option maxHeartbeats 2000000 in
theorem Take_any (s : ByteArray) (w : World) (hs : s.size < 4294967281) : Calls Tryd.prog 14 #[.string s] w (TakeEnd 9 (takeF 9 s.data.toList) w) := by
  have hnew := Lib.hid (heap_alloc_new w (.cells #[.int .i64 0, .int .i64 0, .string ⟨#[]⟩, .slice none 0 0] 24))
  have hcall : ∀ w, Calls Tryd.prog 26 #[.string s, .int .i64 0] w (TakeEnd 9 (takeF 9 s.data.toList) w) := fun w => take_any 8 0 rfl s w hs
  cases hR : takeF 9 s.data.toList with
  | inl x =>
    rw [hR] at hcall
    clear hR
    have hcall' := hcall (w.alloc (.cells #[.int .i64 0, .int .i64 0, .string ⟨#[]⟩, .slice none 0 0] 24))
    go_enter Tryd.func14, Tryd.ntmps14
    go_wp2_with (go_at_call 26; ((with_reducible refine hcall'.mono ?_); rintro e w1 ⟨hb, rfl⟩; obtain ⟨c0, c1, c2, c3, f0, f1, f2, f3⟩ := cells4 hb hnew.out (by simp)))
    have hl := laid4 (v0 := .int .i64 0) (v1 := .int .i64 0) (v2 := .string ⟨#[]⟩) (v3 := .slice none 0 0) ((hb.block w.heap.size (by simp)).trans hnew.out)
    have hB := Lib.hid (ret_below hb (v0 := .int .i64 0) (v1 := .int .i64 0) (v2 := .string ⟨#[]⟩) (v3 := .slice none 0 0))
    generalize ((((w1.setCell ⟨w.heap.size, 0, none⟩ (.int .i64 0)).setCell ⟨w.heap.size, 1, none⟩ (.int .i64 0)).setCell ⟨w.heap.size, 2, none⟩ (.string ⟨#[]⟩)).setCell ⟨w.heap.size, 3, none⟩ (.slice none 0 0)) = w2 at hl hB ⊢
    obtain ⟨d0, d1, d2, d3⟩ := read4 hl
    refine bodyPost_ret (v := .tuple #[.agg #[.int .i64 0, .int .i64 0, .string ⟨#[]⟩, .slice none 0 0], .int .i64 0, .int .i64 x]) (by simp [results, Tryd.results14, go_sem, d0, d1, d2, d3]) rfl ?_
    exact take_no rfl hB.out
  | inr q =>
    obtain ⟨y, n⟩ := q
    rw [hR] at hcall
    clear hR
    have hcall' := (hcall (w.alloc (.cells #[.int .i64 0, .int .i64 0, .string ⟨#[]⟩, .slice none 0 0] 24))).mono fun e w' h => TakeEnd.inr h
    clear hcall
    go_enter Tryd.func14, Tryd.ntmps14
    go_wp2_with (go_at_call 26; ((with_reducible refine hcall'.mono ?_); rintro e w1 ⟨kd, nm, b, A, len, cap, rfl, hb, hr⟩; obtain ⟨c0, c1, c2, c3, f0, f1, f2, f3⟩ := cells4 hb hnew.out (by simp)))
    have hl := laid4 (v0 := .int .i64 kd) (v1 := .int .i64 nm) (v2 := .string b) (v3 := .slice A len cap) ((hb.block w.heap.size (by simp)).trans hnew.out)
    have hB := Lib.hid (ret_below hb (v0 := .int .i64 kd) (v1 := .int .i64 nm) (v2 := .string b) (v3 := .slice A len cap))
    have hO := Lib.hid (hr.keep (W' := ((((w1.setCell ⟨w.heap.size, 0, none⟩ (.int .i64 kd)).setCell ⟨w.heap.size, 1, none⟩ (.int .i64 nm)).setCell ⟨w.heap.size, 2, none⟩ (.string b)).setCell ⟨w.heap.size, 3, none⟩ (.slice A len cap))) (ok' := fun b => w.heap.size ≤ b) (fun p hp _ => put_other p (by simp at hp; omega)) (by simp) (fun b hb _ => by simp at hb; omega))
    generalize ((((w1.setCell ⟨w.heap.size, 0, none⟩ (.int .i64 kd)).setCell ⟨w.heap.size, 1, none⟩ (.int .i64 nm)).setCell ⟨w.heap.size, 2, none⟩ (.string b)).setCell ⟨w.heap.size, 3, none⟩ (.slice A len cap)) = w2 at hl hB hO ⊢
    obtain ⟨d0, d1, d2, d3⟩ := read4 hl
    refine bodyPost_ret (v := .tuple #[.agg #[.int .i64 kd, .int .i64 nm, .string b, .slice A len cap], .int .i64 n, .int .i64 0]) (by simp [results, Tryd.results14, go_sem, d0, d1, d2, d3]) rfl ?_
    exact take_put rfl rfl hB.out hO.out

/-- The small look's replies. -/
def lookX : List (Int × Int × ByteArray) := [(4, 0, ⟨#[97]⟩), (3, 5, ⟨#[]⟩)]
def lookB : ByteArray := ⟨#[42, 50, 13, 10, 36, 49, 13, 10, 97, 13, 10, 58, 53, 13, 10]⟩
theorem look_put : putF 2 0 (manyR lookX) = (lookB.data.toList, 0) := by decide +kernel
theorem look_take : ∃ y, takeF 9 lookB.data.toList = .inr (y, 15) ∧ sameF 2 9 (manyR lookX) y = true := by
  have h := putF_takes 2 0 8 (manyR lookX) rfl ?_ (by rw [look_put]) []
  · rw [look_put] at h
    obtain ⟨y, h1, h2⟩ := h
    simp only [List.append_nil] at h1
    exact ⟨y, h1, h2⟩
  · refine ⟨by show inI64 0; unfold inI64; omega, by show ([] : List UInt8).length ≤ _; simp, fun y hy => ?_⟩
    have hy' : y ∈ lookX.map flatR := hy
    obtain ⟨x, hx, rfl⟩ := List.mem_map.1 hy'
    simp [lookX] at hx
    rcases hx with rfl | rfl
    · exact ⟨by show inI64 0; unfold inI64; omega, by show ([97] : List UInt8).length ≤ _; simp, fun y hy => by simp [flatR] at hy⟩
    · exact ⟨by show inI64 5; unfold inI64; omega, by show ([] : List UInt8).length ≤ _; simp, fun y hy => by simp [flatR] at hy⟩

theorem look_ok : ∀ x ∈ lookX, flatOk x := by
  intro x hx
  simp [lookX] at hx
  rcases hx with rfl | rfl <;> exact ⟨by unfold inI64; decide, by unfold inI64; decide, by decide⟩
/-- The row of the look's two replies. -/
theorem look_row (w : World) : ∀ j u, (flats lookX)[j]? = some u → (w.alloc (.cells #[.int .i64 4, .int .i64 0, .string ⟨#[97]⟩, .slice none 0 0, .int .i64 3, .int .i64 5, .string ⟨#[]⟩, .slice none 0 0] 24)).cell? ((⟨w.heap.size, 0, none⟩ : Addr).add j) = some u := by
  intro j u hu
  exact new_cells w (flats lookX) j u hu
theorem look_many (w : World) : Calls Tryd.prog 20 #[.slice (some ⟨w.heap.size, 0, none⟩) 2 2] (w.alloc (.cells #[.int .i64 4, .int .i64 0, .string ⟨#[97]⟩, .slice none 0 0, .int .i64 3, .int .i64 5, .string ⟨#[]⟩, .slice none 0 0] 24)) fun e w' =>
    ∃ A cap', e = .returned (.agg #[.int .i64 6, .int .i64 0, .string ⟨#[]⟩, .slice A 2 cap']) ∧ RAt w' (fun _ => True) 2 (manyR lookX) [.int .i64 6, .int .i64 0, .string ⟨#[]⟩, .slice A 2 cap'] ∧ Below w.heap.size w w' := by
  refine (many_flat lookX ⟨w.heap.size, 0, none⟩ 2 _ (by decide) (by decide) look_ok (fun j u _ => ?_) (look_row w)).mono fun e w' ⟨A, cap', h1, h2, h3⟩ => ⟨A, cap', h1, h2, ?_⟩
  · rw [block_of_add]; simp
  · exact one_box'.trans (h3.mono (by simp))
theorem look_many' (w : World) : Calls Tryd.prog 20 #[.slice (some ⟨w.heap.size, 0, none⟩) 2 2] (w.alloc (.cells #[.int .i64 4, .int .i64 0, .string ⟨#[97]⟩, .slice none 0 0, .int .i64 3, .int .i64 5, .string ⟨#[]⟩, .slice none 0 0] 24)) fun e w' =>
    ∃ A cap', e = .returned (.agg #[.int .i64 6, .int .i64 0, .string ⟨#[]⟩, .slice A 2 cap']) ∧ RAt w' (fun _ => True) 2 (manyR lookX) [.int .i64 6, .int .i64 0, .string ⟨#[]⟩, .slice A 2 cap'] ∧
      Below (w.alloc (.cells #[.int .i64 4, .int .i64 0, .string ⟨#[97]⟩, .slice none 0 0, .int .i64 3, .int .i64 5, .string ⟨#[]⟩, .slice none 0 0] 24)).heap.size (w.alloc (.cells #[.int .i64 4, .int .i64 0, .string ⟨#[97]⟩, .slice none 0 0, .int .i64 3, .int .i64 5, .string ⟨#[]⟩, .slice none 0 0] 24)) w' := by
  refine (many_flat lookX ⟨w.heap.size, 0, none⟩ 2 _ (by decide) (by decide) look_ok (fun j u _ => ?_) (look_row w)).mono fun e w' ⟨A, cap', h1, h2, h3⟩ => ⟨A, cap', h1, h2, h3⟩
  rw [block_of_add]; simp
theorem look_Put (w : World) (hT : Tab w) {A : Option Addr} {cap : Nat} (h : RAt w (fun _ => True) 2 (manyR lookX) [.int .i64 6, .int .i64 0, .string ⟨#[]⟩, .slice A 2 cap]) :
    Calls Tryd.prog 10 #[.agg #[.int .i64 6, .int .i64 0, .string ⟨#[]⟩, .slice A 2 cap]] w fun e w' => e = .returned (.tuple #[.string ⟨#[42, 50, 13, 10, 36, 49, 13, 10, 97, 13, 10, 58, 53, 13, 10]⟩, .int .i64 0]) ∧ Below w.heap.size w w' := by
  have hp := Put_any 2 (manyR lookX) #[.int .i64 6, .int .i64 0, .string ⟨#[]⟩, .slice A 2 cap] w hT h (calm_put 2 0 _ (by rw [look_put]) (by rw [look_put]; decide)) (by rw [look_put]; decide)
  rw [look_put] at hp
  exact hp
theorem look_Take (w : World) : Calls Tryd.prog 14 #[.string ⟨#[42, 50, 13, 10, 36, 49, 13, 10, 97, 13, 10, 58, 53, 13, 10]⟩] w fun e w' => ∃ (y : Rep 9) (kd nm : Int) (b : ByteArray) (A : Option Addr) (len cap : Nat), e = .returned (.tuple #[.agg #[.int .i64 kd, .int .i64 nm, .string b, .slice A len cap], .int .i64 15, .int .i64 0]) ∧ Below w.heap.size w w' ∧
    RAt w' (fun b => w.heap.size ≤ b) 9 y [.int .i64 kd, .int .i64 nm, .string b, .slice A len cap] ∧ sameF 9 2 y (manyR lookX) = true := by
  obtain ⟨y, h1, h2⟩ := look_take
  have ht := Take_any lookB w (by decide)
  rw [h1] at ht
  refine ht.mono fun e w' h => ?_
  obtain ⟨kd, nm, b, A, len, cap, he, hb, hr⟩ := TakeEnd.inr h
  exact ⟨y, kd, nm, b, A, len, cap, he, hb, hr, by rw [sameF_symm]; exact h2⟩

theorem keep4 {W W' : World} {b : Nat} {c0 c1 c2 c3 : Value} (hb : Below W.heap.size W W') (hl : b < W.heap.size)
    (h0 : W.cell? ⟨b, 0, none⟩ = some c0) (h1 : W.cell? ⟨b, 1, none⟩ = some c1) (h2 : W.cell? ⟨b, 2, none⟩ = some c2) (h3 : W.cell? ⟨b, 3, none⟩ = some c3) :
    W'.cell? ⟨b, 0, none⟩ = some c0 ∧ W'.cell? ⟨b, 1, none⟩ = some c1 ∧ W'.cell? ⟨b, 2, none⟩ = some c2 ∧ W'.cell? ⟨b, 3, none⟩ = some c3 ∧ b < W'.heap.size :=
  ⟨(hb.cell (p := ⟨b, 0, none⟩) hl).trans h0, (hb.cell (p := ⟨b, 1, none⟩) hl).trans h1, (hb.cell (p := ⟨b, 2, none⟩) hl).trans h2, (hb.cell (p := ⟨b, 3, none⟩) hl).trans h3, Nat.lt_of_lt_of_le hl hb.size⟩
theorem onB {w6 a c : World} (h : Below w6.heap.size w6 a) (k : Below a.heap.size a c) : Below w6.heap.size w6 c := h.trans (k.mono h.size)
theorem onA {w6 a : World} (h : Below w6.heap.size w6 a) (o : Obj) : Below w6.heap.size w6 (a.alloc o) := h.alloc h.size o
theorem heldS {w6 : World} {b : Nat} {c0 c1 c2 c3 : Value} (hl : b < w6.heap.size) (h0 : w6.cell? ⟨b, 0, none⟩ = some c0) (h1 : w6.cell? ⟨b, 1, none⟩ = some c1) (h2 : w6.cell? ⟨b, 2, none⟩ = some c2) (h3 : w6.cell? ⟨b, 3, none⟩ = some c3) {W : World} (hb : Below w6.heap.size w6 W) :
    W.cell? ⟨b, 0, none⟩ = some c0 ∧ W.cell? ⟨b, 1, none⟩ = some c1 ∧ W.cell? ⟨b, 2, none⟩ = some c2 ∧ W.cell? ⟨b, 3, none⟩ = some c3 ∧ Below w6.heap.size w6 W :=
  ⟨(hb.cell (p := ⟨b, 0, none⟩) hl).trans h0, (hb.cell (p := ⟨b, 1, none⟩) hl).trans h1, (hb.cell (p := ⟨b, 2, none⟩) hl).trans h2, (hb.cell (p := ⟨b, 3, none⟩) hl).trans h3, hb⟩
set_option maxRecDepth 100000 in
set_option maxHeartbeats 400000 in
theorem alive_any (w : World) (hT : Hid (Tab w)) : Calls Tryd.prog 9 #[] w fun e w' => e = .returned (.bool true) ∧ Below w.heap.size w w' := by
  go_enter Tryd.func9, Tryd.ntmps9
  go_wp2_with (first
    | (go_at_call 19; ((with_reducible refine (textr_any ⟨#[97]⟩ _).mono ?_); rintro e w1 ⟨rfl, hb1⟩))
    | (go_at_call 18; ((with_reducible refine (int_any 5 _).mono ?_); rintro e w2 ⟨rfl, hb2⟩))
    | (go_at_call 20; ((with_reducible refine (look_many w2).mono ?_); rintro e w3 ⟨A3, cap3, rfl, hr3, hb3⟩; have hW3 := (hb1.trans (hb2.mono hb1.size)).trans (hb3.mono (Nat.le_trans hb1.size hb2.size))))
    | (go_at_call 10; ((with_reducible refine (look_Put w3 (hT.out.on hW3) hr3).mono ?_); rintro e w4 ⟨rfl, hb4⟩))
    | (go_at_call 14; ((with_reducible refine (look_Take w4).mono ?_); rintro e w5 ⟨y, kd, nm, b, A5, len5, cap5, rfl, hb5, hr5, hs5⟩)))
  have hW5 := (hb1.trans (hb2.mono hb1.size)).trans ((hb3.mono (Nat.le_trans hb1.size hb2.size)).trans ((hb4.mono (Nat.le_trans (Nat.le_trans hb1.size hb2.size) hb3.size)).trans (hb5.mono (Nat.le_trans (Nat.le_trans (Nat.le_trans hb1.size hb2.size) hb3.size) hb4.size))))
  have hW6 := hW5.alloc hW5.size (.cells #[.int .i64 kd, .int .i64 nm, .string b, .slice A5 len5 cap5] 24)
  have hr6 := hr5.on (one_box' (w := w5) (o := .cells #[.int .i64 kd, .int .i64 nm, .string b, .slice A5 len5 cap5] 24))
  have hbox := cellsB (heap_alloc_new w5 (.cells #[.int .i64 kd, .int .i64 nm, .string b, .slice A5 len5 cap5] 24))
  have hlt6 : w5.heap.size < (w5.alloc (.cells #[.int .i64 kd, .int .i64 nm, .string b, .slice A5 len5 cap5] 24)).heap.size := by simp
  generalize w5.alloc (.cells #[.int .i64 kd, .int .i64 nm, .string b, .slice A5 len5 cap5] 24) = w6 at hW6 hr6 hbox hlt6 ⊢
  generalize w5.heap.size = g at hbox hlt6 ⊢
  obtain ⟨x0, x1, x2, x3⟩ := hbox
  have hW6H := Lib.hid hW6
  clear hW5 hW6 hb1 hb2 hb3 hb4 hb5 hr3 hr5 hW3
  have hK0 := Lib.hid (heldS hlt6 x0 x1 x2 x3 (Below.drew (Below.refl w6.heap.size w6)))
  have hOn : Hid (∀ a c, Below a.heap.size a c → (a.cell? ⟨g, 0, none⟩ = some (.int .i64 kd) ∧ a.cell? ⟨g, 1, none⟩ = some (.int .i64 nm) ∧ a.cell? ⟨g, 2, none⟩ = some (.string b) ∧ a.cell? ⟨g, 3, none⟩ = some (.slice A5 len5 cap5) ∧ Below w6.heap.size w6 a) → (c.cell? ⟨g, 0, none⟩ = some (.int .i64 kd) ∧ c.cell? ⟨g, 1, none⟩ = some (.int .i64 nm) ∧ c.cell? ⟨g, 2, none⟩ = some (.string b) ∧ c.cell? ⟨g, 3, none⟩ = some (.slice A5 len5 cap5) ∧ Below w6.heap.size w6 c)) := Lib.hid fun a c k h => heldS hlt6 x0 x1 x2 x3 (onB h.2.2.2.2 k)
  have hOA : Hid (∀ a o, (a.cell? ⟨g, 0, none⟩ = some (.int .i64 kd) ∧ a.cell? ⟨g, 1, none⟩ = some (.int .i64 nm) ∧ a.cell? ⟨g, 2, none⟩ = some (.string b) ∧ a.cell? ⟨g, 3, none⟩ = some (.slice A5 len5 cap5) ∧ Below w6.heap.size w6 a) → ((a.alloc o).cell? ⟨g, 0, none⟩ = some (.int .i64 kd) ∧ (a.alloc o).cell? ⟨g, 1, none⟩ = some (.int .i64 nm) ∧ (a.alloc o).cell? ⟨g, 2, none⟩ = some (.string b) ∧ (a.alloc o).cell? ⟨g, 3, none⟩ = some (.slice A5 len5 cap5) ∧ Below w6.heap.size w6 (a.alloc o))) := Lib.hid fun a o h => heldS hlt6 x0 x1 x2 x3 (onA h.2.2.2.2 o)
  have hOB : Hid (∀ a, (a.cell? ⟨g, 0, none⟩ = some (.int .i64 kd) ∧ a.cell? ⟨g, 1, none⟩ = some (.int .i64 nm) ∧ a.cell? ⟨g, 2, none⟩ = some (.string b) ∧ a.cell? ⟨g, 3, none⟩ = some (.slice A5 len5 cap5) ∧ Below w6.heap.size w6 a) → Below w6.heap.size w6 a) := Lib.hid fun a h => h.2.2.2.2
  go_region_held3 (fun w' => w'.cell? ⟨g, 0, none⟩ = some (.int .i64 kd) ∧ w'.cell? ⟨g, 1, none⟩ = some (.int .i64 nm) ∧ w'.cell? ⟨g, 2, none⟩ = some (.string b) ∧ w'.cell? ⟨g, 3, none⟩ = some (.slice A5 len5 cap5) ∧ Below w6.heap.size w6 w')
    (first | exact hK0.out | exact hOn.out _ _ (by assumption) (by assumption) | exact hOA.out _ _ (by assumption))
    (first
    | (go_at_call 19; ((with_reducible refine (textr_any ⟨#[97]⟩ _).mono ?_); rintro e u1 ⟨rfl, b1⟩))
    | (go_at_call 18; ((with_reducible refine (int_any 5 _).mono ?_); rintro e u2 ⟨rfl, b2⟩))
    | (go_at_call 20; ((with_reducible refine (look_many' _).mono ?_); rintro e u3 ⟨A6, cap6, rfl, hr7, b3⟩))
    | (go_at_call 12; ((with_reducible refine (same_any 9 2 y (manyR lookX) #[.int .i64 kd, .int .i64 nm, .string b, .slice A5 len5 cap5] #[.int .i64 6, .int .i64 0, .string ⟨#[]⟩, .slice _ 2 _] _ ((hr6.on (hOB.out _ (by assumption))).weaken fun _ _ _ => trivial) (by assumption)).mono ?_); rw [hs5]; rintro e u4 ⟨rfl, b4⟩)))
  go_wp2_with fail
  go_ret
  exact ⟨rfl, hW6H.out.trans ((hOB.out _ (by assumption)).mono hW6H.out.size)⟩

end Go.Proofs.YtogbjhpkbdmllaaDoor
