/-
  A list of levels: what is written and what stays; the walks of its small parts. No condition but the sizes of texts.
-/
import Derived.Test.YtijfipghoilpeaaDoorMath
import Derived.WalkKit
import Derived.WalkSpells
import Derived.WalkLawsBesides
import Derived.Deep.QuietTactic
import Derived.BigQuiet
import Derived.Lib.Hide
import Derived.Lib.SmallJoins
import Derived.Outline
import Derived.OwnWalk
namespace Go.Proofs.YtijfipghoilpeaaDoor
open Go.RowKit

/-- Nothing is written but the blocks of a list, and new ones. -/
def Only (O : List Nat) (w w' : World) : Prop := Below 0 w w' ∧ ∀ k, k < w.heap.size → k ∉ O → w'.heap[k]? = w.heap[k]?
theorem Only.refl (O : List Nat) (w : World) : Only O w w := ⟨Below.refl _ _, fun _ _ _ => rfl⟩
theorem Only.size {O : List Nat} {w w' : World} (h : Only O w w') : w.heap.size ≤ w'.heap.size := h.1.size
theorem Only.trans {O O' : List Nat} {a b c : World} (h : Only O a b) (k : Only O' b c) (hO : ∀ x ∈ O', x ∈ O ∨ a.heap.size ≤ x) : Only O a c := by
  refine ⟨h.1.trans k.1, fun x hx hn => ?_⟩
  have := h.size
  rw [k.2 x (by omega) (fun hm => (hO x hm).elim hn (fun h1 => by omega)), h.2 x hx hn]
theorem Only.set {O : List Nat} {a w : World} (h : Only O a w) {p : Addr} (hp : p.block ∈ O ∨ a.heap.size ≤ p.block) (v : Value) : Only O a (w.setCell p v) := by
  refine ⟨h.1.setCell (Nat.zero_le _) v, fun x hx hn => ?_⟩
  rw [Below.heap_setCell _ _ _ _ (fun e => by subst e; exact hp.elim hn (fun h1 => by omega)), h.2 x hx hn]
theorem Only.row {O : List Nat} {a w : World} (h : Only O a w) {g : Nat} (hp : g ∈ O ∨ a.heap.size ≤ g) (cs : Array Value) : Only O a (w.setRow g cs) := by
  refine ⟨h.1.trans ⟨rfl, rfl, rfl, by simp, fun k hk => absurd hk (Nat.not_lt_zero k)⟩, fun x hx hn => ?_⟩
  rw [setRow_other w g x cs (fun e => by subst e; exact hp.elim hn (fun h1 => by omega)), h.2 x hx hn]
theorem Only.alloc {O : List Nat} {a w : World} (h : Only O a w) (o : Obj) : Only O a (w.alloc o) := by
  have := h.size
  exact ⟨h.1.alloc (Nat.zero_le _) o, fun x hx hn => by rw [Below.heap_alloc _ _ _ (by omega), h.2 x hx hn]⟩
theorem below_drewN {B : Nat} {a w : World} (h : Below B a w) (n : Nat) : Below B a (w.drewN n) := ⟨h.os, h.tape, h.output, h.size, h.block⟩
theorem Only.drewN {O : List Nat} {a w : World} (h : Only O a w) (n : Nat) : Only O a (w.drewN n) := ⟨below_drewN h.1 n, fun x hx hn => h.2 x hx hn⟩
theorem Only.drew {O : List Nat} {a w : World} (h : Only O a w) : Only O a w.drew := ⟨h.1.drew, fun x hx hn => h.2 x hx hn⟩
theorem Only.below {O : List Nat} {w w' : World} {B : Nat} (h : Only O w w') (hB : B ≤ w.heap.size) (hO : ∀ k ∈ O, B ≤ k) : Below B w w' :=
  ⟨h.1.os, h.1.tape, h.1.output, h.1.size, fun k hk => h.2 k (by omega) (fun hm => by have := hO k hm; omega)⟩
theorem some_lt {w : World} {k : Nat} {o : Obj} (hk : w.heap[k]? = some o) : k < w.heap.size := by
  rcases Nat.lt_or_ge k w.heap.size with h1 | h1
  · exact h1
  · rw [Array.getElem?_eq_none h1] at hk; cases hk
theorem Only.keep {O : List Nat} {w w' : World} (h : Only O w w') {k : Nat} {o : Obj} (hk : w.heap[k]? = some o) (hn : k ∉ O) : w'.heap[k]? = some o := by
  rw [h.2 k (some_lt hk) hn, hk]
theorem Only.mono {O O' : List Nat} {w w' : World} (h : Only O w w') (hO : ∀ x ∈ O, x ∈ O') : Only O' w w' := ⟨h.1, fun k hk hn => h.2 k hk (fun hm => hn (hO k hm))⟩

theorem wrap_small {x : Int} (h : -9223372036854775808 ≤ x ∧ x ≤ 9223372036854775807) : IntKind.i64.wrap x = x := IntWalk.i64_in _ h
theorem ret_int {x y : Int} (h : x = y) : Ending.returned (.int .i64 x) = .returned (.int .i64 y) := by rw [h]
theorem ret_bool {x y : Bool} (h : x = y) : Ending.returned (.bool x) = .returned (.bool y) := by rw [h]

theorem cell_lt {w : World} {p : Addr} {v : Value} (h : w.cell? p = some v) : p.block < w.heap.size := by
  rcases Nat.lt_or_ge p.block w.heap.size with h1 | h1
  · exact h1
  · simp [World.cell?, Array.getElem?_eq_none h1] at h
theorem cell_past {w : World} {p : Addr} {v : Value} (h : w.cell? p = some v) (o : Obj) : (w.alloc o).cell? p = some v := by
  rw [World.cell?_of_block (w := w) (Below.heap_alloc w o p.block (cell_lt h))]
  exact h
/-- A pair as a value. -/
def scV (x : Sc) : Value := .agg #[.string x.1, .int .i64 x.2]

set_option maxHeartbeats 1000000 in
theorem isAhead_any (x y : Sc) (w : World) :
    Calls Tryd.prog 34 #[scV x, scV y] w fun e w' => e = .returned (.bool (lessS x y)) ∧ Only [] w w' := by
  obtain ⟨a, s⟩ := x
  obtain ⟨b, t⟩ := y
  unfold scV lessS
  by_cases hst : s = t
  · have he : (s == t) = true := by simpa using hst
    subst hst
    go_enter Tryd.func34, Tryd.ntmps34
    go_wp2
    go_ret
    refine ⟨ret_bool (by simp), ?_⟩
    exact ((Only.refl [] w).alloc _).alloc _
  · have he : (s == t) = false := by simpa using hst
    go_enter Tryd.func34, Tryd.ntmps34
    go_wp2
    go_ret
    refine ⟨ret_bool (by simp), ?_⟩
    exact ((Only.refl [] w).alloc _).alloc _

theorem find1_any (x y : Sc) (r : Int) (b : Nat) (w : World) (c0 : w.cell? ⟨b, 0, none⟩ = some (.string x.1)) (c1 : w.cell? ⟨b, 1, none⟩ = some (.int .i64 x.2)) :
    Calls Tryd.prog 33 #[scV y, .int .i64 r, .pointer (some ⟨b, 0, none⟩)] w fun e w' => e = .returned (.bool (lessS y x)) ∧ Only [] w w' := by
  have hl := Lib.hid (isAhead_any y x)
  have q0 := fun o => cell_past c0 o
  have q1 := fun o => cell_past c1 o
  obtain ⟨a, s⟩ := x
  obtain ⟨b', t⟩ := y
  unfold scV at *
  go_enter Tryd.func33, Tryd.ntmps33
  go_wp2_with (go_at_call 34; ((with_reducible refine (hl.out _).mono ?_); rintro e w1 ⟨rfl, h1⟩; have h1H := Lib.hid h1; clear h1))
  go_ret
  exact ⟨rfl, ((Only.refl [] w).alloc _).trans h1H.out (fun x hx => Or.inl hx)⟩
theorem at1_any (x : Sc) (r k : Int) (b : Nat) (w : World) (c0 : w.cell? ⟨b, 0, none⟩ = some (.int .i64 k)) :
    Calls Tryd.prog 38 #[scV x, .int .i64 r, .pointer (some ⟨b, 0, none⟩)] w fun e w' => e = .returned (.bool (decide (r < k))) ∧ Only [] w w' := by
  obtain ⟨a, s⟩ := x
  have q0 := fun o => cell_past c0 o
  unfold scV at *
  go_enter Tryd.func38, Tryd.ntmps38
  go_wp2
  go_ret
  exact ⟨ret_bool (by simp), ((Only.refl [] w).alloc _)⟩
/-- A pair lies below a score, or, if op, at it. -/
def lowS (s : Int) (op : Bool) (y : Sc) : Bool := decide (y.2 < s) || (op && y.2 == s)
set_option maxHeartbeats 1000000 in
theorem below1_any (y : Sc) (r k : Int) (op : Bool) (b b2 : Nat) (w : World) (c0 : w.cell? ⟨b, 0, none⟩ = some (.int .i64 k)) (c1 : w.cell? ⟨b2, 0, none⟩ = some (.bool op)) :
    Calls Tryd.prog 32 #[scV y, .int .i64 r, .pointer (some ⟨b, 0, none⟩), .pointer (some ⟨b2, 0, none⟩)] w fun e w' => e = .returned (.bool (lowS k op y)) ∧ Only [] w w' := by
  obtain ⟨a, s⟩ := y
  unfold scV lowS at *
  have q0 := fun o => cell_past c0 o
  have q1 := fun o => cell_past c1 o
  have hd : decide (s < k) = true ∨ decide (s < k) = false := by cases decide (s < k) <;> simp
  have he : (s == k) = true ∨ (s == k) = false := by cases (s == k) <;> simp
  cases op <;> rcases hd with hd | hd
  · go_enter Tryd.func32, Tryd.ntmps32
    go_wp2
    go_ret
    exact ⟨ret_bool (by simp [hd]), ((Only.refl [] w).alloc _)⟩
  · go_enter Tryd.func32, Tryd.ntmps32
    go_wp2
    go_ret
    exact ⟨ret_bool (by simp [hd]), ((Only.refl [] w).alloc _)⟩
  · go_enter Tryd.func32, Tryd.ntmps32
    go_wp2
    go_ret
    exact ⟨ret_bool (by simp [hd]), ((Only.refl [] w).alloc _)⟩
  · rcases he with he | he
    · go_enter Tryd.func32, Tryd.ntmps32
      go_wp2
      go_ret
      exact ⟨ret_bool (by simp [hd, he]), ((Only.refl [] w).alloc _)⟩
    · go_enter Tryd.func32, Tryd.ntmps32
      go_wp2
      go_ret
      exact ⟨ret_bool (by simp [hd, he]), ((Only.refl [] w).alloc _)⟩

theorem len_nil (w : World) :
    Calls Tryd.prog 15 #[.pointer none] w fun e w' => e = .returned (.int .i64 0) ∧ w = w' := by
  go_enter Tryd.func15, Tryd.ntmps15
  go_wp2
  all_goals go_ret
  all_goals exact ⟨rfl, rfl⟩
theorem len_any {D : Nat} {k : Int} {w : World} (h : w.cell? ⟨D, 33, none⟩ = some (.int .i64 k)) :
    Calls Tryd.prog 15 #[.pointer (some ⟨D, 0, none⟩)] w fun e w' => e = .returned (.int .i64 k) ∧ w = w' := by
  go_enter Tryd.func15, Tryd.ntmps15
  go_wp2
  all_goals go_ret
  all_goals exact ⟨rfl, rfl⟩
theorem ret_u {k : IntKind} {a b : Int} (h : a = b) : Ending.returned (.int k a) = .returned (.int k b) := by rw [h]
def foldI (h : Int) : Int := bits .xor .u64 h (h / 8589934592)
/-- One byte more. -/
def stepI (h : Int) (c : UInt8) : Int := IntKind.u64.wrap (bits .xor .u64 h (IntKind.u64.wrap c.toNat) * 1099511628211)
def mulI (h f : Int) : Int := IntKind.u64.wrap (h * f)
def ofI (h : Int) (l : List UInt8) : Int := l.foldl stepI h
theorem ofI_snoc (h : Int) (l : List UInt8) (c : UInt8) : ofI h (l ++ [c]) = stepI (ofI h l) c := by unfold ofI; rw [List.foldl_append]; rfl
def textI (seed : Int) (l : List UInt8) : Int := foldI (mulI (foldI (mulI (foldI (ofI (bits .xor .u64 14695981039346656037 seed) l)) 18397679294719823053)) 14181476777654086739)
/-- A number of Go's unsigned numbers of 64 bits. -/
def U (h : Int) : Prop := 0 ≤ h ∧ h ≤ 18446744073709551615
theorem u_bits (op : BinOp) (a b : Int) : U (bits op .u64 a b) := ⟨bits_lo_u64 op a b, bits_hi_u64 op a b⟩
theorem u_wrap (a : Int) : U (IntKind.u64.wrap a) := by unfold U; rw [IntKind.wrap_u64]; omega
theorem u_fold (a : Int) : U (foldI a) := u_bits _ _ _
theorem u_mul (a f : Int) : U (mulI a f) := u_wrap _
theorem u_of (h : Int) (hU : U h) (l : List UInt8) : U (ofI h l) := by
  unfold ofI
  induction l generalizing h with
  | nil => exact hU
  | cons c l ih => exact ih _ (u_wrap _)
theorem take_snoc (s : ByteArray) (k : Nat) (h : k < s.size) : s.data.toList.take (k + 1) = s.data.toList.take k ++ [s[k]] := by
  rw [List.take_succ_eq_append_getElem (by simpa using h)]; rfl

set_option maxHeartbeats 400000 in
theorem folded_any (h : Int) (hU : U h) (w : World) : Calls Tryd.prog 39 #[.int .u64 h] w fun e w' => e = .returned (.int .u64 (foldI h)) ∧ w = w' := by
  obtain ⟨h0, h1⟩ := hU
  go_enter Tryd.func39, Tryd.ntmps39
  go_wp2
  go_ret
  exact ⟨ret_u rfl, rfl⟩

def stageI (O : Int) : Nat → Int
  | 0 => O
  | 1 => mulI (foldI O) 18397679294719823053
  | _ => mulI (foldI (mulI (foldI O) 18397679294719823053)) 14181476777654086739
theorem u_stage (O : Int) (h : U O) (j : Nat) : U (stageI O j) := by
  rcases j with _ | _ | j
  · exact h
  · exact u_mul _ _
  · exact u_mul _ _
theorem run_fac0 (w : World) : Sem.run Tryd.prog (Instr.index 48 (.agg #[.int .u64 18397679294719823053, .int .u64 14181476777654086739]) (.int .i64 0)) w = .ok (.int .u64 18397679294719823053) w := by
  simp [Instr.index, go_sem, Tryd.sizeOf22]
theorem run_fac1 (w : World) : Sem.run Tryd.prog (Instr.index 48 (.agg #[.int .u64 18397679294719823053, .int .u64 14181476777654086739]) (.int .i64 1)) w = .ok (.int .u64 14181476777654086739) w := by
  simp [Instr.index, go_sem, Tryd.sizeOf22]
/-- The table of factors, as it lies. -/
def Fac (w : World) : Prop := w.cell? ⟨1, 0, none⟩ = some (.int .u64 18397679294719823053) ∧ w.cell? ⟨1, 1, none⟩ = some (.int .u64 14181476777654086739)

set_option maxHeartbeats 1000000 in
theorem of_any (seed : Int) (s : ByteArray) (hU : U seed) (hs : s.size ≤ maxLen) (w : World) (hFac : Fac w) : Calls Tryd.prog 37 #[.int .u64 seed, .string s] w fun e w' => e = .returned (.int .u64 (textI seed s.data.toList)) ∧ w = w' := by
  unfold maxLen at hs
  obtain ⟨hU0, hU1⟩ := hU
  obtain ⟨hf0, hf1⟩ := hFac
  have hB := u_bits .xor 14695981039346656037 seed
  go_enter Tryd.func37, Tryd.ntmps37
  go_wp2
  go_loop [5, 6, 13] (fun n j i => ∃ k : Nat, k ≤ s.size ∧ i = .int .i64 k ∧ n = .int .u64 (ofI (bits .xor .u64 14695981039346656037 seed) (s.data.toList.take k))) (fun _ _ i => s.size - (intOf i).toNat)
  case atStart => exact ⟨0, Nat.zero_le _, rfl, rfl⟩
  case round =>
    obtain ⟨k, hk, rfl, rfl⟩ := hrel
    have hO := u_of _ hB (s.data.toList.take k)
    obtain ⟨hO0, hO1⟩ := hO
    by_cases hlt : k < s.size
    · have hsn : Hid (ofI (bits .xor .u64 14695981039346656037 seed) (s.data.toList.take (k + 1)) = stepI (ofI (bits .xor .u64 14695981039346656037 seed) (s.data.toList.take k)) s[k]) := Lib.hid (by rw [take_snoc s k hlt, ofI_snoc])
      generalize ofI (bits .xor .u64 14695981039346656037 seed) (s.data.toList.take k) = O at *
      go_wp2
      go_round
      case rel => exact ⟨k + 1, by omega, by go_num, by rw [hsn.out]; rfl⟩
      case measure => simp [intOf]; omega
    · have hks : s.data.toList.take k = s.data.toList := List.take_of_length_le (by simp; omega)
      rw [hks] at hO0 hO1 ⊢
      have hF : Hid (textI seed s.data.toList = foldI (mulI (foldI (mulI (foldI (ofI (bits .xor .u64 14695981039346656037 seed) s.data.toList)) 18397679294719823053)) 14181476777654086739)) := Lib.hid rfl
      generalize ofI (bits .xor .u64 14695981039346656037 seed) s.data.toList = O at *
      clear hks
      have hOU : U O := ⟨hO0, hO1⟩
      go_wp2
      go_loop [5, 8, 25] (fun n f i => ∃ j : Nat, j ≤ 2 ∧ i = .int .i64 j ∧ n = .int .u64 (stageI O j)) (fun _ _ i => 2 - (intOf i).toNat)
      case atStart => exact ⟨0, by omega, rfl, rfl⟩
      case round =>
        obtain ⟨j, hj, rfl, rfl⟩ := hrel
        have hSU := u_stage O hOU j
        have hx0 := run_fac0 w
        have hx1 := run_fac1 w
        rcases j with _ | _ | _ | j
        · go_wp2_with (go_at_call 39; ((with_reducible refine (folded_any _ hSU _).mono ?_); rintro e w' ⟨rfl, rfl⟩))
          go_round
          case rel => exact ⟨1, by omega, rfl, rfl⟩
          case measure => simp [intOf]
        · go_wp2_with (go_at_call 39; ((with_reducible refine (folded_any _ hSU _).mono ?_); rintro e w' ⟨rfl, rfl⟩))
          go_round
          case rel => exact ⟨2, by omega, rfl, rfl⟩
          case measure => simp [intOf]
        · go_wp2_with (go_at_call 39; ((with_reducible refine (folded_any _ hSU _).mono ?_); rintro e w' ⟨rfl, rfl⟩))
          go_ret
          exact ⟨ret_u (by rw [hF.out]; rfl), rfl⟩
        · omega


/-- The table of trailing zeros holds bytes. -/
def Tz (w : World) : Prop := ∀ i : Nat, i < 64 → ∃ v : Nat, v ≤ 255 ∧ w.cell? ⟨0, i, none⟩ = some (.int .u8 (v : Int))
theorem tz_any (x : Int) (hU : U x) (w : World) (hT : Tz w) :
    Calls Tryd.prog 36 #[.int .u64 x] w fun e w' => (∃ v : Nat, e = .returned (.int .i64 (v : Int)) ∧ v ≤ 255) ∧ w = w' := by
  obtain ⟨hU0, hU1⟩ := hU
  have hu := u_wrap (bits BinOp.and IntKind.u64 x (IntKind.u64.wrap (-x)) * 285870213051353865)
  obtain ⟨v, hv, hc⟩ := hT (IntKind.u64.wrap (bits BinOp.and IntKind.u64 x (IntKind.u64.wrap (-x)) * 285870213051353865) / 288230376151711744).toNat (by unfold U at hu; omega)
  obtain ⟨hu0, hu1⟩ := hu
  clear hT
  go_enter Tryd.func36, Tryd.ntmps36
  go_wp2
  · go_ret
    exact ⟨⟨64, rfl, by omega⟩, rfl⟩
  · go_ret
    exact ⟨⟨v, ret_u (by simp), hv⟩, rfl⟩
/-- Both tables as they lie. -/
structure Tabs (w : World) : Prop where
  fac : Fac w
  tz : Tz w
theorem Tabs.keep {w w' : World} (h : Tabs w) {O : List Nat} (ho : Only O w w') (h0 : 0 ∉ O) (h1 : 1 ∉ O) : Tabs w' := by
  have hk : ∀ {p : Addr} {v : Value}, p.block ∉ O → w.cell? p = some v → w'.cell? p = some v := fun {p v} hp hc => by
    rw [World.cell?_of_block (w := w) (ho.2 _ (cell_lt hc) hp)]
    exact hc
  refine ⟨⟨hk h1 h.fac.1, hk h1 h.fac.2⟩, fun i hi => ?_⟩
  obtain ⟨v, hv, hc⟩ := h.tz i hi
  exact ⟨v, hv, hk h0 hc⟩
theorem height_any (D : Nat) (sd : Int) (m : ByteArray) (hm : m.size ≤ maxLen) (hU : U sd) (w : World) (hT : Tabs w) (hs : w.cell? ⟨D, 0, none⟩ = some (.int .u64 sd)) :
    Calls Tryd.prog 29 #[.pointer (some ⟨D, 0, none⟩), .string m] w fun e w' => (∃ h : Nat, e = .returned (.int .i64 (h : Int)) ∧ 1 ≤ h ∧ h ≤ 16) ∧ w = w' := by
  have h1 := Lib.hid (of_any sd m hU hm w hT.fac)
  have h2 := Lib.hid (fun x hx => tz_any x hx w hT.tz)
  go_enter Tryd.func29, Tryd.ntmps29
  go_wp2_with (first
    | (go_at_call 37; ((with_reducible refine (h1.out).mono ?_); rintro e w' ⟨rfl, rfl⟩))
    | (go_at_call 36; ((with_reducible refine (h2.out _ (by first | exact u_bits _ _ _ | exact u_wrap _)).mono ?_); rintro e w' ⟨⟨v, rfl, hv⟩, rfl⟩)))
  all_goals go_ret
  all_goals exact ⟨⟨min (v / 2 + 1) 16, ret_u (by omega), by omega, by omega⟩, rfl⟩
end Go.Proofs.YtijfipghoilpeaaDoor
