/-
  A new ring of keys. Premises: a row of keys, each once, of at most a million.
-/
import Derived.Test.YtpbmgaipeofpaaaG
namespace Go.Proofs.Ytpbmgaipeofpaaa
open Go.RowKit

theorem run_makeMap_n (w : World) (n : Int) : (Instr.makeMap 74 (some (.int .i64 n))).run Try.prog w = .ok (.map (some w.heap.size)) (w.alloc (.map #[] 0)) := by
  simp [Instr.makeMap, run_underlying Try.underlying74, asInt, Result.andThen, go_sem]
/-- A ring g, its blocks O, its keys L, whatever else. -/
def Ring (w : World) (g : Nat) (O : List Nat) (L : List ByteArray) : Prop := ∃ m room bs nx pv f, Rg w g m room bs nx pv f ∧ keysN bs = L ∧ O = own g m bs
variable {w w' : World} {g : Nat} {O : List Nat} {L : List ByteArray}
theorem Ring.lt (h : Ring w g O L) {b : Nat} (hb : b ∈ O) : b < w.heap.size := by
  obtain ⟨m, room, bs, nx, pv, f, h1, _, rfl⟩ := h
  exact h1.lt hb
theorem Ring.mem (h : Ring w g O L) : g ∈ O := by
  obtain ⟨m, room, bs, nx, pv, f, h1, _, rfl⟩ := h
  simp [own]
theorem Ring.keep {O' : List Nat} (h : Ring w g O L) (ho : Only O' w w') (hd : ∀ b ∈ O, b ∉ O') : Ring w' g O L := by
  obtain ⟨m, room, bs, nx, pv, f, h1, h2, rfl⟩ := h
  exact ⟨m, room, bs, nx, pv, f, h1.keep ho hd, h2, rfl⟩
theorem Ring.nodup (h : Ring w g O L) : L.Nodup := by
  obtain ⟨m, room, bs, nx, pv, f, h1, rfl, _⟩ := h
  exact h1.uq
theorem Ring.few (h : Ring w g O L) : L.length ≤ 1000000 := by
  obtain ⟨m, room, bs, nx, pv, f, h1, rfl, _⟩ := h
  have := h1.few
  simpa using this
/-- What a call on a ring leaves of blocks. -/
def Move (O : List Nat) (w w' : World) (O' : List Nat) : Prop := Only O w w' ∧ ∀ b ∈ O', b ∈ O ∨ w.heap.size ≤ b
theorem Ring.touch (h : Ring w g O L) (hl : L.length < 1000000) (key : ByteArray) (hk : key.size ≤ maxLen) :
    Calls Try.prog 36 #[ptr g, .string key] w fun e w' => e = .returned (.bool (!hasK L key)) ∧ ∃ O', Ring w' g O' (tipK L key) ∧ Move O w w' O' := by
  obtain ⟨m, room, bs, nx, pv, f, h1, rfl, rfl⟩ := h
  by_cases hm : key ∈ keysN bs
  · obtain ⟨b, xs, ys, rfl, hf⟩ := h1.find hm
    refine (touch_old h1 hk).mono ?_
    rintro e w' ⟨rfl, ⟨nx', pv', k1⟩, k2⟩
    refine ⟨by rw [hasK_iff.2 hm]; rfl, _, ⟨m, room, _, nx', pv', f, k1, ?_, rfl⟩, k2, fun x hx => Or.inl ?_⟩
    · unfold tipK
      rw [keysN_go h1.uq]
      simp
    · simp only [own, blk, List.map_append, List.map_cons, List.map_nil, List.mem_cons, List.mem_append] at hx ⊢
      grind
  · refine (touch_new h1 hk hm (by simpa using hl)).mono ?_
    rintro e w' ⟨rfl, ⟨b, room', nx', pv', f', hb, k1⟩, k2⟩
    refine ⟨by rw [hasK_no.2 hm]; rfl, _, ⟨m, room', _, nx', pv', f', k1, ?_, rfl⟩, k2, fun x hx => ?_⟩
    · rw [tipK_new hm]
      simp
    · simp only [own, blk, List.map_append, List.map_cons, List.map_nil, List.mem_cons, List.mem_append] at hx ⊢
      grind
theorem Ring.drop (h : Ring w g O L) (key : ByteArray) (hk : key.size ≤ maxLen) (hm : key ∈ L) :
    Calls Try.prog 38 #[ptr g, .string key] w fun e w' => e = .returned (.tuple #[]) ∧ ∃ O', Ring w' g O' (goK L key) ∧ Move O w w' O' := by
  obtain ⟨m, room, bs, nx, pv, f, h1, rfl, rfl⟩ := h
  obtain ⟨b, xs, ys, rfl, hf⟩ := h1.find hm
  refine (drop_any h1 hk).mono ?_
  rintro e w' ⟨rfl, ⟨nx', pv', f', k1⟩, k2⟩
  refine ⟨rfl, _, ⟨m, room, _, nx', pv', f', k1, (keysN_go h1.uq).symm, rfl⟩, k2, fun x hx => Or.inl ?_⟩
  simp only [own, blk, List.map_append, List.map_cons, List.mem_cons, List.mem_append] at hx ⊢
  grind
set_option maxHeartbeats 4000000 in
theorem newring_any {w : World} {B : Nat} {v : Value} (hv : RowT w B v L) (hn : L.Nodup) (hl : L.length ≤ 1000000) (hs : ∀ k ∈ L, k.size ≤ maxLen) :
    Calls Try.prog 41 #[v] w fun e w' => ∃ g O, e = .returned (ptr g) ∧ Ring w' g O L ∧ (∀ b ∈ O, w.heap.size ≤ b) ∧ Only [] w w' := by
  have hvH := Lib.hid hv
  obtain ⟨A, c, rfl⟩ := hv.len
  obtain ⟨n, hnn⟩ : ∃ n, n = L.length := ⟨_, rfl⟩
  have hnH := Lib.hid hnn
  have huH := Lib.hid hn
  have hlH := Lib.hid hl
  have hsH := Lib.hid hs
  rw [← hnn] at hvH ⊢
  have hl6 : n ≤ 1000000 := by rw [hnn]; exact hl
  have hmk := fun w => run_makeMap_n w (n : Int)
  clear hv hn hl hs hnn
  go_enter Try.func41, Try.ntmps41
  go_upto_region 2 with (fail)
  obtain ⟨W1, hW1⟩ : ∃ W1, W1 = (w.alloc (.map #[] 0)).alloc (.cells #[.string ⟨#[]⟩, .pointer none, .pointer none, .map (some w.heap.size), .int .i64 0, .int .i64 0] 76 (0, 0)) := ⟨_, rfl⟩
  rw [← hW1]
  have o1 : Only [] w W1 := by rw [hW1]; exact ((Only.refl [] w).alloc _).alloc _
  have hm1 : MapAt W1 w.heap.size 0 (fun _ => none) := by rw [hW1]; exact map_made.keep ((Only.refl [] _).alloc _) (by simp)
  have hg1 : W1.heap[w.heap.size + 1]? = some (.cells #[.string ⟨#[]⟩, .pointer none, .pointer none, .map (some w.heap.size), .int .i64 0, .int .i64 0] 76 (0, 0)) := by
    rw [hW1]
    have := heap_alloc_new (w.alloc (.map #[] 0)) (.cells #[.string ⟨#[]⟩, .pointer none, .pointer none, .map (some w.heap.size), .int .i64 0, .int .i64 0] 76 (0, 0))
    rwa [World.size_alloc] at this
  obtain ⟨g, hge⟩ : ∃ g, g = w.heap.size + 1 := ⟨_, rfl⟩
  rw [← hge] at hg1 ⊢
  obtain ⟨m, hme⟩ : ∃ m, m = w.heap.size := ⟨_, rfl⟩
  rw [← hme] at hg1 hm1 ⊢
  have d1 : W1.cell? ⟨g, 1, none⟩ = some (.pointer none) := Lib.cell_of_heap hg1 1
  have d2 : W1.cell? ⟨g, 2, none⟩ = some (.pointer none) := Lib.cell_of_heap hg1 2
  have z1 : W1.frozen? ⟨g, 1, none⟩ = false := block_frozen hg1
  have z2 : ∀ v, (W1.setCell ⟨g, 1, none⟩ v).frozen? ⟨g, 2, none⟩ = false := fun v => set_frozen v hg1
  have e2 : ∀ v, (W1.setCell ⟨g, 1, none⟩ v).cell? ⟨g, 2, none⟩ = some (.pointer none) := fun v => by rw [set_other _ (Or.inr (by omega))]; exact d2
  have hR2 : Rg ((W1.setCell ⟨g, 1, none⟩ (ptr g)).setCell ⟨g, 2, none⟩ (ptr g)).drew g m 0 [] (fun _ => g) (fun _ => g) (fun _ => none) := {
    raw := ⟨by
      show ((W1.setCell ⟨g, 1, none⟩ (ptr g)).setCell ⟨g, 2, none⟩ (ptr g)).heap[g]? = _
      rw [Joins.block_setCell (Joins.block_setCell hg1 (ptr g)) (ptr g)]
      rfl, by simp⟩
    lk := ⟨rfl, rfl⟩
    apart := by simp
    map := hm1.keep ((((Only.refl [g] W1).set (p := ⟨g, 1, none⟩) (Or.inl (by simp)) (ptr g)).set (p := ⟨g, 2, none⟩) (Or.inl (by simp)) (ptr g)).drew) (by simp; omega)
    uq := by simp
    sizes := by simp
    notes := by simp
    dom := fun k hk => absurd rfl hk
    few := by simp
    rfew := by simp }
  have o2 : Only [] w ((W1.setCell ⟨g, 1, none⟩ (ptr g)).setCell ⟨g, 2, none⟩ (ptr g)).drew := ((o1.set (p := ⟨g, 1, none⟩) (Or.inr (by show w.heap.size ≤ g; omega)) (ptr g)).set (p := ⟨g, 2, none⟩) (Or.inr (by show w.heap.size ≤ g; omega)) (ptr g)).drew
  have hR2H : Hid (∃ O, Ring ((W1.setCell ⟨g, 1, none⟩ (ptr g)).setCell ⟨g, 2, none⟩ (ptr g)).drew g O [] ∧ ∀ b ∈ O, w.heap.size ≤ b) := Lib.hid ⟨_, ⟨m, 0, [], _, _, _, hR2, rfl, rfl⟩, fun b hb => by
    simp only [own, blk, List.map_nil, List.mem_cons, List.not_mem_nil, or_false] at hb
    omega⟩
  have o2H := Lib.hid o2
  clear hR2 o2 hm1 hg1 o1 hW1 hge hme d2 hmk
  go_region
  all_goals go_upto_region 3 with (fail)
  generalize ((W1.setCell ⟨g, 1, none⟩ (ptr g)).setCell ⟨g, 2, none⟩ (ptr g)).drew = W2 at *
  have hv2H := Lib.hid (hvH.out.same o2H.out)
  clear d1 z1 z2 e2
  go_wp2_with fail
  go_loopw [27] (fun s27 wr => ∃ i : Nat, i ≤ n ∧ s27 = .int .i64 i ∧ Hid ((∃ O, Ring wr g O (L.take i) ∧ ∀ b ∈ O, w.heap.size ≤ b) ∧ Only [] w wr)) (fun s27 _ => n - (intOf s27).toNat)
  case atStart => exact ⟨0, by omega, rfl, Lib.hid ⟨hR2H.out, o2H.out⟩⟩
  case round =>
    obtain ⟨i, hi, rfl, hon⟩ := hrel
    by_cases hil : i < n
    · obtain ⟨x, hx⟩ : ∃ x, L[i]? = some x := ⟨_, List.getElem?_eq_getElem (by rw [← hnH.out]; exact hil)⟩
      obtain ⟨g1, c1, e1, _, _, y1⟩ := (hvH.out.same hon.out.2).cell (by exact hx)
      have e1' : A = some ⟨g1, 0, none⟩ := by injection e1
      subst e1'
      clear e1
      obtain ⟨⟨O, h1, h2⟩, h3⟩ := hon.out
      have hxm : x ∉ L.take i := fun hm => by
        obtain ⟨j, hj⟩ := List.getElem?_of_mem hm
        rw [List.getElem?_take] at hj
        split at hj
        · next hji =>
          obtain ⟨a1, a2⟩ := List.getElem?_eq_some_iff.1 hj
          obtain ⟨b1, b2⟩ := List.getElem?_eq_some_iff.1 hx
          exact (List.pairwise_iff_getElem.1 huH.out) j i a1 b1 hji (by rw [a2, b2])
        · cases hj
      have ht : tipK (L.take i) x = L.take (i + 1) := by rw [tipK_new hxm, List.take_add_one, hx]; rfl
      have htl : (L.take i).length < 1000000 := by
        have := hlH.out
        have := hnH.out
        rw [List.length_take]
        omega
      have hto := Lib.hid (h1.touch htl x (hsH.out x (List.mem_of_getElem? hx)))
      rw [ht] at hto
      have hix := run_ixT g1 i n c hil
      have hilH := Lib.hid hil
      have h2H := Lib.hid h2
      have h3H := Lib.hid h3
      have hlt : decide ((i : Int) < (n : Int)) = true := decide_eq_true (by omega)
      have hltn : decide (i < n) = true := decide_eq_true hil
      clear hx hil h1 h2 h3 hon ht htl hxm
      go_wp2_with (go_at_call 36; ((with_reducible refine (hto.out).mono ?_); rintro e w3 ⟨rfl, hq3⟩))
      obtain ⟨O3, k1, k2⟩ := hq3
      go_roundw
      case rel => exact ⟨i + 1, by have := hilH.out; omega, by go_num, Lib.hid ⟨⟨O3, k1, fun b hb => by
        rcases k2.2 b hb with e | e
        · exact h2H.out b e
        · have := h3H.out.size
          omega⟩, h3H.out.trans k2.1 (fun x hx => Or.inr (h2H.out x hx))⟩⟩
      case measure => have := hilH.out; simp [intOf]; omega
    · have : i = n := by omega
      subst this
      go_wp2_with fail
      go_ret
      obtain ⟨⟨O, h1, h2⟩, h3⟩ := hon.out
      rw [hnH.out, List.take_length] at h1
      exact ⟨g, O, rfl, h1, h2, h3⟩
end Go.Proofs.Ytpbmgaipeofpaaa
