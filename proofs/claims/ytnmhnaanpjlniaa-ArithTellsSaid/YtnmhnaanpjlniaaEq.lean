import Derived.Test.YtnmhnaanpjlniaaEn
import Derived.Test.YtnmhnaanpjlniaaXo
/-
  Layer 13: what stands while a quotient and a rest are made, in whatever order: a law's invariant.
-/
namespace Go.Proofs.Ytnmhnaanpjlniaa
open Go.RowKit

/-- an empty number of two words -/
def zNum : Array Value := #[.bool false, .int .u64 0, .int .u64 0]

theorem put_num {W : World} {b : Nat} {A : Array Value} (h : W.heap[b]? = some (.cells A 117 (0, 0))) (hA : A.size = 3) (v0 v1 v2 : Value) : (((W.setCell ⟨b, 0, none⟩ v0).setCell ⟨b, 1, none⟩ v1).setCell ⟨b, 2, none⟩ v2).heap[b]? = some (.cells #[v0, v1, v2] 117 (0, 0)) := by
  obtain ⟨a0, a1, a2, rfl⟩ : ∃ a0 a1 a2, A = #[a0, a1, a2] := ⟨A[0], A[1], A[2], by
    apply Array.ext
    · simp [hA]
    · intro i h1 h2
      rw [hA] at h1
      obtain rfl | rfl | rfl : i = 0 ∨ i = 1 ∨ i = 2 := by omega
      all_goals rfl⟩
  simp only [World.setCell, Array.getElem?_modify, if_pos, h]
  rfl

structure D2 (Ws : World) (vals : Nat → Value) (Q R : Array Value) (L : Nat → Bool) (f : Nat → Value) (W : World) : Prop where
  B : Below Ws.heap.size Ws W
  v : ∀ j, j < 19 → L j = true → f j = vals j
  a : L 19 = true → ∃ b, f 19 = .pointer (some ⟨b, 0, none⟩) ∧ Ws.heap.size ≤ b ∧ b < W.heap.size ∧ W.heap[b]? = some (.cells (if L 21 = true then Q else zNum) 117 (0, 0))
  b : L 20 = true → ∃ b, f 20 = .pointer (some ⟨b, 0, none⟩) ∧ Ws.heap.size ≤ b ∧ b < W.heap.size ∧ W.heap[b]? = some (.cells (if L 22 = true then R else zNum) 117 (0, 0))
  ne : L 19 = true → L 20 = true → f 19 ≠ f 20
  c21 : L 21 = true → L 19 = true
  c22 : L 22 = true → L 20 = true

section
variable {Ws : World} {vals : Nat → Value} {Q R : Array Value} {L : Nat → Bool} {f : Nat → Value} {W : World}

theorem updL_ne {L : Nat → Bool} {i j : Nat} (h : j ≠ i) : updL L i j = L j := by simp [updL, h]
theorem updL_eq (L : Nat → Bool) (i : Nat) : updL L i i = true := by simp [updL]
theorem upd_ne {f : Nat → Value} {i j : Nat} {v : Value} (h : j ≠ i) : upd f i v j = f j := by simp [upd, h]
theorem upd_eq (f : Nat → Value) (i : Nat) (v : Value) : upd f i v i = v := by simp [upd]

theorem D2.start (hB : Below Ws.heap.size Ws W) (f : Nat → Value) : D2 Ws vals Q R (fun _ => false) f W :=
  ⟨hB, (fun _ _ h => by cases h), (fun h => by cases h), (fun h => by cases h), (fun h => by cases h), (fun h => by cases h), fun h => by cases h⟩

theorem D2.pure (h : D2 Ws vals Q R L f W) {i : Nat} {v : Value} (hi : i < 19) (hv : v = vals i) : D2 Ws vals Q R (updL L i) (upd f i v) W := by
  refine ⟨h.B, fun j hj hL => ?_, ?_, ?_, ?_, ?_, ?_⟩
  · by_cases e : j = i
    · subst e; rw [upd_eq]; exact hv
    · rw [upd_ne e]; rw [updL_ne e] at hL; exact h.v j hj hL
  · rw [updL_ne (by omega), updL_ne (j := 21) (by omega), upd_ne (by omega)]; exact h.a
  · rw [updL_ne (by omega), updL_ne (j := 22) (by omega), upd_ne (by omega)]; exact h.b
  · rw [updL_ne (by omega), updL_ne (by omega), upd_ne (by omega), upd_ne (by omega)]; exact h.ne
  · rw [updL_ne (by omega), updL_ne (by omega)]; exact h.c21
  · rw [updL_ne (by omega), updL_ne (by omega)]; exact h.c22

theorem heap_new (W : World) (o : Obj) : (W.alloc o).heap[W.heap.size]? = some o := by
  show (Array.push _ _)[W.heap.size]? = _
  rw [Array.getElem?_push_size]

theorem D2.new19 (h : D2 Ws vals Q R L f W) (hi : L 19 = false) : D2 Ws vals Q R (updL L 19) (upd f 19 (.pointer (some ⟨W.heap.size, 0, none⟩))) (W.alloc (.cells zNum 117)) := by
  have h21 : L 21 = false := by
    cases e : L 21 with
    | false => rfl
    | true => rw [h.c21 e] at hi; cases hi
  refine ⟨h.B.alloc h.B.size _, fun j hj hL => ?_, fun _ => ?_, ?_, ?_, fun _ => updL_eq _ _, ?_⟩
  · rw [upd_ne (by omega)]; rw [updL_ne (by omega)] at hL; exact h.v j hj hL
  · rw [upd_eq, updL_ne (j := 21) (by omega), h21]
    exact ⟨_, rfl, h.B.size, by simp, by rw [if_neg (by simp)]; exact heap_new _ _⟩
  · rw [updL_ne (by omega), updL_ne (j := 22) (by omega), upd_ne (by omega)]
    intro hL
    obtain ⟨b, h1, h2, h3, h4⟩ := h.b hL
    exact ⟨b, h1, h2, by simp; omega, (Below.heap_alloc _ _ _ h3).trans h4⟩
  · rw [upd_eq, upd_ne (by omega), updL_ne (j := 20) (by omega)]
    intro _ hL e
    obtain ⟨b, h1, h2, h3, h4⟩ := h.b hL
    rw [h1] at e
    injection e with e
    injection e with e
    injection e with e
    omega
  · rw [updL_ne (by omega), updL_ne (by omega)]; exact h.c22

theorem D2.new20 (h : D2 Ws vals Q R L f W) (hi : L 20 = false) : D2 Ws vals Q R (updL L 20) (upd f 20 (.pointer (some ⟨W.heap.size, 0, none⟩))) (W.alloc (.cells zNum 117)) := by
  have h22 : L 22 = false := by
    cases e : L 22 with
    | false => rfl
    | true => rw [h.c22 e] at hi; cases hi
  refine ⟨h.B.alloc h.B.size _, fun j hj hL => ?_, ?_, fun _ => ?_, ?_, ?_, fun _ => updL_eq _ _⟩
  · rw [upd_ne (by omega)]; rw [updL_ne (by omega)] at hL; exact h.v j hj hL
  · rw [updL_ne (by omega), updL_ne (j := 21) (by omega), upd_ne (by omega)]
    intro hL
    obtain ⟨b, h1, h2, h3, h4⟩ := h.a hL
    exact ⟨b, h1, h2, by simp; omega, (Below.heap_alloc _ _ _ h3).trans h4⟩
  · rw [upd_eq, updL_ne (j := 22) (by omega), h22]
    exact ⟨_, rfl, h.B.size, by simp, by rw [if_neg (by simp)]; exact heap_new _ _⟩
  · rw [upd_eq, upd_ne (by omega), updL_ne (j := 19) (by omega)]
    intro hL _ e
    obtain ⟨b, h1, h2, h3, h4⟩ := h.a hL
    rw [h1] at e
    injection e with e
    injection e with e
    injection e with e
    omega
  · rw [updL_ne (by omega), updL_ne (by omega)]; exact h.c21

theorem D2.put21 {q0 q1 q2 u : Value} (h : D2 Ws vals #[q0, q1, q2] R L f W) (hi : L 21 = false) {b : Nat} (hL : L 19 = true) (hb : f 19 = .pointer (some ⟨b, 0, none⟩)) : D2 Ws vals #[q0, q1, q2] R (updL L 21) (upd f 21 u) (((W.setCell ⟨b, 0, none⟩ q0).setCell ⟨b, 1, none⟩ q1).setCell ⟨b, 2, none⟩ q2) := by
  obtain ⟨b', h1, h2, h3, h4⟩ := h.a hL
  rw [hb] at h1
  injection h1 with h1
  injection h1 with h1
  injection h1 with h1
  subst h1
  rw [if_neg (by rw [hi]; simp)] at h4
  refine ⟨((h.B.setCell (p := ⟨b, 0, none⟩) h2 _).setCell (p := ⟨b, 1, none⟩) h2 _).setCell (p := ⟨b, 2, none⟩) h2 _, fun j hj hL => ?_, fun _ => ?_, ?_, ?_, fun _ => ?_, ?_⟩
  · rw [upd_ne (by omega)]; rw [updL_ne (by omega)] at hL; exact h.v j hj hL
  · rw [upd_ne (by omega), updL_eq]
    exact ⟨b, hb, h2, by simpa using h3, by rw [if_pos rfl]; exact put_num h4 rfl _ _ _⟩
  · rw [updL_ne (by omega), updL_ne (j := 22) (by omega), upd_ne (by omega)]
    intro hL2
    obtain ⟨c, g1, g2, g3, g4⟩ := h.b hL2
    have hne : c ≠ b := fun e => h.ne hL hL2 (by rw [hb, g1, e])
    refine ⟨c, g1, g2, by simpa using g3, ?_⟩
    rw [Below.heap_setCell _ _ _ _ hne, Below.heap_setCell _ _ _ _ hne, Below.heap_setCell _ _ _ _ hne]
    exact g4
  · rw [updL_ne (by omega), updL_ne (by omega), upd_ne (by omega), upd_ne (by omega)]; exact h.ne
  · rw [updL_ne (by omega)]; exact hL
  · rw [updL_ne (by omega), updL_ne (by omega)]; exact h.c22

theorem D2.put22 {q0 q1 q2 u : Value} (h : D2 Ws vals Q #[q0, q1, q2] L f W) (hi : L 22 = false) {b : Nat} (hL : L 20 = true) (hb : f 20 = .pointer (some ⟨b, 0, none⟩)) : D2 Ws vals Q #[q0, q1, q2] (updL L 22) (upd f 22 u) (((W.setCell ⟨b, 0, none⟩ q0).setCell ⟨b, 1, none⟩ q1).setCell ⟨b, 2, none⟩ q2) := by
  obtain ⟨b', h1, h2, h3, h4⟩ := h.b hL
  rw [hb] at h1
  injection h1 with h1
  injection h1 with h1
  injection h1 with h1
  subst h1
  rw [if_neg (by rw [hi]; simp)] at h4
  refine ⟨((h.B.setCell (p := ⟨b, 0, none⟩) h2 _).setCell (p := ⟨b, 1, none⟩) h2 _).setCell (p := ⟨b, 2, none⟩) h2 _, fun j hj hL => ?_, ?_, fun _ => ?_, ?_, ?_, fun _ => ?_⟩
  · rw [upd_ne (by omega)]; rw [updL_ne (by omega)] at hL; exact h.v j hj hL
  · rw [updL_ne (by omega), updL_ne (j := 21) (by omega), upd_ne (by omega)]
    intro hL2
    obtain ⟨c, g1, g2, g3, g4⟩ := h.a hL2
    have hne : c ≠ b := fun e => h.ne hL2 hL (by rw [hb, g1, e])
    refine ⟨c, g1, g2, by simpa using g3, ?_⟩
    rw [Below.heap_setCell _ _ _ _ hne, Below.heap_setCell _ _ _ _ hne, Below.heap_setCell _ _ _ _ hne]
    exact g4
  · rw [upd_ne (by omega), updL_eq]
    exact ⟨b, hb, h2, by simpa using h3, by rw [if_pos rfl]; exact put_num h4 rfl _ _ _⟩
  · rw [updL_ne (by omega), updL_ne (by omega), upd_ne (by omega), upd_ne (by omega)]; exact h.ne
  · rw [updL_ne (by omega), updL_ne (by omega)]; exact h.c21
  · rw [updL_ne (by omega)]; exact hL
end

end Go.Proofs.Ytnmhnaanpjlniaa
