import Derived.Test.YtnmhnaanpjlniaaGreatTn
/-
  Size, by the iterator.
-/
namespace Go.Proofs.YtnmhnaanpjlniaaGreat
open Go.RowKit
attribute [local go_sem] Oper.semAt_some

set_option maxHeartbeats 1000000 in
theorem nodes_any (F : Fence) (n : Nat) (hF : F.fn 44) (hro : F.round = none) (p : Option Addr) (m c : Nat) (w : World) :
    CallsIn F n Tryz.prog 44 #[.slice p m c] w fun e w' => e = .returned (.func (.func 92) #[] #[.pointer (some ⟨w.heap.size, 0, none⟩)]) ∧ w' = w.alloc (.cells #[.slice p m c] 23) := by
  refine callsIn_of_wp Tryz.func44 rfl hF ?_ hro
  simp only [Tryz.ntmps44, List.size_toArray, List.length_cons, List.length_nil, Nat.reduceAdd, Nat.reduceSub, Array.replicate_succ, Array.replicate_zero, List.push_toArray, List.append_toArray, List.nil_append, List.cons_append]
  gi_wp2
  go_ret
  exact ⟨rfl, rfl⟩

/-- the four blocks that lie when the loop begins -/
theorem box4 (w : World) (A : Array Value) (z v : Value) (t1 t2 t3 t4 : TypeId) : ∃ W, W = (((w.alloc (.cells A t1)).alloc (.cells #[z] t2)).alloc (.cells A t3)).alloc (.cells #[v] t4) ∧ W.heap.size = w.heap.size + 4 ∧ Below w.heap.size w W ∧
    W.cell? ⟨w.heap.size + 1, 0, none⟩ = some z ∧ W.frozen? ⟨w.heap.size + 1, 0, none⟩ = false ∧ (∀ i u, A[i]? = some u → W.cell? ⟨w.heap.size + 1 + 1, i, none⟩ = some u) ∧ W.cell? ⟨w.heap.size + 1 + 1 + 1, 0, none⟩ = some v := by
  refine ⟨_, rfl, by simp, ((((Below.refl _ _).alloc (Nat.le_refl _) _).alloc (by simp) _).alloc (by simp; omega) _).alloc (by simp; omega) _, ?_, ?_, fun i u h => ?_, ?_⟩
  · refine cell_alloc_old _ (cell_alloc_old _ ?_)
    rw [_root_.Go.Joins.cell_alloc_mark_at _ _ _ _ _ 0 (by simp)]; rfl
  · rw [World.frozen?_alloc_past _ _ _ (by simp), World.frozen?_alloc_past _ _ _ (by simp)]
    exact World.frozen?_alloc_at _ _ _ _ (by simp)
  · refine cell_alloc_old _ ?_
    rw [_root_.Go.Joins.cell_alloc_mark_at _ _ _ _ _ i (by simp)]; exact h
  · rw [_root_.Go.Joins.cell_alloc_mark_at _ _ _ _ _ 0 (by simp)]; rfl

theorem one_at {w W : World} {A : Array Value} {k : Int} {s : ByteArray} {n : Int} {p : Option Addr} {c : Nat} {ts : Ts} (hA : A = #[.int .u8 k, .string s, .int .i64 n, .slice p ts.len c]) (hB : Below w.heap.size w W) {b : Nat} (hc : ∀ i u, A[i]? = some u → W.cell? ⟨b, i, none⟩ = some u) (hat : Ts.At w p ts) :
    Ts.AtP (fun x => x < w.heap.size ∨ x = b) W (some ⟨b, 0, none⟩) (.cons k s n p c ts .nil) := by
  subst hA
  have h := hat.atP
  obtain ⟨b', o', h1, h2⟩ := h
  have h3 : Ts.liesP (fun x => x < w.heap.size) W b' o' ts := Ts.liesP_stay (fun x hx _ => hB.block x hx) ts h2
  have mono : ∀ (us : Ts) {y o : Nat}, Ts.liesP (fun x => x < w.heap.size) W y o us → Ts.liesP (fun x => x < w.heap.size ∨ x = b) W y o us := by
    intro us
    induction us with
    | nil => intro _ _ _; trivial
    | cons k s n p c kids rest ih1 ih2 =>
      intro y o ⟨g0, g1, g2, g3, g4, ⟨b2, o2, g5, g6⟩, g7⟩
      exact ⟨.inl g0, g1, g2, g3, g4, ⟨b2, o2, g5, ih1 g6⟩, ih2 g7⟩
  exact ⟨b, 0, .inr rfl, .inr rfl, hc 0 _ rfl, hc 1 _ rfl, hc 2 _ rfl, hc 3 _ rfl, ⟨b', o', h1, mono ts h3⟩, trivial⟩


end Go.Proofs.YtnmhnaanpjlniaaGreat
