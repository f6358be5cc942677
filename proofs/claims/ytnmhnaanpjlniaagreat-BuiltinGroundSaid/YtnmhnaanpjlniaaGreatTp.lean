import Derived.Test.YtnmhnaanpjlniaaGreatTo
/-
  Ground, by the iterator.
-/
namespace Go.Proofs.YtnmhnaanpjlniaaGreat
open Go.RowKit
attribute [local go_sem] Oper.semAt_some

/-- has it no variable? -/
def noVar (l : List Nd) : Bool := l.all fun x => !(x.k == 1)

set_option maxRecDepth 100000 in
set_option maxHeartbeats 2000000 in
theorem tground_any (ts : Ts) (hbig : ts.size ≤ 900000) (hok : ts.ok) (k : Int) (s : ByteArray) (n : Int) (w : World) (p : Option Addr) (c : Nat) (hk : 0 ≤ k ∧ k ≤ 255) (hs : s.size ≤ 140737488351232) (hn : -9223372036854775808 ≤ n ∧ n ≤ 9223372036854775807) (hc : ts.len ≤ c ∧ c ≤ 9223372036854775807) (hp : p = none → c = 0) (hat : Ts.At w p ts) :
    Calls Tryz.prog 20 #[.agg #[.int .u8 k, .string s, .int .i64 n, .slice p ts.len c]] w fun e w' =>
      e = .returned (.bool (noVar (nodesOf (.cons k s n p c ts .nil)))) ∧ Below w.heap.size w w' := by
  refine (callsIn_wide (n := 8)).1 ?_
  refine callsIn_of_wp_marks Tryz.func20 rfl trivial ?_ rfl
  simp only [Tryz.ntmps20, List.size_toArray, List.length_cons, List.length_nil, Nat.reduceAdd, Nat.reduceSub, Array.replicate_succ, Array.replicate_zero, List.push_toArray, List.append_toArray, List.nil_append, List.cons_append]
  gi_wp2_with (refine ⟨trivial, ?_⟩; gi_at_call 44; refine (nodes_any _ _ trivial rfl _ _ _ _).mono ?_; rintro e w' ⟨rfl, rfl⟩)
  obtain ⟨W0, hW0, hs0, hB0, hz, hfz, hA, hv⟩ := box4 w #[.int .u8 k, .string s, .int .i64 n, .slice p ts.len c] (.bool false) (.slice (some ⟨w.heap.size + 1 + 1, 0, none⟩) 1 1) 25 4 25 23
  rw [← hW0]
  have Z := Lib.hid hW0
  clear hW0
  have hsz : (Ts.cons k s n p c ts .nil).size = ts.size + 1 := by simp [Ts.size]
  have hseq := nodes_seq Fence.wide 7 trivial rfl (by omega) (w.heap.size + 1 + 1 + 1) (some ⟨w.heap.size + 1 + 1, 0, none⟩) 1 (.cons k s n p c ts .nil) ⟨hk, hs, hn, hc, hp, hok, trivial⟩ ⟨Nat.le_refl _, by omega⟩ (by rw [hsz]; omega) (fun x => x < w.heap.size ∨ x = w.heap.size + 1 + 1) (fun _ x => x = w.heap.size + 1) W0 (fun b hb => ⟨by omega, fun _ h => by omega⟩) hv (one_at rfl hB0 hA hat)
  obtain ⟨all, hall⟩ : ∃ all, all = nodesOf (.cons k s n p c ts .nil) := ⟨_, rfl⟩
  rw [← hall] at hseq
  have HALL := Lib.hid hall
  clear hall
  refine range_law rfl (by omega) (gf := 92) (lb := #[.pointer (some ⟨w.heap.size + 1 + 1 + 1, 0, none⟩)]) rfl trivial (enters_of Tryz.func92 (by kernel_rfl) rfl) hseq
    (fun W W' row k' hg hr h => h) (fun k' hk' h => by omega) (Below.refl _ _) (fun _ => rfl)
    (fun pre W => noVar pre = true ∧ W.cell? ⟨w.heap.size + 1, 0, none⟩ = some (.bool false) ∧ W.frozen? ⟨w.heap.size + 1, 0, none⟩ = false ∧ w.heap.size + 4 ≤ W.heap.size ∧ Below w.heap.size w W)
    (fun c pre W => c = .ret ∧ noVar pre = false ∧ W.cell? ⟨w.heap.size + 1, 0, none⟩ = some (.bool false) ∧ W.frozen? ⟨w.heap.size + 1, 0, none⟩ = false ∧ w.heap.size + 4 ≤ W.heap.size ∧ Below w.heap.size w W) ?hI ?hIx ⟨rfl, hz, hfz, by omega, hB0⟩
    (fun x W a' => ∃ Bx, W.cell? ⟨Bx, 0, none⟩ = some (.int .u8 x.k) ∧ a' = { tmps := #[.agg #[.int .u8 k, .string s, .int .i64 n, .slice p ts.len c], .pointer (some ⟨w.heap.size, 0, none⟩), .pointer (some ⟨w.heap.size + 1, 0, none⟩), .pointer (some ⟨Bx, 0, none⟩), .agg #[.int .u8 k, .string s, .int .i64 n, .slice p ts.len c], .slice (some ⟨w.heap.size + 1 + 1, 0, none⟩) 1 1, .func (.func 92) #[] #[.pointer (some ⟨w.heap.size + 1 + 1 + 1, 0, none⟩)], x.val, undef, undef, undef], defers := [] })
    ?assign ?ha ?body ?done ?stop
  case hI =>
    rintro pre W W' row ⟨h0, h1, h2, h3, h4⟩ hg hr
    have hne : some (w.heap.size + 1) ≠ row := fun e => by have := (hr _ e.symm).1; omega
    have hbl := hg.block (w.heap.size + 1) (by omega) hne
    exact ⟨h0, (World.cell?_of_block (a := ⟨w.heap.size + 1, 0, none⟩) hbl).trans h1, (World.frozen?_of_block (a := ⟨w.heap.size + 1, 0, none⟩) hbl).trans h2, Nat.le_trans h3 hg.size, h4.grown hg (by omega) (fun r e => by have := (hr r e).1; omega)⟩
  case hIx =>
    rintro c pre W W' row ⟨hc0, h0, h1, h2, h3, h4⟩ hg hr
    have hne : some (w.heap.size + 1) ≠ row := fun e => by have := (hr _ e.symm).1; omega
    have hbl := hg.block (w.heap.size + 1) (by omega) hne
    exact ⟨hc0, h0, (World.cell?_of_block (a := ⟨w.heap.size + 1, 0, none⟩) hbl).trans h1, (World.frozen?_of_block (a := ⟨w.heap.size + 1, 0, none⟩) hbl).trans h2, Nat.le_trans h3 hg.size, h4.grown hg (by omega) (fun r e => by have := (hr r e).1; omega)⟩
  case ha =>
    rintro x a' W W' row ⟨Bx, h1, rfl⟩ hg hr
    exact ⟨Bx, cell_kept h1 hg (fun r e => (hr r e).2), rfl⟩
  case assign =>
    rintro l pre x W K ⟨h0, h1, h2, h3, h4⟩ hK
    obtain ⟨xk, xs, xn, xp, xc, xt⟩ := x
    simp only [Nd.val] at hK ⊢
    gi_wp2
    exact hK _ _ ⟨W.heap.size, by rw [_root_.Go.Joins.cell_alloc_mark_at _ _ _ _ _ 0 rfl]; rfl, rfl⟩ ((KeepsOthers.alloc _ _).from _) ⟨by simp, fun k' _ hlt hm => ⟨Below.heap_alloc _ _ _ hlt, hm⟩, fun h k' hk' => h k' (by simp at hk'; omega)⟩
      ⟨h0, cell_alloc_old _ h1, by rw [World.frozen?_alloc_past _ _ _ (by omega)]; exact h2, by simp; omega, h4.alloc (by omega) _⟩
  case body =>
    rintro l pre x a' W ⟨h0, h1, h2, h3, h4⟩ ⟨Bx, hx, rfl⟩ hlen
    by_cases hv1 : (x.k == 1) = true
    · have hno : noVar (pre ++ [x]) = false := by simp [noVar, hv1]
      gi_wp2
      exact ⟨(KeepsOthers.setCell _ _ _).from _, rfl, hno, World.cell?_setCell_same _ _ _ h1, by rw [World.frozen?_setCell]; exact h2, by simpa using h3, h4.setCell (p := ⟨w.heap.size + 1, 0, none⟩) (by simp) _⟩
    · rw [Bool.not_eq_true] at hv1
      have hno : noVar (pre ++ [x]) = true := by rw [noVar] at h0 ⊢; rw [List.all_append, h0]; simp [hv1]
      gi_wp2
      exact ⟨KeepsFrom.refl _ _, ⟨Nat.le_refl _, fun _ _ _ hm => ⟨rfl, hm⟩, fun h => h⟩, hno, h1, h2, h3, h4⟩
  case done =>
    rintro D xs W hD rfl ⟨h0, h1, h2, h3, h4⟩ hdef
    have hpre : noVar (nodesOf (.cons k s n p c ts .nil)) = true := by rw [← HALL.out]; exact h0
    have HP := Lib.hid hpre
    clear hpre
    gi_wp2
    have hdef' : (W.setCell ⟨w.heap.size + 1, 0, none⟩ (.bool true)).heap[D]? = some (.deferred (some [])) := by rw [Below.heap_setCell _ _ _ _ (by simp; omega)]; exact hdef
    refine ⟨by simp, .inl ⟨_, _, rfl, run_takeDeferred hdef', ?_⟩⟩
    have hcell : ((W.setCell ⟨w.heap.size + 1, 0, none⟩ (.bool true)).putObj D (.deferred none)).cell? ⟨w.heap.size + 1, 0, none⟩ = some (.bool true) :=
      cell_kept (World.cell?_setCell_same _ _ _ h1) (grownBy_putObj' _ D _) (fun r e => by cases e; exact ⟨_, hdef', rfl⟩)
    refine ⟨.bool true, by simp [results, Tryz.results20, go_sem, hcell], by rw [HP.out], (h4.setCell (p := ⟨w.heap.size + 1, 0, none⟩) (by simp) _).grown (grownBy_putObj' _ D _) (by simp; omega) (fun r e => by cases e; omega)⟩
  case stop =>
    rintro D c pre W hD hpre ⟨rfl, h0, h1, h2, h3, h4⟩ hdef
    have hnot : noVar (nodesOf (.cons k s n p c ts .nil)) = false := by
      rw [← HALL.out]
      obtain ⟨tl, htl⟩ := hpre
      rw [← htl, noVar, List.all_append]
      rw [noVar] at h0
      rw [h0, Bool.false_and]
    have HP := Lib.hid hnot
    clear hnot hpre
    gi_wp2
    refine ⟨by simp, .inl ⟨_, _, rfl, run_takeDeferred hdef, ?_⟩⟩
    have hcell : (W.putObj D (.deferred none)).cell? ⟨w.heap.size + 1, 0, none⟩ = some (.bool false) :=
      cell_kept h1 (grownBy_putObj' _ D _) (fun r e => by cases e; exact ⟨_, hdef, rfl⟩)
    refine ⟨.bool false, by simp [results, Tryz.results20, go_sem, hcell], by rw [HP.out], h4.grown (grownBy_putObj' _ D _) (by omega) (fun r e => by cases e; omega)⟩

end Go.Proofs.YtnmhnaanpjlniaaGreat
