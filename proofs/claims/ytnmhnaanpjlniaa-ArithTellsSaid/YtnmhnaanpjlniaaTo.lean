import Derived.Test.YtnmhnaanpjlniaaTn
/-
  Size, by the iterator.
-/
namespace Go.Proofs.Ytnmhnaanpjlniaa
open Go.RowKit
attribute [local go_sem] Oper.semAt_some

set_option maxHeartbeats 1000000 in
theorem nodes_any (F : Fence) (n : Nat) (hF : F.fn 80) (hro : F.round = none) (p : Option Addr) (m c : Nat) (w : World) :
    CallsIn F n Try.prog 80 #[.slice p m c] w fun e w' => e = .returned (.func (.func 106) #[] #[.pointer (some ⟨w.heap.size, 0, none⟩)]) ∧ w' = w.alloc (.cells #[.slice p m c] 23) := by
  refine callsIn_of_wp Try.func80 rfl hF ?_ hro
  simp only [Try.ntmps80, List.size_toArray, List.length_cons, List.length_nil, Nat.reduceAdd, Nat.reduceSub, Array.replicate_succ, Array.replicate_zero, List.push_toArray, List.append_toArray, List.nil_append, List.cons_append]
  gi_wp2
  go_ret
  exact ⟨rfl, rfl⟩

/-- the four blocks that lie when the loop begins -/
theorem box4 (w : World) (A : Array Value) (z v : Value) (t1 t2 t3 t4 : TypeId) : ∃ W, W = (((w.alloc (.cells A t1)).alloc (.cells #[z] t2)).alloc (.cells A t3)).alloc (.cells #[v] t4) ∧ W.heap.size = w.heap.size + 4 ∧ Below w.heap.size w W ∧
    W.cell? ⟨w.heap.size + 1, 0, none⟩ = some z ∧ W.frozen? ⟨w.heap.size + 1, 0, none⟩ = false ∧ (∀ i u, A[i]? = some u → W.cell? ⟨w.heap.size + 1 + 1, i, none⟩ = some u) ∧ W.cell? ⟨w.heap.size + 1 + 1 + 1, 0, none⟩ = some v := by
  refine ⟨_, rfl, by simp, ((((Below.refl _ _).alloc (Nat.le_refl _) _).alloc (by simp) _).alloc (by simp; omega) _).alloc (by simp; omega) _, ?_, ?_, fun i u h => ?_, ?_⟩
  · refine cell_alloc_old _ (cell_alloc_old _ ?_)
    rw [_root_.Go.Joins.cell_alloc_mark_at _ _ _ _ _ 0 (by simp)]; rfl
  · rw [World.frozen?_alloc_past _ _ _ (by simp), World.frozen?_alloc_past _ _ _ (by simp)]
    exact World.frozen?_alloc_at _ _ _ _ (by simp)
  · refine cell_alloc_old _ ?_
    rw [_root_.Go.Joins.cell_alloc_mark_at _ _ _ _ _ i (by simp)]; exact h
  · rw [_root_.Go.Joins.cell_alloc_mark_at _ _ _ _ _ 0 (by simp)]; rfl

theorem one_at {w W : World} {A : Array Value} {k : Int} {s : ByteArray} {n : Int} {p : Option Addr} {c : Nat} {ts : Ts} (hA : A = #[.int .u8 k, .string s, .int .i64 n, .slice p ts.len c]) (hB : Below w.heap.size w W) {b : Nat} (hc : ∀ i u, A[i]? = some u → W.cell? ⟨b, i, none⟩ = some u) (hat : Ts.At w p ts) :
    Ts.AtP (fun x => x < w.heap.size ∨ x = b) W (some ⟨b, 0, none⟩) (.cons k s n p c ts .nil) := by
  subst hA
  have h := hat.atP
  obtain ⟨b', o', h1, h2⟩ := h
  have h3 : Ts.liesP (fun x => x < w.heap.size) W b' o' ts := Ts.liesP_stay (fun x hx _ => hB.block x hx) ts h2
  have mono : ∀ (us : Ts) {y o : Nat}, Ts.liesP (fun x => x < w.heap.size) W y o us → Ts.liesP (fun x => x < w.heap.size ∨ x = b) W y o us := by
    intro us
    induction us with
    | nil => intro _ _ _; trivial
    | cons k s n p c kids rest ih1 ih2 =>
      intro y o ⟨g0, g1, g2, g3, g4, ⟨b2, o2, g5, g6⟩, g7⟩
      exact ⟨.inl g0, g1, g2, g3, g4, ⟨b2, o2, g5, ih1 g6⟩, ih2 g7⟩
  exact ⟨b, 0, .inr rfl, .inr rfl, hc 0 _ rfl, hc 1 _ rfl, hc 2 _ rfl, hc 3 _ rfl, ⟨b', o', h1, mono ts h3⟩, trivial⟩

set_option maxRecDepth 100000 in
set_option maxHeartbeats 2000000 in
theorem tsize_any (ts : Ts) (hbig : ts.size ≤ 900000) (hok : ts.ok) (k : Int) (s : ByteArray) (n : Int) (w : World) (p : Option Addr) (c : Nat) (hk : 0 ≤ k ∧ k ≤ 255) (hs : s.size ≤ 140737488351232) (hn : -9223372036854775808 ≤ n ∧ n ≤ 9223372036854775807) (hc : ts.len ≤ c ∧ c ≤ 9223372036854775807) (hp : p = none → c = 0) (hat : Ts.At w p ts) :
    Calls Try.prog 36 #[.agg #[.int .u8 k, .string s, .int .i64 n, .slice p ts.len c]] w fun e w' =>
      e = .returned (.int .i64 ((ts.size + 1 : Nat) : Int)) ∧ Below w.heap.size w w' := by
  refine (callsIn_wide (n := 8)).1 ?_
  refine callsIn_of_wp_marks Try.func36 rfl trivial ?_ rfl
  simp only [Try.ntmps36, List.size_toArray, List.length_cons, List.length_nil, Nat.reduceAdd, Nat.reduceSub, Array.replicate_succ, Array.replicate_zero, List.push_toArray, List.append_toArray, List.nil_append, List.cons_append]
  gi_wp2_with (refine ⟨trivial, ?_⟩; gi_at_call 80; refine (nodes_any _ _ trivial rfl _ _ _ _).mono ?_; rintro e w' ⟨rfl, rfl⟩)
  obtain ⟨W0, hW0, hs0, hB0, hz, hfz, hA, hv⟩ := box4 w #[.int .u8 k, .string s, .int .i64 n, .slice p ts.len c] (.int .i64 0) (.slice (some ⟨w.heap.size + 1 + 1, 0, none⟩) 1 1) 25 3 25 23
  rw [← hW0]
  have Z := Lib.hid hW0
  clear hW0
  have hsz : (Ts.cons k s n p c ts .nil).size = ts.size + 1 := by simp [Ts.size]
  have hseq := nodes_seq Fence.wide 7 trivial rfl (by omega) (w.heap.size + 1 + 1 + 1) (some ⟨w.heap.size + 1 + 1, 0, none⟩) 1 (.cons k s n p c ts .nil) ⟨hk, hs, hn, hc, hp, hok, trivial⟩ ⟨Nat.le_refl _, by omega⟩ (by rw [hsz]; omega) (fun x => x < w.heap.size ∨ x = w.heap.size + 1 + 1) (fun _ x => x = w.heap.size + 1) W0 (fun b hb => ⟨by omega, fun _ h => by omega⟩) hv (one_at rfl hB0 hA hat)
  refine range_law rfl (by omega) (gf := 106) (lb := #[.pointer (some ⟨w.heap.size + 1 + 1 + 1, 0, none⟩)]) rfl trivial (enters_of Try.func106 (by kernel_rfl) rfl) hseq
    (fun W W' row k' hg hr h => h) (fun k' hk' h => by omega) (Below.refl _ _) (fun _ => rfl)
    (fun pre W => W.cell? ⟨w.heap.size + 1, 0, none⟩ = some (.int .i64 (pre.length : Nat)) ∧ W.frozen? ⟨w.heap.size + 1, 0, none⟩ = false ∧ w.heap.size + 4 ≤ W.heap.size ∧ Below w.heap.size w W)
    (fun _ _ _ => False) ?hI (fun _ _ _ _ _ h _ _ => h) ⟨hz, hfz, by omega, hB0⟩
    (fun x _ a' => a' = { tmps := #[.agg #[.int .u8 k, .string s, .int .i64 n, .slice p ts.len c], .pointer (some ⟨w.heap.size, 0, none⟩), .int .i64 0, .pointer (some ⟨w.heap.size + 1, 0, none⟩), .agg #[.int .u8 k, .string s, .int .i64 n, .slice p ts.len c], .slice (some ⟨w.heap.size + 1 + 1, 0, none⟩) 1 1, .func (.func 106) #[] #[.pointer (some ⟨w.heap.size + 1 + 1 + 1, 0, none⟩)], x.val, undef, undef, undef], defers := [] })
    ?assign (fun _ _ _ _ _ h _ _ => h) ?body ?done (fun _ _ _ _ _ _ h _ => h.elim)
  case hI =>
    rintro pre W W' row ⟨h1, h2, h3, h4⟩ hg hr
    have hne : some (w.heap.size + 1) ≠ row := fun e => by have := (hr _ e.symm).1; omega
    have hbl := hg.block (w.heap.size + 1) (by omega) hne
    exact ⟨(World.cell?_of_block (a := ⟨w.heap.size + 1, 0, none⟩) hbl).trans h1, (World.frozen?_of_block (a := ⟨w.heap.size + 1, 0, none⟩) hbl).trans h2, Nat.le_trans h3 hg.size, h4.grown hg (by omega) (fun r e => by have := (hr r e).1; omega)⟩
  case assign =>
    intro l pre x W K hi hK
    gi_wp2
    exact hK _ _ (by simp) (KeepsFrom.refl _ _) ⟨Nat.le_refl _, fun k' _ _ hm => ⟨rfl, hm⟩, fun h => h⟩ hi
  case body =>
    rintro l pre x a' W ⟨h1, h2, h3, h4⟩ rfl hlen
    have hlen2 : pre.length < 1000000 := by have := hlen.length_le; rw [nodesOf_length, hsz, List.length_append] at this; simp at this; omega
    gi_wp2
    refine ⟨(KeepsOthers.setCell _ _ _).from _, ⟨by simp, fun k' _ hlt hm => ⟨Below.heap_setCell _ _ _ _ hm, hm⟩, fun h k' hk' => h k' (by simpa using hk')⟩, ?_, by rw [World.frozen?_setCell]; exact h2, by simpa using h3, h4.setCell (p := ⟨w.heap.size + 1, 0, none⟩) (by simp) _⟩
    rw [World.cell?_setCell_same _ _ _ h1]
    simp
  case done =>
    rintro D xs W hD rfl ⟨h1, h2, h3, h4⟩ hdef
    have hl : (nodesOf (Ts.cons k s n p c ts .nil)).length = ts.size + 1 := by rw [nodesOf_length, hsz]
    rw [hl] at h1
    gi_wp2
    refine ⟨by simp, .inl ⟨_, _, rfl, run_takeDeferred hdef, ?_⟩⟩
    exact ⟨_, results_tmp rfl _ _ _, rfl, h4.grown (grownBy_putObj' W D _) (by omega) (fun r e => by cases e; omega)⟩

end Go.Proofs.Ytnmhnaanpjlniaa
