import Derived.Test.YtnmhnaanpjlniaaGreatAh
/-
  Layer 3: whether a variable occurs.
-/
namespace Go.Proofs.YtnmhnaanpjlniaaGreat
open Go.RowKit
attribute [local go_sem] Oper.semAt_some

set_option maxHeartbeats 1000000 in
theorem visits_any (F : Fence) (n : Nat) (hF : F.fn 63) (hro : F.round = none) (v A : Value) (k : Int) (s : ByteArray) (z : Int) (p : Option Addr) (len c : Nat) (hA : A = .agg #[.int .u8 k, .string s, .int .i64 z, .slice p len c]) (S : Addr) (hv : v = .pointer (some S)) (w : World) :
    CallsIn F n Tryz.prog 63 #[v, A] w fun e w' => e = .returned (.func (.func 102) #[] #[.pointer (some ⟨w.heap.size + 1, 0, none⟩), .pointer (some ⟨w.heap.size, 0, none⟩)]) ∧ w' = (w.alloc (.cells #[.pointer (some S)] 30)).alloc (.cells #[.int .u8 k, .string s, .int .i64 z, .slice p len c] 25) := by
  subst hA hv
  refine callsIn_of_wp Tryz.func63 rfl hF ?_ hro
  simp only [Tryz.ntmps63, List.size_toArray, List.length_cons, List.length_nil, Nat.reduceAdd, Nat.reduceSub, Array.replicate_succ, Array.replicate_zero, List.push_toArray, List.append_toArray, List.nil_append, List.cons_append]
  gi_wp2
  go_ret
  exact ⟨rfl, rfl⟩

/-- six blocks one behind the other -/
theorem box6 (w : World) (A0 A1 A2 A3 A4 A5 : Array Value) (t0 t1 t2 t3 t4 t5 : TypeId) : ∃ W, W = (((((w.alloc (.cells A0 t0)).alloc (.cells A1 t1)).alloc (.cells A2 t2)).alloc (.cells A3 t3)).alloc (.cells A4 t4)).alloc (.cells A5 t5) ∧ W.heap.size = w.heap.size + 6 ∧ Below w.heap.size w W ∧
    (∀ i v, A0[i]? = some v → W.cell? ⟨w.heap.size, i, none⟩ = some v) ∧ (∀ i v, A2[i]? = some v → W.cell? ⟨w.heap.size + 1 + 1, i, none⟩ = some v) ∧ (∀ i v, A3[i]? = some v → W.cell? ⟨w.heap.size + 1 + 1 + 1, i, none⟩ = some v) ∧ (∀ i v, A4[i]? = some v → W.cell? ⟨w.heap.size + 1 + 1 + 1 + 1, i, none⟩ = some v) ∧ (∀ i v, A5[i]? = some v → W.cell? ⟨w.heap.size + 1 + 1 + 1 + 1 + 1, i, none⟩ = some v) ∧ (∀ b i, w.heap.size ≤ b → b < w.heap.size + 6 → W.frozen? ⟨b, i, none⟩ = false) ∧ (∀ i v, A1[i]? = some v → W.cell? ⟨w.heap.size + 1, i, none⟩ = some v) := by
  obtain ⟨V0, e0, s0, b0, c0, f0⟩ := alloc_new w A0 t0
  obtain ⟨V1, e1, s1, b1, c1, f1⟩ := alloc_new V0 A1 t1
  obtain ⟨V2, e2, s2, b2, c2, f2⟩ := alloc_new V1 A2 t2
  obtain ⟨V3, e3, s3, b3, c3, f3⟩ := alloc_new V2 A3 t3
  obtain ⟨V4, e4, s4, b4, c4, f4⟩ := alloc_new V3 A4 t4
  obtain ⟨V5, e5, s5, b5, c5, f5⟩ := alloc_new V4 A5 t5
  have h1 : V0.heap.size = w.heap.size + 1 := s0
  have h2 : V1.heap.size = w.heap.size + 1 + 1 := by omega
  have h3 : V2.heap.size = w.heap.size + 1 + 1 + 1 := by omega
  have h4 : V3.heap.size = w.heap.size + 1 + 1 + 1 + 1 := by omega
  have h5 : V4.heap.size = w.heap.size + 1 + 1 + 1 + 1 + 1 := by omega
  rw [h1] at c1 f1
  rw [h2] at c2 f2
  rw [h3] at c3 f3
  rw [h4] at c4 f4
  rw [h5] at c5 f5
  have B45 := b5
  have B35 := b4.trans (b5.mono (by omega))
  have B25 := b3.trans (B35.mono (by omega))
  have B15 := b2.trans (B25.mono (by omega))
  have B05 := b1.trans (B15.mono (by omega))
  have B := b0.trans (B05.mono (by omega))
  refine ⟨V5, by rw [e5, e4, e3, e2, e1, e0], by omega, B, fun i v h => ((stays B05).1 _ _ (by omega)).trans (c0 i v h), fun i v h => ((stays B25).1 _ _ (by omega)).trans (c2 i v h), fun i v h => ((stays B35).1 _ _ (by omega)).trans (c3 i v h), fun i v h => ((stays B45).1 _ _ (by omega)).trans (c4 i v h), c5, fun b i hb1 hb2 => ?_, fun i v h => ((stays B15).1 _ _ (by omega)).trans (c1 i v h)⟩
  obtain rfl | rfl | rfl | rfl | rfl | rfl : b = w.heap.size ∨ b = w.heap.size + 1 ∨ b = w.heap.size + 1 + 1 ∨ b = w.heap.size + 1 + 1 + 1 ∨ b = w.heap.size + 1 + 1 + 1 + 1 ∨ b = w.heap.size + 1 + 1 + 1 + 1 + 1 := by omega
  · exact ((stays B05).2 _ _ (by omega)).trans (f0 i)
  · exact ((stays B15).2 _ _ (by omega)).trans (f1 i)
  · exact ((stays B25).2 _ _ (by omega)).trans (f2 i)
  · exact ((stays B35).2 _ _ (by omega)).trans (f3 i)
  · exact ((stays B45).2 _ _ (by omega)).trans (f4 i)
  · exact f5 i

/-- is a variable among what is visited, and not too late? -/
def occ (v : Int) : List (Nat × Nd) → Bool × Int
  | [] => (false, 0)
  | (i, x) :: l => if 4096 < i then (false, 31) else if ((x.k == 1) && (x.n == v)) = true then (true, 0) else occ v l

theorem occ_go {v : Int} {i : Nat} {x : Nd} {l : List (Nat × Nd)} (h1 : ¬ 4096 < i) (h2 : ¬ ((x.k == 1) && (x.n == v)) = true) : occ v ((i, x) :: l) = occ v l := by
  simp only [occ, if_neg h1, if_neg h2]

/-- what stands between two rounds -/
structure OccIn (v : Int) (w : World) (pre : List (Nat × Nd)) (W : World) : Prop where
  go : ∀ l, occ v (pre ++ l) = occ v l
  cv : W.cell? ⟨w.heap.size, 0, none⟩ = some (.int .i64 v)
  c6 : W.cell? ⟨w.heap.size + 1 + 1, 0, none⟩ = some (.bool false)
  f6 : W.frozen? ⟨w.heap.size + 1 + 1, 0, none⟩ = false
  c7 : W.cell? ⟨w.heap.size + 1 + 1 + 1, 0, none⟩ = some (.int .i64 0)
  f7 : W.frozen? ⟨w.heap.size + 1 + 1 + 1, 0, none⟩ = false
  sz : w.heap.size + 6 ≤ W.heap.size
  B : Below w.heap.size w W

theorem OccIn.of {v : Int} {w : World} {pre pre' : List (Nat × Nd)} {W W' : World} (h : OccIn v w pre W) (hgo : ∀ l, occ v (pre' ++ l) = occ v l) (hb : ∀ b, b < w.heap.size + 6 → W'.heap[b]? = W.heap[b]?) (hs : W.heap.size ≤ W'.heap.size) (hB : Below w.heap.size w W') : OccIn v w pre' W' :=
  ⟨hgo, (World.cell?_of_block (a := ⟨w.heap.size, 0, none⟩) (hb w.heap.size (by omega))).trans h.cv, (World.cell?_of_block (a := ⟨w.heap.size + 1 + 1, 0, none⟩) (hb (w.heap.size + 1 + 1) (by omega))).trans h.c6, (World.frozen?_of_block (a := ⟨w.heap.size + 1 + 1, 0, none⟩) (hb (w.heap.size + 1 + 1) (by omega))).trans h.f6,
    (World.cell?_of_block (a := ⟨w.heap.size + 1 + 1 + 1, 0, none⟩) (hb (w.heap.size + 1 + 1 + 1) (by omega))).trans h.c7, (World.frozen?_of_block (a := ⟨w.heap.size + 1 + 1 + 1, 0, none⟩) (hb (w.heap.size + 1 + 1 + 1) (by omega))).trans h.f7, Nat.le_trans h.sz hs, hB⟩

/-- what stands when it has been left -/
structure OccEx (v : Int) (w : World) (pre : List (Nat × Nd)) (W : World) : Prop where
  go : ∃ b e, (∀ l, occ v (pre ++ l) = (b, e)) ∧ W.cell? ⟨w.heap.size + 1 + 1, 0, none⟩ = some (.bool b) ∧ W.cell? ⟨w.heap.size + 1 + 1 + 1, 0, none⟩ = some (.int .i64 e)
  sz : w.heap.size + 6 ≤ W.heap.size
  B : Below w.heap.size w W

set_option maxRecDepth 100000 in
set_option maxHeartbeats 4000000 in
theorem occurs_any (S : Nat) (σ : Sb) (m : Nat) (w : World) (hS : SubAt S σ m w) (v : Int) (t : Nd) (hok : t.ok) (hat : Ts.At w t.p t.kids) (hsz : t.kids.size ≤ 5000) :
    Calls Tryz.prog 68 #[.pointer (some ⟨S, 0, none⟩), .int .i64 v, .agg #[.int .u8 t.k, .string t.s, .int .i64 t.n, .slice t.p t.kids.len t.c]] w fun e w' => e = .returned (.tuple #[.bool (occ v (num 0 (vis σ 4097 [t]))).1, .int .i64 (occ v (num 0 (vis σ 4097 [t]))).2]) ∧ Below w.heap.size w w' := by
  refine (callsIn_wide (n := 8)).1 ?_
  refine callsIn_of_wp_marks Tryz.func68 rfl trivial ?_ rfl
  simp only [Tryz.ntmps68, List.size_toArray, List.length_cons, List.length_nil, Nat.reduceAdd, Nat.reduceSub, Array.replicate_succ, Array.replicate_zero, List.push_toArray, List.append_toArray, List.nil_append, List.cons_append]
  gi_wp2_with (refine ⟨trivial, ?_⟩; gi_at_call 63; refine (visits_any _ _ trivial rfl _ _ _ _ _ _ _ _ rfl _ rfl _).mono ?_; rintro e w' ⟨rfl, rfl⟩)
  obtain ⟨W0, hW0, hs0, hB0, hc0, hc2, hc3, hc4, hc5, hf, hc1⟩ := box6 w #[.int .i64 v] #[.int .u8 t.k, .string t.s, .int .i64 t.n, .slice t.p t.kids.len t.c] #[.bool false] #[.int .i64 0] #[.pointer (some ⟨S, 0, none⟩)] #[.int .u8 t.k, .string t.s, .int .i64 t.n, .slice t.p t.kids.len t.c] 2 25 4 35 30 25
  rw [← hW0]
  have Z := Lib.hid hW0
  clear hW0
  have hseq := visits_seq S σ m w hS t hok hat hsz (fun _ => False) (w.heap.size + 1 + 1 + 1 + 1 + 1) (w.heap.size + 1 + 1 + 1 + 1) W0 hB0 (fun _ h => h.elim) ⟨hc5 0 _ rfl, hc5 1 _ rfl, hc5 2 _ rfl, hc5 3 _ rfl, fun i => hf _ i (by omega) (by omega)⟩ (hc4 0 _ rfl) (fun h => h) (fun h => h)
  have st : OccIn v w [] W0 := ⟨fun _ => rfl, hc0 0 _ rfl, hc2 0 _ rfl, hf _ 0 (by omega) (by omega), hc3 0 _ rfl, hf _ 0 (by omega) (by omega), by omega, hB0⟩
  obtain ⟨all, hall⟩ : ∃ all, all = num 0 (vis σ 4097 [t]) := ⟨_, rfl⟩
  rw [← hall] at hseq
  have HALL := Lib.hid hall
  clear hall hc0 hc1 hc2 hc3 hc4 hc5 hf
  refine range_law rfl (by omega) (gf := 102) (lb := #[.pointer (some ⟨w.heap.size + 1 + 1 + 1 + 1 + 1, 0, none⟩), .pointer (some ⟨w.heap.size + 1 + 1 + 1 + 1, 0, none⟩)]) rfl trivial (enters_of Tryz.func102 (by kernel_rfl) rfl) hseq
    (fun W W' row k' hg hr h => h) (fun k' hk' h => h) (Below.refl _ _) (fun _ => rfl)
    (fun pre W => OccIn v w pre W)
    (fun c pre W => c = .ret ∧ OccEx v w pre W) ?hI ?hIx st
    (fun x W a' => ∃ Bx, BoxIs Bx x.2 W ∧ w.heap.size + 6 ≤ Bx ∧ a' = { tmps := #[.pointer (some ⟨S, 0, none⟩), .int .i64 v, .agg #[.int .u8 t.k, .string t.s, .int .i64 t.n, .slice t.p t.kids.len t.c], undef, .pointer (some ⟨w.heap.size, 0, none⟩), .pointer (some ⟨w.heap.size + 1, 0, none⟩), .pointer (some ⟨w.heap.size + 1 + 1, 0, none⟩), .pointer (some ⟨w.heap.size + 1 + 1 + 1, 0, none⟩), .int .i64 (x.1 : Nat), .pointer (some ⟨Bx, 0, none⟩), .pointer (some ⟨S, 0, none⟩), .bool false, .pointer (some ⟨S, 0, none⟩), .agg #[.int .u8 t.k, .string t.s, .int .i64 t.n, .slice t.p t.kids.len t.c], .func (.func 102) #[] #[.pointer (some ⟨w.heap.size + 1 + 1 + 1 + 1 + 1, 0, none⟩), .pointer (some ⟨w.heap.size + 1 + 1 + 1 + 1, 0, none⟩)], .int .i64 (x.1 : Nat), x.2.val, undef, undef, undef, undef, undef, undef, undef, undef, undef, undef, undef], defers := [] })
    ?assign ?ha ?body ?done ?stop
  case hI =>
    rintro pre W W' row h hg hr
    exact h.of h.go (fun b hb => hg.block b (by have := h.sz; omega) (fun e => by have := (hr _ e.symm).1; omega)) hg.size (h.B.grown hg (by have := h.sz; omega) (fun r e => by have := (hr r e).1; omega))
  case hIx =>
    rintro c pre W W' row ⟨rfl, h⟩ hg hr
    have hb := fun b (hb : b < w.heap.size + 6) => hg.block b (by have := h.sz; omega) (fun e => by have := (hr _ e.symm).1; omega)
    obtain ⟨b, e, h1, h2, h3⟩ := h.go
    exact ⟨rfl, ⟨b, e, h1, (World.cell?_of_block (a := ⟨w.heap.size + 1 + 1, 0, none⟩) (hb (w.heap.size + 1 + 1) (by omega))).trans h2, (World.cell?_of_block (a := ⟨w.heap.size + 1 + 1 + 1, 0, none⟩) (hb (w.heap.size + 1 + 1 + 1) (by omega))).trans h3⟩, Nat.le_trans h.sz hg.size, h.B.grown hg (by have := h.sz; omega) (fun r e => by have := (hr r e).1; omega)⟩
  case ha =>
    rintro x a' W W' row ⟨Bx, h1, h2, rfl⟩ hg hr
    exact ⟨Bx, h1.of_block (hg.block Bx h1.lt (fun e => by
      obtain ⟨_, o, ho, hc⟩ := hr Bx e.symm
      have h0 := h1.c0
      cases o with
      | cells cs t fr => cases hc
      | _ => simp [World.cell?, ho] at h0)), h2, rfl⟩
  case assign =>
    rintro l pre x W K h hK
    obtain ⟨xi, xk, xs, xn, xp, xc, xt⟩ := x
    simp only [Nd.val] at hK ⊢
    gi_wp2
    exact hK _ _ ⟨W.heap.size, BoxIs.new W ⟨xk, xs, xn, xp, xc, xt⟩ _, h.sz, rfl⟩ ((KeepsOthers.alloc _ _).from _) ⟨by simp, fun k' _ hlt hm => ⟨Below.heap_alloc _ _ _ hlt, hm⟩, fun h k' hk' hm => hm⟩
      (h.of h.go (fun b hb => Below.heap_alloc _ _ _ (by have := h.sz; omega)) (by simp) (h.B.alloc (by have := h.sz; omega) _))
  case body =>
    rintro l pre x a' W h ⟨Bx, hx, hBx, rfl⟩ hp
    obtain ⟨xi, xx⟩ := x
    have hcv := h.cv
    have h6 := h.c6
    have g6 := h.f6
    have h7 := h.c7
    have g7 := h.f7
    have hsz := h.sz
    have x0 := hx.c0
    have x2 := hx.c2
    simp only at x0 x2
    have HH := Lib.hid h
    have d1 : ∀ u : Value, (W.setCell ⟨w.heap.size + 1 + 1, 0, none⟩ u).cell? ⟨w.heap.size + 1 + 1 + 1, 0, none⟩ = some (.int .i64 0) := fun u => by rw [World.cell?_setCell_other _ _ _ _ (by simp)]; exact h7
    by_cases hA : 4096 < (xi : Int)
    · have hgo : ∀ l, occ v ((pre ++ [(xi, xx)]) ++ l) = (false, 31) := fun l => by
        rw [List.append_assoc, HH.out.go]; simp only [List.cons_append, occ]; rw [if_pos (by omega)]
      have GO := Lib.hid hgo
      clear hgo h
      gi_wp2
      exact ⟨((KeepsOthers.setCell _ _ _).from _).trans ((KeepsOthers.setCell _ _ _).from _), rfl, ⟨false, 31, GO.out, by rw [World.cell?_setCell_other _ _ _ _ (by simp)]; exact World.cell?_setCell_same _ _ _ h6, World.cell?_setCell_same _ _ _ (d1 _)⟩, by simpa using hsz, (HH.out.B.setCell (p := ⟨w.heap.size + 1 + 1, 0, none⟩) (by simp; omega) _).setCell (p := ⟨w.heap.size + 1 + 1 + 1, 0, none⟩) (by simp; omega) _⟩
    · have hN : ¬ 4096 < xi := by omega
      by_cases hk : (xx.k == 1) = true
      · by_cases hn : (xx.n == v) = true
        · have hgo : ∀ l, occ v ((pre ++ [(xi, xx)]) ++ l) = (true, 0) := fun l => by
            rw [List.append_assoc, HH.out.go]; simp only [List.cons_append, occ]; rw [if_neg hN, if_pos (by simp [hk, hn])]
          have GO := Lib.hid hgo
          clear hgo h
          gi_wp2
          exact ⟨((KeepsOthers.setCell _ _ _).from _).trans ((KeepsOthers.setCell _ _ _).from _), rfl, ⟨true, 0, GO.out, by rw [World.cell?_setCell_other _ _ _ _ (by simp)]; exact World.cell?_setCell_same _ _ _ h6, World.cell?_setCell_same _ _ _ (d1 _)⟩, by simpa using hsz, (HH.out.B.setCell (p := ⟨w.heap.size + 1 + 1, 0, none⟩) (by simp; omega) _).setCell (p := ⟨w.heap.size + 1 + 1 + 1, 0, none⟩) (by simp; omega) _⟩
        · rw [Bool.not_eq_true] at hn
          have hgo : ∀ l, occ v ((pre ++ [(xi, xx)]) ++ l) = occ v l := fun l => by
            rw [List.append_assoc, HH.out.go]; exact occ_go hN (by simp [hn])
          have GO := Lib.hid hgo
          clear hgo h
          gi_wp2
          exact ⟨KeepsFrom.refl _ _, ⟨Nat.le_refl _, fun _ _ _ hm => ⟨rfl, hm⟩, fun h => h⟩, HH.out.of GO.out (fun _ _ => rfl) (Nat.le_refl _) HH.out.B⟩
      · rw [Bool.not_eq_true] at hk
        have hgo : ∀ l, occ v ((pre ++ [(xi, xx)]) ++ l) = occ v l := fun l => by
          rw [List.append_assoc, HH.out.go]; exact occ_go hN (by simp [hk])
        have GO := Lib.hid hgo
        clear hgo h
        gi_wp2
        exact ⟨KeepsFrom.refl _ _, ⟨Nat.le_refl _, fun _ _ _ hm => ⟨rfl, hm⟩, fun h => h⟩, HH.out.of GO.out (fun _ _ => rfl) (Nat.le_refl _) HH.out.B⟩
  case done =>
    rintro D xs W hD hxs h hdef
    have hocc : occ v (num 0 (vis σ 4097 [t])) = (false, 0) := by
      have := h.go []
      rw [List.append_nil, hxs, HALL.out] at this
      exact this
    have OC := Lib.hid hocc
    have h6 := h.c6
    have g6 := h.f6
    have h7 := h.c7
    have g7 := h.f7
    have hsz := h.sz
    have HH := Lib.hid h
    have d1 : ∀ u : Value, (W.setCell ⟨w.heap.size + 1 + 1, 0, none⟩ u).cell? ⟨w.heap.size + 1 + 1 + 1, 0, none⟩ = some (.int .i64 0) := fun u => by rw [World.cell?_setCell_other _ _ _ _ (by simp)]; exact h7
    clear hocc h hxs
    gi_wp2
    have hdef' : ((W.setCell ⟨w.heap.size + 1 + 1, 0, none⟩ (.bool false)).setCell ⟨w.heap.size + 1 + 1 + 1, 0, none⟩ (.int .i64 0)).heap[D]? = some (.deferred (some [])) := by rw [Below.heap_setCell _ _ _ _ (by simp; omega), Below.heap_setCell _ _ _ _ (by simp; omega)]; exact hdef
    refine ⟨by simp, .inl ⟨_, _, rfl, run_takeDeferred hdef', ?_⟩⟩
    have k6 : (((W.setCell ⟨w.heap.size + 1 + 1, 0, none⟩ (.bool false)).setCell ⟨w.heap.size + 1 + 1 + 1, 0, none⟩ (.int .i64 0)).putObj D (.deferred none)).cell? ⟨w.heap.size + 1 + 1, 0, none⟩ = some (.bool false) :=
      cell_kept (by rw [World.cell?_setCell_other _ _ _ _ (by simp)]; exact World.cell?_setCell_same _ _ _ h6) (grownBy_putObj' _ D _) (fun r e => by cases e; exact ⟨_, hdef', rfl⟩)
    have k7 : (((W.setCell ⟨w.heap.size + 1 + 1, 0, none⟩ (.bool false)).setCell ⟨w.heap.size + 1 + 1 + 1, 0, none⟩ (.int .i64 0)).putObj D (.deferred none)).cell? ⟨w.heap.size + 1 + 1 + 1, 0, none⟩ = some (.int .i64 0) :=
      cell_kept (World.cell?_setCell_same _ _ _ (d1 _)) (grownBy_putObj' _ D _) (fun r e => by cases e; exact ⟨_, hdef', rfl⟩)
    refine ⟨.tuple #[.bool false, .int .i64 0], by simp [results, Tryz.results68, go_sem, k6, k7], by rw [OC.out], ((HH.out.B.setCell (p := ⟨w.heap.size + 1 + 1, 0, none⟩) (by simp; omega) _).setCell (p := ⟨w.heap.size + 1 + 1 + 1, 0, none⟩) (by simp; omega) _).grown (grownBy_putObj' _ D _) (by simp; omega) (fun r e => by cases e; omega)⟩
  case stop =>
    rintro D c pre W hD hpre ⟨rfl, h⟩ hdef
    obtain ⟨b, e, hgo, h6, h7⟩ := h.go
    have hocc : occ v (num 0 (vis σ 4097 [t])) = (b, e) := by
      rw [← HALL.out]
      obtain ⟨tl, htl⟩ := hpre
      rw [← htl]; exact hgo tl
    have OC := Lib.hid hocc
    have HH := Lib.hid h
    have hsz := h.sz
    clear hocc hpre hgo h
    gi_wp2
    refine ⟨by simp, .inl ⟨_, _, rfl, run_takeDeferred hdef, ?_⟩⟩
    have k6 : (W.putObj D (.deferred none)).cell? ⟨w.heap.size + 1 + 1, 0, none⟩ = some (.bool b) := cell_kept h6 (grownBy_putObj' _ D _) (fun r e => by cases e; exact ⟨_, hdef, rfl⟩)
    have k7 : (W.putObj D (.deferred none)).cell? ⟨w.heap.size + 1 + 1 + 1, 0, none⟩ = some (.int .i64 e) := cell_kept h7 (grownBy_putObj' _ D _) (fun r e => by cases e; exact ⟨_, hdef, rfl⟩)
    refine ⟨.tuple #[.bool b, .int .i64 e], by simp [results, Tryz.results68, go_sem, k6, k7], by rw [OC.out], HH.out.B.grown (grownBy_putObj' _ D _) (by omega) (fun r e => by cases e; omega)⟩

end Go.Proofs.YtnmhnaanpjlniaaGreat
