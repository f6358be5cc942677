import Derived.Test.YtnmhnaanpjlniaaAl
/-
  Layer 3: Apply; new ones; clones; how many are bound.
-/
namespace Go.Proofs.Ytnmhnaanpjlniaa
open Go.RowKit
attribute [local go_sem] Oper.semAt_some

theorem num_at : ∀ (pre : List (Nat × Nd)) (i : Nat) (l : List Nd) (a : Nat) (x : Nd), pre ++ [(a, x)] <+: num i l → a = i + pre.length + 1 ∧ pre.length < l.length
  | [], i, [], a, x, h => by obtain ⟨t, h⟩ := h; cases h
  | [], i, y :: l, a, x, h => by
    obtain ⟨t, h⟩ := h
    simp only [num, List.nil_append, List.cons_append] at h
    injection h with h1 h2
    injection h1 with h3 h4
    exact ⟨by simp; omega, by simp⟩
  | b :: pre, i, [], a, x, h => by obtain ⟨t, h⟩ := h; cases h
  | b :: pre, i, y :: l, a, x, h => by
    obtain ⟨t, h⟩ := h
    simp only [num, List.cons_append] at h
    injection h with h1 h2
    obtain ⟨h3, h4⟩ := num_at pre (i + 1) l a x ⟨t, by rw [← h2]⟩
    exact ⟨by simp; omega, by simp; omega⟩

/-- what stands between two rounds -/
structure AppIn (w : World) (pre : List (Nat × Nd)) (W : World) : Prop where
  len : pre.length ≤ 4096
  rt : BoxIs (w.heap.size + 1) ⟨0, ⟨#[]⟩, 0, none, 0, .nil⟩ W
  c5 : W.cell? ⟨w.heap.size + 1 + 1, 0, none⟩ = some (.int .i64 0)
  f5 : W.frozen? ⟨w.heap.size + 1 + 1, 0, none⟩ = false
  c6 : W.cell? ⟨w.heap.size + 1 + 1 + 1, 0, none⟩ = some (.int .i64 (pre.length : Nat))
  f6 : W.frozen? ⟨w.heap.size + 1 + 1 + 1, 0, none⟩ = false
  sz : w.heap.size + 6 ≤ W.heap.size
  B : Below w.heap.size w W

theorem AppIn.of {w : World} {pre pre' : List (Nat × Nd)} {W W' : World} (h : AppIn w pre W) (hl : pre'.length ≤ 4096) (hb : ∀ b, b < w.heap.size + 6 → b ≠ w.heap.size + 1 + 1 + 1 → W'.heap[b]? = W.heap[b]?) (h6 : W'.cell? ⟨w.heap.size + 1 + 1 + 1, 0, none⟩ = some (.int .i64 (pre'.length : Nat))) (g6 : W'.frozen? ⟨w.heap.size + 1 + 1 + 1, 0, none⟩ = false) (hs : W.heap.size ≤ W'.heap.size) (hB : Below w.heap.size w W') : AppIn w pre' W' :=
  ⟨hl, h.rt.of_block (hb _ (by omega) (by omega)), (World.cell?_of_block (a := ⟨w.heap.size + 1 + 1, 0, none⟩) (hb (w.heap.size + 1 + 1) (by omega) (by omega))).trans h.c5, (World.frozen?_of_block (a := ⟨w.heap.size + 1 + 1, 0, none⟩) (hb (w.heap.size + 1 + 1) (by omega) (by omega))).trans h.f5, h6, g6, Nat.le_trans h.sz hs, hB⟩

/-- what stands when it has been left -/
structure AppEx (σ : Sb) (t : Nd) (w : World) (W : World) : Prop where
  full : (vis σ 4097 [t]).length = 4097
  rt : BoxIs (w.heap.size + 1) ⟨0, ⟨#[]⟩, 0, none, 0, .nil⟩ W
  c5 : W.cell? ⟨w.heap.size + 1 + 1, 0, none⟩ = some (.int .i64 31)
  sz : w.heap.size + 6 ≤ W.heap.size
  B : Below w.heap.size w W

/-- what a call of Apply leaves -/
def Applied (σ : Sb) (t : Nd) (B : Nat) (e : Ending) (w' : World) : Prop :=
  ((vis σ 4097 [t]).length = 4097 ∧ e = .returned (.tuple #[tv 0 ⟨#[]⟩ 0 none 0 0, .int .i64 31])) ∨
  ((vis σ 4097 [t]).length ≤ 4096 ∧ ∃ us q, e = .returned (.tuple #[tv (wk σ t).k (wk σ t).s (wk σ t).n q us.len us.len, .int .i64 0]) ∧ Ts.AtB B w' q us ∧ App σ (elems (wk σ t).kids) us ∧ us.ok ∧ (q = none → us.len = 0))

set_option maxRecDepth 100000 in
set_option maxHeartbeats 4000000 in
theorem apply_any (S : Nat) (σ : Sb) (m : Nat) (w : World) (hS : SubAt S σ m w) (t : Nd) (hok : t.ok) (hat : Ts.At w t.p t.kids) (hsz : t.kids.size ≤ 5000) :
    Calls Try.prog 13 #[.pointer (some ⟨S, 0, none⟩), .agg #[.int .u8 t.k, .string t.s, .int .i64 t.n, .slice t.p t.kids.len t.c]] w fun e w' => Applied σ t w.heap.size e w' ∧ Below w.heap.size w w' := by
  refine (callsIn_wide (n := 8)).1 ?_
  refine callsIn_of_wp_marks Try.func13 rfl trivial ?_ rfl
  simp only [Try.ntmps13, List.size_toArray, List.length_cons, List.length_nil, Nat.reduceAdd, Nat.reduceSub, Array.replicate_succ, Array.replicate_zero, List.push_toArray, List.append_toArray, List.nil_append, List.cons_append]
  gi_wp2_with (refine ⟨trivial, ?_⟩; gi_at_call 52; refine (visits_any _ _ trivial rfl _ _ _ _ _ _ _ _ rfl _ rfl _).mono ?_; rintro e w' ⟨rfl, rfl⟩)
  obtain ⟨W0, hW0, hs0, hB0, hc0, hc2, hc3, hc4, hc5, hf, hc1⟩ := box6 w #[.int .u8 t.k, .string t.s, .int .i64 t.n, .slice t.p t.kids.len t.c] #[.int .u8 0, .string ⟨#[]⟩, .int .i64 0, .slice none 0 0] #[.int .i64 0] #[.int .i64 0] #[.pointer (some ⟨S, 0, none⟩)] #[.int .u8 t.k, .string t.s, .int .i64 t.n, .slice t.p t.kids.len t.c] 25 25 31 3 28 25
  rw [← hW0]
  have Z := Lib.hid hW0
  clear hW0
  have hseq := visits_seq S σ m w hS t hok hat hsz (fun x => x = w.heap.size + 1 + 1 + 1) (w.heap.size + 1 + 1 + 1 + 1 + 1) (w.heap.size + 1 + 1 + 1 + 1) W0 hB0 (fun b h => ⟨by omega, by omega⟩) ⟨hc5 0 _ rfl, hc5 1 _ rfl, hc5 2 _ rfl, hc5 3 _ rfl, fun i => hf _ i (by omega) (by omega)⟩ (hc4 0 _ rfl) (by omega) (by omega)
  have hX0 : BoxIs w.heap.size t W0 := ⟨hc0 0 _ rfl, hc0 1 _ rfl, hc0 2 _ rfl, hc0 3 _ rfl, fun i => hf _ i (by omega) (by omega)⟩
  have st : AppIn w [] W0 := ⟨by simp, ⟨hc1 0 _ rfl, hc1 1 _ rfl, hc1 2 _ rfl, hc1 3 _ rfl, fun i => hf _ i (by omega) (by omega)⟩, hc2 0 _ rfl, hf _ 0 (by omega) (by omega), hc3 0 _ rfl, hf _ 0 (by omega) (by omega), by omega, hB0⟩
  have hvl := vis_length σ 4097 [t]
  have XX := Lib.hid hX0
  have HS := Lib.hid hS
  have OK := Lib.hid hok
  have AT := Lib.hid hat
  have B0 := Lib.hid hB0
  clear hc0 hc1 hc2 hc3 hc4 hc5 hf hS hok hat hX0
  refine range_law rfl (by omega) (gf := 84) (lb := #[.pointer (some ⟨w.heap.size + 1 + 1 + 1 + 1 + 1, 0, none⟩), .pointer (some ⟨w.heap.size + 1 + 1 + 1 + 1, 0, none⟩)]) rfl trivial (enters_of Try.func84 (by kernel_rfl) rfl) hseq
    (fun W W' row k' hg hr h => h) (fun k' hk' h => by omega) (Below.refl _ _) (fun _ => rfl)
    (fun pre W => AppIn w pre W ∧ BoxIs w.heap.size t W)
    (fun c pre W => c = .ret ∧ AppEx σ t w W) ?hI ?hIx ⟨st, XX.out⟩
    (fun x W a' => a' = { tmps := #[.pointer (some ⟨S, 0, none⟩), .agg #[.int .u8 t.k, .string t.s, .int .i64 t.n, .slice t.p t.kids.len t.c], undef, .pointer (some ⟨w.heap.size, 0, none⟩), .pointer (some ⟨w.heap.size + 1, 0, none⟩), .pointer (some ⟨w.heap.size + 1 + 1, 0, none⟩), .pointer (some ⟨w.heap.size + 1 + 1 + 1, 0, none⟩), .int .i64 (x.1 : Nat), undef, .pointer (some ⟨S, 0, none⟩), .bool false, undef, .pointer (some ⟨S, 0, none⟩), .agg #[.int .u8 t.k, .string t.s, .int .i64 t.n, .slice t.p t.kids.len t.c], .func (.func 84) #[] #[.pointer (some ⟨w.heap.size + 1 + 1 + 1 + 1 + 1, 0, none⟩), .pointer (some ⟨w.heap.size + 1 + 1 + 1 + 1, 0, none⟩)], .int .i64 (x.1 : Nat), x.2.val, undef, undef, undef, undef, undef, undef, undef, undef, undef], defers := [] })
    ?assign (fun _ _ _ _ _ h _ _ => h) ?body ?done ?stop
  case hI =>
    rintro pre W W' row ⟨h, hx⟩ hg hr
    have hsz := h.sz
    have hb := fun b (hb : b < w.heap.size + 6) => hg.block b (by omega) (fun e => by have := (hr _ e.symm).1; omega)
    exact ⟨h.of h.len (fun b h1 _ => hb b h1) ((World.cell?_of_block (a := ⟨w.heap.size + 1 + 1 + 1, 0, none⟩) (hb (w.heap.size + 1 + 1 + 1) (by omega))).trans h.c6) ((World.frozen?_of_block (a := ⟨w.heap.size + 1 + 1 + 1, 0, none⟩) (hb (w.heap.size + 1 + 1 + 1) (by omega))).trans h.f6) hg.size (h.B.grown hg (by omega) (fun r e => by have := (hr r e).1; omega)), hx.of_block (hb _ (by omega))⟩
  case hIx =>
    rintro c pre W W' row ⟨rfl, h⟩ hg hr
    have hsz := h.sz
    have hb := fun b (hb : b < w.heap.size + 6) => hg.block b (by omega) (fun e => by have := (hr _ e.symm).1; omega)
    exact ⟨rfl, h.full, h.rt.of_block (hb _ (by omega)), (World.cell?_of_block (a := ⟨w.heap.size + 1 + 1, 0, none⟩) (hb (w.heap.size + 1 + 1) (by omega))).trans h.c5, Nat.le_trans h.sz hg.size, h.B.grown hg (by omega) (fun r e => by have := (hr r e).1; omega)⟩
  case assign =>
    rintro l pre x W K ⟨h, hx⟩ hK
    obtain ⟨xi, xk, xs, xn, xp, xc, xt⟩ := x
    simp only [Nd.val] at hK ⊢
    gi_wp2
    exact hK _ _ rfl (KeepsFrom.refl _ _) ⟨Nat.le_refl _, fun k' _ _ hm => ⟨rfl, hm⟩, fun h => h⟩ ⟨h, hx⟩
  case body =>
    rintro l pre x a' W ⟨h, hx⟩ rfl hp
    obtain ⟨xi, xx⟩ := x
    obtain ⟨hi, hil⟩ := num_at _ _ _ _ _ hp
    simp only at hi ⊢
    have y0 := h.rt.c0
    have y1 := h.rt.c1
    have y2 := h.rt.c2
    have y3 := h.rt.c3
    have yf := h.rt.fr
    have h5 := h.c5
    have g5 := h.f5
    have h6 := h.c6
    have g6 := h.f6
    have hsz := h.sz
    have hpl := h.len
    have HH := Lib.hid h
    have HX := Lib.hid hx
    have HI := Lib.hid hi
    have d1 : ∀ u0 u1 u2 u3 : Value, ((((W.setCell ⟨w.heap.size + 1, 0, none⟩ u0).setCell ⟨w.heap.size + 1, 1, none⟩ u1).setCell ⟨w.heap.size + 1, 2, none⟩ u2).setCell ⟨w.heap.size + 1, 3, none⟩ u3).cell? ⟨w.heap.size + 1 + 1, 0, none⟩ = some (.int .i64 0) := fun u0 u1 u2 u3 => by
      rw [World.cell?_setCell_other _ _ _ _ (by simp), World.cell?_setCell_other _ _ _ _ (by simp), World.cell?_setCell_other _ _ _ _ (by simp), World.cell?_setCell_other _ _ _ _ (by simp)]
      exact h5
    clear hi h hx hp
    by_cases hA : 4096 < (xi : Int)
    · gi_wp2
      have hY := HH.out.rt.put (y := ⟨0, ⟨#[]⟩, 0, none, 0, .nil⟩)
      have hi := HI.out
      refine ⟨?_, rfl, by omega, ?_, ?_, by simpa using hsz, ?_⟩
      · exact ((((((KeepsOthers.setCell _ _ _).from _).trans ((KeepsOthers.setCell _ _ _).from _)).trans ((KeepsOthers.setCell _ _ _).from _)).trans ((KeepsOthers.setCell _ _ _).from _)).trans ((KeepsOthers.setCell _ _ _).from _))
      · exact hY.of_block (Below.heap_setCell _ _ _ _ (by simp))
      · exact World.cell?_setCell_same _ _ _ (d1 _ _ _ _)
      · exact (below_put4 HH.out.B (Nat.le_succ _) _ _ _ _).setCell (p := ⟨w.heap.size + 1 + 1, 0, none⟩) (by simp; omega) _
    · gi_wp2
      have hi := HI.out
      refine ⟨(KeepsOthers.setCell _ _ _).from _, ⟨by simp, fun k' _ hlt hm => ⟨Below.heap_setCell _ _ _ _ hm, hm⟩, fun h k' hk' => h k' (by simpa using hk')⟩, HH.out.of (by simp; omega) (fun b _ h2 => Below.heap_setCell _ _ _ _ h2) ?_ (by rw [World.frozen?_setCell]; exact g6) (by simp) (HH.out.B.setCell (p := ⟨w.heap.size + 1 + 1 + 1, 0, none⟩) (by simp; omega) _), HX.out.of_block (Below.heap_setCell _ _ _ _ (by simp; omega))⟩
      rw [World.cell?_setCell_same _ _ _ h6]
      simp; omega
  case done =>
    rintro D xs W hD hxs ⟨h, hx⟩ hdef
    obtain ⟨n, hn⟩ : ∃ n, n = (vis σ 4097 [t]).length := ⟨_, rfl⟩
    have hxl : xs.length = n := by rw [hxs, num_length, hn]
    have hn4 : n ≤ 4096 := by rw [← hxl]; exact h.len
    have h6 := h.c6
    rw [hxl] at h6
    have hcn : Cnt σ [t] n := by rw [hn]; exact vis_cnt _ _ (by omega)
    obtain ⟨a, hca, han⟩ : ∃ a, Cnt σ (elems (wk σ t).kids) a ∧ n = a + 1 := by
      cases hcn with
      | cons h1 h2 => cases h2; exact ⟨_, h1, by omega⟩
    have hmk := make_terms n (by omega)
    have g6 := h.f6
    have x0 := hx.c0
    have x1 := hx.c1
    have x2 := hx.c2
    have x3 := hx.c3
    have hsz' := h.sz
    have HH := Lib.hid h
    have HX := Lib.hid hx
    have HN := Lib.hid hn
    have CA := Lib.hid hca
    have HA := Lib.hid han
    have HD := Lib.hid hdef
    clear hn hxl hcn hca han h hx hxs hdef
    have hlt : w.heap.size < W.heap.size := by omega
    gi_wp2_with fail
    have W8E : ∃ W8, W8 = (W.alloc (.cells (zeroCells n) 25)).alloc (.cells #[.slice (some ⟨W.heap.size, 0, none⟩) n n] 23) ∧ W8.heap.size = W.heap.size + 2 ∧ Below W.heap.size W W8 ∧ Room (W.heap.size + 1) W.heap.size 0 n W8 := by
      obtain ⟨V, hV, sV, bV, cV, fV⟩ := alloc_new W (zeroCells n) 25
      obtain ⟨U, hU, sU, bU, cU, fU⟩ := alloc_new V #[.slice (some ⟨W.heap.size, 0, none⟩) n n] 23
      rw [sV] at cU fU
      refine ⟨U, by rw [hU, hV], by omega, bV.trans (bU.mono (by omega)), ⟨0, cU 0 _ rfl, .inr rfl⟩, fU 0, fun y _ hy => ?_, fun y _ _ => ((stays bU).2 _ _ (by omega)).trans (fV y)⟩
      rw [(stays bU).1 _ _ (by omega), cV y _ (Array.getElem?_eq_getElem (by rw [size_zeroCells]; omega))]
      rfl
    obtain ⟨W8, hW8, hs8, hB8, hR8⟩ := W8E
    rw [← hW8]
    have Z8 := Lib.hid hW8
    have B8 := Lib.hid hB8
    have R8 := Lib.hid hR8
    clear hW8 hB8 hR8 x0 x1 x2 x3 h6 g6 hmk
    refine ⟨trivial, ?_⟩
    refine ((callsIn_wide (n := 7)).2 (applied_any S σ m w HS.out (RM := W.heap.size + 1) (RB := W.heap.size) (by omega) (by omega) (by omega) a t CA.out (by have := HA.out; omega) OK.out AT.out hsz W8 0 n (HH.out.B.trans (B8.out.mono (by omega))) (by omega) (by have := HA.out; omega) (by omega) R8.out)).mono ?_
    rintro e w9 ⟨us, q, rfl, hat9, happ, hok9, hq9, -, kp9, -, -⟩
    unfold tv
    have hb9 : ∀ b, b < W.heap.size → w9.heap[b]? = W.heap[b]? := fun b hb => (kp9.old b (by omega) (by omega) (by omega) (fun h => h)).trans (B8.out.block b hb)
    have hRT := HH.out.rt.of_block (hb9 _ (by omega))
    have h5 := (World.cell?_of_block (a := ⟨w.heap.size + 1 + 1, 0, none⟩) (hb9 (w.heap.size + 1 + 1) (by omega))).trans HH.out.c5
    have g5 := (World.frozen?_of_block (a := ⟨w.heap.size + 1 + 1, 0, none⟩) (hb9 (w.heap.size + 1 + 1) (by omega))).trans HH.out.f5
    have hDl := (Array.getElem?_eq_some_iff.1 HD.out).1
    have hD9 := (hb9 D hDl).trans HD.out
    have hB9 : Below w.heap.size w w9 := (HH.out.B.trans (B8.out.mono (by omega))).trans kp9.B
    have hs9 : W8.heap.size ≤ w9.heap.size := kp9.size
    have y0 := hRT.c0
    have y1 := hRT.c1
    have y2 := hRT.c2
    have y3 := hRT.c3
    have yf := hRT.fr
    have d1 : ∀ u0 u1 u2 u3 : Value, ((((w9.setCell ⟨w.heap.size + 1, 0, none⟩ u0).setCell ⟨w.heap.size + 1, 1, none⟩ u1).setCell ⟨w.heap.size + 1, 2, none⟩ u2).setCell ⟨w.heap.size + 1, 3, none⟩ u3).cell? ⟨w.heap.size + 1 + 1, 0, none⟩ = some (.int .i64 0) := fun u0 u1 u2 u3 => by
      rw [World.cell?_setCell_other _ _ _ _ (by simp), World.cell?_setCell_other _ _ _ _ (by simp), World.cell?_setCell_other _ _ _ _ (by simp), World.cell?_setCell_other _ _ _ _ (by simp)]
      exact h5
    have RT := Lib.hid hRT
    have A9 := Lib.hid hat9
    have AP := Lib.hid happ
    have O9 := Lib.hid hok9
    have Q9 := Lib.hid hq9
    have D9 := Lib.hid hD9
    have B9 := Lib.hid hB9
    have D1 := Lib.hid d1
    clear hb9 hRT hD9 hB9 hat9 happ hok9 hq9 kp9 d1
    gi_wp2
    have P := RT.out.put (y := ⟨(wk σ t).k, (wk σ t).s, (wk σ t).n, q, us.len, us⟩)
    simp only at P
    have hh : ∀ x, x ≠ w.heap.size + 1 → x ≠ w.heap.size + 1 + 1 → (((((w9.setCell ⟨w.heap.size + 1, 0, none⟩ (.int .u8 (wk σ t).k)).setCell ⟨w.heap.size + 1, 1, none⟩ (.string (wk σ t).s)).setCell ⟨w.heap.size + 1, 2, none⟩ (.int .i64 (wk σ t).n)).setCell ⟨w.heap.size + 1, 3, none⟩ (.slice q us.len us.len)).setCell ⟨w.heap.size + 1 + 1, 0, none⟩ (.int .i64 0)).heap[x]? = w9.heap[x]? := fun x h1 h2 => by
      rw [Below.heap_setCell _ _ _ _ h2, Below.heap_setCell _ _ _ _ h1, Below.heap_setCell _ _ _ _ h1, Below.heap_setCell _ _ _ _ h1, Below.heap_setCell _ _ _ _ h1]
    have hdef' := (hh D (by omega) (by omega)).trans D9.out
    refine ⟨by simp, .inl ⟨_, _, rfl, run_takeDeferred hdef', ?_⟩⟩
    have P2 := P.of_block (Below.heap_setCell _ ⟨w.heap.size + 1 + 1, 0, none⟩ (.int .i64 0) (w.heap.size + 1) (by simp))
    have kk := fun {a : Addr} {v : Value} (hc : (((((w9.setCell ⟨w.heap.size + 1, 0, none⟩ (.int .u8 (wk σ t).k)).setCell ⟨w.heap.size + 1, 1, none⟩ (.string (wk σ t).s)).setCell ⟨w.heap.size + 1, 2, none⟩ (.int .i64 (wk σ t).n)).setCell ⟨w.heap.size + 1, 3, none⟩ (.slice q us.len us.len)).setCell ⟨w.heap.size + 1 + 1, 0, none⟩ (.int .i64 0)).cell? a = some v) => cell_kept (v := v) hc (grownBy_putObj' _ D (.deferred none)) (fun r e => by cases e; exact ⟨_, hdef', rfl⟩)
    have j0 := kk P2.c0
    have j1 := kk P2.c1
    have j2 := kk P2.c2
    have j3 := kk P2.c3
    have j5 := kk (World.cell?_setCell_same _ _ (.int .i64 0) (D1.out _ _ _ _))
    simp only at j0 j1 j2 j3
    have hBf := (below_put4 B9.out (Nat.le_succ _) (.int .u8 (wk σ t).k) (.string (wk σ t).s) (.int .i64 (wk σ t).n) (.slice q us.len us.len)).setCell (p := ⟨w.heap.size + 1 + 1, 0, none⟩) (by simp; omega) (.int .i64 0)
    have hl := HN.out
    refine ⟨.tuple #[tv (wk σ t).k (wk σ t).s (wk σ t).n q us.len us.len, .int .i64 0], by simp [results, Try.results13, go_sem, j0, j1, j2, j3, j5, tv], .inr ⟨by omega, us, q, rfl, ?_, AP.out, O9.out, Q9.out⟩, hBf.grown (grownBy_putObj' _ D _) (by simp; omega) (fun r e => by cases e; omega)⟩
    obtain ⟨b2, o2, hp2, hl2⟩ := A9.out
    refine ⟨b2, o2, hp2, Ts.liesQ_liesB (Q := inR W.heap.size 0 (0 + a * 4)) (fun b y hb => by have := hb.1; omega) us (Ts.liesQ_stay (fun _ _ h => h) (fun b y hb => ?_) us hl2)⟩
    have hbW := hb.1
    refine World.cell?_of_block (a := ⟨b, y, none⟩) (Eq.trans ?_ (hh b (by omega) (by omega)))
    exact (grownBy_putObj' _ D (.deferred none)).block b (by simp; omega) (by simp; omega)
  case stop =>
    rintro D c pre W hD hpre ⟨rfl, h⟩ hdef
    have k0 := h.rt.c0
    have k1 := h.rt.c1
    have k2 := h.rt.c2
    have k3 := h.rt.c3
    have HH := Lib.hid h
    have hsz := h.sz
    clear hpre h
    gi_wp2
    refine ⟨by simp, .inl ⟨_, _, rfl, run_takeDeferred hdef, ?_⟩⟩
    have kk := fun {a : Addr} {v : Value} (hc : W.cell? a = some v) => cell_kept (v := v) hc (grownBy_putObj' W D (.deferred none)) (fun r e => by cases e; exact ⟨_, hdef, rfl⟩)
    have j0 := kk k0
    have j1 := kk k1
    have j2 := kk k2
    have j3 := kk k3
    have j5 := kk HH.out.c5
    refine ⟨.tuple #[tv 0 ⟨#[]⟩ 0 none 0 0, .int .i64 31], by simp only [Ts.len] at j0 j1 j2 j3; simp [results, Try.results13, go_sem, j0, j1, j2, j3, j5, tv], .inl ⟨HH.out.full, rfl⟩, HH.out.B.grown (grownBy_putObj' _ D _) (by omega) (fun r e => by cases e; omega)⟩

theorem new_any (w : World) : Calls Try.prog 29 #[] w fun e w' => e = .returned (.pointer (some ⟨w.heap.size, 0, none⟩)) ∧ SubAt w.heap.size Sb.none 0 w' ∧ Below w.heap.size w w' := by
  go_enter Try.func29, Try.ntmps29
  go_wp2
  go_ret
  refine ⟨rfl, ⟨⟨none, 0, ?_, by omega, NodeAt.none_of (fun _ => rfl) 0, fun v hv => absurd rfl hv⟩, Ends.none, fun v x hx => by cases hx⟩, (Below.refl _ _).alloc (Nat.le_refl _) _⟩
  exact heap_alloc_new w _

set_option maxHeartbeats 1000000 in
theorem len_any (S : Nat) (σ : Sb) (m : Nat) (w : World) (hS : SubAt S σ m w) : Calls Try.prog 30 #[.pointer (some ⟨S, 0, none⟩)] w fun e w' => e = .returned (.int .i64 (m : Nat)) ∧ w' = w := by
  obtain ⟨p, h, hr, -, -, -⟩ := hS.cells
  have hc := (SubAt.cell0 hr).2.2.1
  clear hr hS
  go_enter Try.func30, Try.ntmps30
  go_wp2
  go_ret
  exact ⟨rfl, rfl⟩

set_option maxHeartbeats 1000000 in
theorem sbclone_any (S : Nat) (σ : Sb) (m : Nat) (w : World) (hS : SubAt S σ m w) : Calls Try.prog 97 #[.pointer (some ⟨S, 0, none⟩)] w fun e w' => e = .returned (.pointer (some ⟨w.heap.size, 0, none⟩)) ∧ SubAt w.heap.size σ m w' ∧ Below w.heap.size w w' := by
  obtain ⟨p, h, hr, hh, hN, hd⟩ := hS.cells
  obtain ⟨h0, h1, h2, -⟩ := SubAt.cell0 hr
  have HS := Lib.hid hS
  have NN := Lib.hid hN
  have DD := Lib.hid hd
  clear hr hS hN hd
  go_enter Try.func97, Try.ntmps97
  go_wp2
  go_ret
  have hB : Below w.heap.size w (w.alloc (.cells #[.pointer p, .int .u64 (h : Nat), .int .i64 (m : Nat)] 88)) := (Below.refl _ _).alloc (Nat.le_refl _) _
  exact ⟨rfl, ⟨⟨p, h, heap_alloc_new w _, hh, NN.out.below hB, DD.out⟩, HS.out.ends, fun v x hx => ⟨(HS.out.at_ v x hx).1.below hB, (HS.out.at_ v x hx).2⟩⟩, hB⟩

end Go.Proofs.Ytnmhnaanpjlniaa
