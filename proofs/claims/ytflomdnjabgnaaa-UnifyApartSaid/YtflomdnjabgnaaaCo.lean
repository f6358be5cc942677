import Derived.Test.YtflomdnjabgnaaaCm
import Derived.Test.YtflomdnjabgnaaaAm
/-
  Layer 4: lists of terms, unified.
-/
namespace Go.Proofs.Ytflomdnjabgnaaa
open Go.RowKit

/-- three boxes, one cell each: what is told -/
structure TB (B : Nat) (x0 x1 x2 : Value) (w : World) : Prop where
  b0 : w.heap[B]? = some (.cells #[x0] 27 (0, 0))
  b1 : w.heap[B + 1]? = some (.cells #[x1] 4 (0, 0))
  b2 : w.heap[B + 1 + 1]? = some (.cells #[x2] 28 (0, 0))

/-- all three are written -/
def put3 (w : World) (B : Nat) (y0 y1 y2 : Value) : World := ((w.setCell ⟨B, 0, none⟩ y0).setCell ⟨B + 1, 0, none⟩ y1).setCell ⟨B + 1 + 1, 0, none⟩ y2

section
variable {B : Nat} {x0 x1 x2 y0 y1 y2 : Value} {w w' : World}
theorem TB.of_blocks (h : TB B x0 x1 x2 w) (h0 : w'.heap[B]? = w.heap[B]?) (h1 : w'.heap[B + 1]? = w.heap[B + 1]?) (h2 : w'.heap[B + 1 + 1]? = w.heap[B + 1 + 1]?) : TB B x0 x1 x2 w' := ⟨h0.trans h.b0, h1.trans h.b1, h2.trans h.b2⟩

theorem TB.put3 (h : TB B x0 x1 x2 w) : TB B y0 y1 y2 (put3 w B y0 y1 y2) := by
  have st : ∀ (w : World) (b k : Nat) (v : Value), k ≠ b → (w.setCell ⟨b, 0, none⟩ v).heap[k]? = w.heap[k]? := fun w b k v hk => Below.heap_setCell w ⟨b, 0, none⟩ v k hk
  refine ⟨?_, ?_, ?_⟩
  · unfold Go.Proofs.Ytflomdnjabgnaaa.put3
    rw [st _ _ _ _ (by omega), st _ _ _ _ (by omega)]
    exact one_setCell h.b0
  · unfold Go.Proofs.Ytflomdnjabgnaaa.put3
    rw [st _ _ _ _ (by omega)]
    exact one_setCell ((st _ _ _ _ (by omega)).trans h.b1)
  · exact one_setCell ((st _ _ _ _ (by omega)).trans ((st _ _ _ _ (by omega)).trans h.b2))

theorem below_put1 {b i : Nat} {v : Value} (h : Below w.heap.size w w') (hb : w.heap.size ≤ b) : Below w.heap.size w (w'.setCell ⟨b, i, none⟩ v) :=
  have hg := grown_set w' b i v
  ⟨hg.os.trans h.os, hg.tape.trans h.tape, hg.output.trans h.output, Nat.le_trans h.size hg.size, fun k hk => (hg.block k (Nat.lt_of_lt_of_le hk h.size) (fun e => by cases e; omega)).trans (h.block k hk)⟩

theorem below_put3 (h : Below w.heap.size w w') (hb : w.heap.size ≤ B) : Below w.heap.size w (Go.Proofs.Ytflomdnjabgnaaa.put3 w' B y0 y1 y2) := below_put1 (below_put1 (below_put1 h hb) (by omega)) (by omega)

theorem SubAt.put1 {S b : Nat} {σ : Sb} {n : Nat} {x v : Value} {t : TypeId} (h : SubAt S σ n w) (hb : w.heap[b]? = some (.cells #[x] t (0, 0))) (hne : S ≠ b) : SubAt S σ n (w.setCell ⟨b, 0, none⟩ v) := h.but hb (by simp) hne (grown_set _ _ _ _)

theorem SubAt.put3 {S : Nat} {σ : Sb} {n : Nat} (h : SubAt S σ n w) (hb : TB B x0 x1 x2 w) (hne : S ≠ B ∧ S ≠ B + 1 ∧ S ≠ B + 1 + 1) : SubAt S σ n (Go.Proofs.Ytflomdnjabgnaaa.put3 w B y0 y1 y2) := by
  have st : ∀ (w : World) (b k : Nat) (v : Value), k ≠ b → (w.setCell ⟨b, 0, none⟩ v).heap[k]? = w.heap[k]? := fun w b k v hk => Below.heap_setCell w ⟨b, 0, none⟩ v k hk
  exact ((h.put1 hb.b0 hne.1).put1 ((st _ _ _ _ (by omega)).trans hb.b1) hne.2.1).put1 ((st _ _ _ _ (by omega)).trans ((st _ _ _ _ (by omega)).trans hb.b2)) hne.2.2

theorem AtP_put1 {P : Nat → Prop} {b : Nat} {x v : Value} {t : TypeId} (hb : w.heap[b]? = some (.cells #[x] t (0, 0))) {p : Option Addr} {ts : Ts} (h : Ts.AtP P w p ts) : Ts.AtP P (w.setCell ⟨b, 0, none⟩ v) p ts :=
  have hT : Tiny b w := ⟨_, _, _, hb, by simp⟩
  AtP_g2 (.of_K (grown_set w b 0 v) : G2 b b w _) hT hT h

theorem AtP_put3 {P : Nat → Prop} (hb : TB B x0 x1 x2 w) {p : Option Addr} {ts : Ts} (h : Ts.AtP P w p ts) : Ts.AtP P (Go.Proofs.Ytflomdnjabgnaaa.put3 w B y0 y1 y2) p ts := by
  have st : ∀ (w : World) (b k : Nat) (v : Value), k ≠ b → (w.setCell ⟨b, 0, none⟩ v).heap[k]? = w.heap[k]? := fun w b k v hk => Below.heap_setCell w ⟨b, 0, none⟩ v k hk
  exact AtP_put1 ((st _ _ _ _ (by omega)).trans ((st _ _ _ _ (by omega)).trans hb.b2)) (AtP_put1 ((st _ _ _ _ (by omega)).trans hb.b1) (AtP_put1 hb.b0 h))

theorem TB.new (w : World) : TB w.heap.size (.pointer none) (.bool false) (.int .i64 0) (((w.alloc (.cells #[.pointer none] 27)).alloc (.cells #[.bool false] 4)).alloc (.cells #[.int .i64 0] 28)) := by
  have h1 := heap_alloc_new w (.cells #[.pointer none] 27)
  have h2 := heap_alloc_new (w.alloc (.cells #[.pointer none] 27)) (.cells #[.bool false] 4)
  have h3 := heap_alloc_new ((w.alloc (.cells #[.pointer none] 27)).alloc (.cells #[.bool false] 4)) (.cells #[.int .i64 0] 28)
  have st : ∀ (w : World) (o : Obj) (k : Nat), k < w.heap.size → (w.alloc o).heap[k]? = w.heap[k]? := fun w o k hk => ((Below.refl _ w).alloc (Nat.le_refl _) o).block k hk
  rw [World.size_alloc] at h2
  rw [World.size_alloc, World.size_alloc] at h3
  exact ⟨(st _ _ _ (by rw [World.size_alloc]; rw [World.size_alloc]; omega)).trans ((st _ _ _ (by rw [World.size_alloc]; omega)).trans h1), (st _ _ _ (by rw [World.size_alloc]; rw [World.size_alloc]; omega)).trans h2, h3⟩
end

/-- what Lists tells -/
def LRes (σ : Sb) (n : Nat) (w : World) (L : List (Nd × Nd)) (e : Ending) (w' : World) : Prop :=
  Below w.heap.size w w' ∧ match un 4096 n σ L with
    | .full => e = .returned (.tuple #[.pointer none, .bool false, .int .i64 31])
    | .no => e = .returned (.tuple #[.pointer none, .bool false, .int .i64 0])
    | .ok ρ c _ => ∃ S2 σp, e = .returned (.tuple #[.pointer (some ⟨S2, 0, none⟩), .bool true, .int .i64 0]) ∧ w.heap.size ≤ S2 ∧ STw σp ρ ∧ SubAt S2 σp c w' ∧ ∀ x t, σp x = some t → σ x = some t ∨ Ts.AtP (fun b => w.heap.size ≤ b) w' t.p t.kids

set_option maxRecDepth 100000 in
set_option maxHeartbeats 8000000 in
theorem Lists_any (S : Nat) (σ : Sb) (n : Nat) (w : World) (hS : SubAt S σ n w) (hn : n ≤ 900000) (pa : Option Addr) (ta : Ts) (ca : Nat) (pb : Option Addr) (tb : Ts) (cb : Nat) (hlen : ta.len = tb.len) (ha : EntOk (fun _ => True) ⟨pa, ta, ca⟩ w) (hb : EntOk (fun _ => True) ⟨pb, tb, cb⟩ w) :
    Calls Try.prog 35 #[.pointer (some ⟨S, 0, none⟩), .slice pa ta.len ca, .slice pb tb.len cb] w (LRes σ n w (pairsOf [(⟨pa, ta, ca⟩, ⟨pb, tb, cb⟩)])) := by
  have hmf : ∀ (fn : Fn) (first cap : Array Value) (w : World), (Instr.makeFunc fn first cap).run Try.prog w = .ok (.func fn first cap) w := fun _ _ _ _ => rfl
  have HLEN := Lib.hid hlen
  have HS := Lib.hid hS
  have HA := Lib.hid ha
  have HB := Lib.hid hb
  have hSl := hS.lt
  have hbl : ta.len ≤ 9223372036854775807 := Nat.le_trans ha.cap.1 ha.cap.2
  have hal : ((ta.len : Int) != (ta.len : Int)) = false := by simp
  rw [← hlen]
  clear hlen hS ha hb
  go_enter_defers Try.func35, Try.ntmps35
  go_wp2_with fail
  obtain ⟨W0, hW0⟩ : ∃ W0, W0 = ((w.alloc (.cells #[.pointer none] 27)).alloc (.cells #[.bool false] 4)).alloc (.cells #[.int .i64 0] 28) := ⟨_, rfl⟩
  have hT0 : TB w.heap.size (.pointer none) (.bool false) (.int .i64 0) W0 := by rw [hW0]; exact TB.new w
  have hB0 : Below w.heap.size w W0 := by rw [hW0]; exact (((Below.refl _ _).alloc (Nat.le_refl _) _).alloc (by simp) _).alloc (by simp; omega) _
  have hs0 : W0.heap.size = w.heap.size + 3 := by rw [hW0]; simp
  rw [← hW0]
  refine (sbclone_any S σ n W0 (HS.out.below hB0)).mono ?_
  rintro e wa ⟨rfl, hS2, hBa⟩
  obtain ⟨W1, hW1⟩ : ∃ W1, W1 = wa.alloc (.cells #[.pointer (some ⟨W0.heap.size, 0, none⟩), .int .i64 0] 97) := ⟨_, rfl⟩
  have hB1 : Below wa.heap.size wa W1 := by rw [hW1]; exact (Below.refl _ _).alloc (Nat.le_refl _) _
  have hs01 := hS2.lt
  obtain ⟨KB, hKB⟩ : ∃ KB, KB = wa.heap.size := ⟨_, rfl⟩
  obtain ⟨S2, hS2e⟩ : ∃ S2, S2 = W0.heap.size := ⟨_, rfl⟩
  have UU : Hid (UAt KB S2 σ n 0 W1) := Lib.hid (by
    rw [hKB, hS2e]
    exact ⟨by rw [hW1]; exact heap_alloc_new _ _, hS2.below hB1, by omega⟩)
  have hB01 : Below W0.heap.size W0 W1 := hBa.trans (hB1.mono hBa.size)
  have T1 := Lib.hid (hT0.of_blocks (hB01.block _ (by omega)) (hB01.block _ (by omega)) (hB01.block _ (by omega)))
  have B1 := Lib.hid (hB0.trans (hB01.mono hB0.size))
  have hK1 : w.heap.size + 3 ≤ KB ∧ w.heap.size + 3 ≤ S2 := by omega
  have Z1 := Lib.hid hW1
  have ZK := Lib.hid hKB
  have ZS := Lib.hid hS2e
  clear hW0 hT0 hB0 hs0 hBa hW1 hB1 hs01 hKB hS2e hB01 hS2
  go_upto_region 7 with fail
  rw [← ZS.out] at Z1 ⊢
  rw [← Z1.out, ← ZK.out]
  go_wp2_with fail
  refine (by have h := lists_any KB S2 σ n 0 W1 UU.out (by omega) hn pa ta ca pb tb cb HLEN.out (HA.out.imp (fun b _ hb => B1.out.block b hb) (fun _ h _ => h)) (HB.out.imp (fun b _ hb => B1.out.block b hb) (fun _ h _ => h)); rw [← HLEN.out] at h; exact h : Calls Try.prog 69 #[.pointer (some ⟨KB, 0, none⟩), .slice pa ta.len ca, .slice pb ta.len cb] W1 _).mono ?_
  intro e wb hU
  have HU := Lib.hid hU
  clear hU
  have hG := HU.out.1
  have T2 := Lib.hid (T1.out.of_blocks (hG.block _ (lt_of_block T1.out.b0) (by omega) (by omega)) (hG.block _ (lt_of_block T1.out.b1) (by omega) (by omega)) (hG.block _ (lt_of_block T1.out.b2) (by omega) (by omega)))
  have B2 := Lib.hid (hG.below B1.out B1.out.size (by omega) (by omega))
  have hU2 := HU.out.2
  rw [Nat.sub_zero] at hU2
  have g0 := cell_of_one T2.out.b0
  have g1 := cell_of_one T2.out.b1
  have g2 := cell_of_one T2.out.b2
  have k0 := free_of_one T2.out.b0
  have k1 := free_of_one T2.out.b1
  have k2 := free_of_one T2.out.b2
  have T3 := fun y0 y1 y2 => T2.out.put3 (y0 := y0) (y1 := y1) (y2 := y2)
  clear hG
  cases hE : un 4096 n σ (pairsOf [(⟨pa, ta, ca⟩, ⟨pb, tb, cb⟩)]) with
  | full =>
    rw [hE] at hU2
    subst hU2
    have LR : Hid (LRes σ n w (pairsOf [(⟨pa, ta, ca⟩, ⟨pb, tb, cb⟩)]) (.returned (.tuple #[.pointer none, .bool false, .int .i64 31])) (put3 wb w.heap.size (.pointer none) (.bool false) (.int .i64 31))) := Lib.hid ⟨below_put3 B2.out (Nat.le_refl _), by rw [hE]⟩
    have T4 := T3 (.pointer none) (.bool false) (.int .i64 31)
    have q0 := cell_of_one T4.b0
    have q1 := cell_of_one T4.b1
    have q2 := cell_of_one T4.b2
    clear hE HU T3 T4
    go_wp2_with fail
    refine leaves_cons (f := 68) (args := #[.pointer (some ⟨w.heap.size, 0, none⟩), .pointer (some ⟨w.heap.size + 1, 0, none⟩), .pointer (some ⟨w.heap.size + 1 + 1, 0, none⟩)]) (by simp) (by simp [go_sem]) ?_
    refine (caught_full w.heap.size (w.heap.size + 1) (w.heap.size + 1 + 1) _ _ _ wb g0 g1 g2 k0 k1 k2 (by omega) (by omega) (by omega)).mono ?_
    rintro e u' w'' ⟨rfl, rfl, rfl⟩
    change Leaves _ _ _ _ [] .returning (put3 wb w.heap.size (.pointer none) (.bool false) (.int .i64 31))
    refine ⟨.tuple #[.pointer none, .bool false, .int .i64 31], ?_, LR.out⟩
    simp [results, Try.results35, go_sem, q0, q1, q2]
  | no =>
    rw [hE] at hU2
    subst hU2
    have LR : Hid (LRes σ n w (pairsOf [(⟨pa, ta, ca⟩, ⟨pb, tb, cb⟩)]) (.returned (.tuple #[.pointer none, .bool false, .int .i64 0])) (put3 wb w.heap.size (.pointer none) (.bool false) (.int .i64 0))) := Lib.hid ⟨below_put3 B2.out (Nat.le_refl _), by rw [hE]⟩
    have T4 := T3 (.pointer none) (.bool false) (.int .i64 0)
    have q0 := cell_of_one T4.b0
    have q1 := cell_of_one T4.b1
    have q2 := cell_of_one T4.b2
    clear hE HU T3 T4
    go_wp2_with fail
    refine leaves_cons (f := 68) (args := #[.pointer (some ⟨w.heap.size, 0, none⟩), .pointer (some ⟨w.heap.size + 1, 0, none⟩), .pointer (some ⟨w.heap.size + 1 + 1, 0, none⟩)]) (by simp) (by simp [go_sem]) ?_
    refine (caught_idle w.heap.size (w.heap.size + 1) (w.heap.size + 1 + 1) _).mono ?_
    rintro e u' w'' ⟨rfl, rfl, rfl⟩
    change Leaves _ _ _ _ [] .returning (put3 wb w.heap.size (.pointer none) (.bool false) (.int .i64 0))
    refine ⟨.tuple #[.pointer none, .bool false, .int .i64 0], ?_, LR.out⟩
    simp [results, Try.results35, go_sem, q0, q1, q2]
  | ok ρ c r =>
    rw [hE] at hU2
    obtain ⟨rfl, σp, m2, hr2, hm2, hST, hUA, hold⟩ := hU2
    have z0 := hUA.c0
    have hKw := hUA.lt
    have hSS := hUA.sub.put3 T2.out (y0 := .pointer (some ⟨S2, 0, none⟩)) (y1 := .bool true) (y2 := .int .i64 0) ⟨by omega, by omega, by omega⟩
    have LR : Hid (LRes σ n w (pairsOf [(⟨pa, ta, ca⟩, ⟨pb, tb, cb⟩)]) (.returned (.tuple #[.pointer (some ⟨S2, 0, none⟩), .bool true, .int .i64 0])) (put3 wb w.heap.size (.pointer (some ⟨S2, 0, none⟩)) (.bool true) (.int .i64 0))) := Lib.hid ⟨below_put3 B2.out (Nat.le_refl _), by
      rw [hE]
      refine ⟨S2, σp, rfl, by omega, hST, hSS, fun x t hx => ?_⟩
      rcases hold x t hx with h | h
      · exact .inl h
      · exact .inr (AtP_put3 T2.out (AtP_imp (fun b _ hb => Nat.le_trans B1.out.size hb) h))⟩
    have T4 := T3 (.pointer (some ⟨S2, 0, none⟩)) (.bool true) (.int .i64 0)
    have q0 := cell_of_one T4.b0
    have q1 := cell_of_one T4.b1
    have q2 := cell_of_one T4.b2
    clear hE HU T3 T4 hST hUA hold hSS hr2
    go_wp2_with fail
    refine leaves_cons (f := 68) (args := #[.pointer (some ⟨w.heap.size, 0, none⟩), .pointer (some ⟨w.heap.size + 1, 0, none⟩), .pointer (some ⟨w.heap.size + 1 + 1, 0, none⟩)]) (by simp) (by simp [go_sem]) ?_
    refine (caught_idle w.heap.size (w.heap.size + 1) (w.heap.size + 1 + 1) _).mono ?_
    rintro e u' w'' ⟨rfl, rfl, rfl⟩
    change Leaves _ _ _ _ [] .returning (put3 wb w.heap.size (.pointer (some ⟨S2, 0, none⟩)) (.bool true) (.int .i64 0))
    refine ⟨.tuple #[.pointer (some ⟨S2, 0, none⟩), .bool true, .int .i64 0], ?_, LR.out⟩
    simp [results, Try.results35, go_sem, q0, q1, q2]

end Go.Proofs.Ytflomdnjabgnaaa
/-
  Layer 4: two terms, unified; no substitution unifies nothing.
-/
namespace Go.Proofs.Ytflomdnjabgnaaa
open Go.RowKit

theorem LRes.from_ {σ : Sb} {n : Nat} {w w1 w' : World} {L : List (Nd × Nd)} {e : Ending} (h : LRes σ n w1 L e w') (hB : Below w.heap.size w w1) : LRes σ n w L e w' := by
  obtain ⟨h1, h2⟩ := h
  refine ⟨hB.trans (h1.mono hB.size), ?_⟩
  cases hE : un 4096 n σ L with
  | full => rw [hE] at h2; exact h2
  | no => rw [hE] at h2; exact h2
  | ok ρ c r =>
    rw [hE] at h2
    obtain ⟨S2, σp, g1, g2, g3, g4, g5⟩ := h2
    refine ⟨S2, σp, g1, Nat.le_trans hB.size g2, g3, g4, fun x t hx => ?_⟩
    rcases g5 x t hx with h | h
    · exact .inl h
    · exact .inr (AtP_imp (fun b _ hb => Nat.le_trans hB.size hb) h)

theorem LRes.cases {σ : Sb} {n : Nat} {w w' : World} {L : List (Nd × Nd)} {e : Ending} (h : LRes σ n w L e w') : ∃ p ok g, e = .returned (.tuple #[.pointer p, .bool ok, .int .i64 g]) := by
  obtain ⟨_, h2⟩ := h
  cases hE : un 4096 n σ L with
  | full => rw [hE] at h2; exact ⟨_, _, _, h2⟩
  | no => rw [hE] at h2; exact ⟨_, _, _, h2⟩
  | ok ρ c r =>
    rw [hE] at h2
    obtain ⟨S2, σp, g1, _⟩ := h2
    exact ⟨_, _, _, g1⟩

theorem ListsNil_any (pa : Option Addr) (la ca : Nat) (pb : Option Addr) (lb cb : Nat) (w : World) : Calls Try.prog 35 #[.pointer none, .slice pa la ca, .slice pb lb cb] w fun e w' => e = .returned (.tuple #[.pointer none, .bool false, .int .i64 2]) ∧ Below w.heap.size w w' := by
  go_enter_defers Try.func35, Try.ntmps35
  go_wp2_with fail
  simp only [bodyPostD, Leaves]
  exact ⟨.tuple #[.pointer none, .bool false, .int .i64 2], by simp [results, Try.results35, go_sem], rfl, (((Below.refl _ _).alloc (Nat.le_refl _) _).alloc (by simp) _).alloc (by simp; omega) _⟩

theorem ent_one {T : Nat} {a : Nd} {w : World} (hb : BoxIs T a w) (hok : a.ok) (hat : Ts.At w a.p a.kids) (hsz : a.kids.size ≤ 5000) : EntOk (fun _ => True) ⟨some ⟨T, 0, none⟩, .cons a.k a.s a.n a.p a.c a.kids .nil, 1⟩ w := by
  obtain ⟨b2, o2, h3, h4⟩ := hat.atP
  refine ⟨⟨by simp [Ts.len], by simp⟩, hok, ⟨T, 0, .inr rfl, trivial, hb.c0, hb.c1, hb.c2, hb.c3, ⟨b2, o2, h3, liesP_imp (fun _ _ _ => trivial) a.kids h4⟩, trivial⟩, fun x hx => ?_⟩
  simp only [elems, List.mem_singleton] at hx
  subst hx
  exact hsz

theorem boxes4 {w W4 : World} {a b : Nd} (h : W4 = (((w.alloc (.cells #[.int .u8 a.k, .string a.s, .int .i64 a.n, .slice a.p a.kids.len a.c] 24)).alloc (.cells #[.int .u8 b.k, .string b.s, .int .i64 b.n, .slice b.p b.kids.len b.c] 24)).alloc (.cells #[.int .u8 a.k, .string a.s, .int .i64 a.n, .slice a.p a.kids.len a.c] 24)).alloc (.cells #[.int .u8 b.k, .string b.s, .int .i64 b.n, .slice b.p b.kids.len b.c] 24)) :
    BoxIs (w.heap.size + 1 + 1) a W4 ∧ BoxIs (w.heap.size + 1 + 1 + 1) b W4 ∧ Below w.heap.size w W4 := by
  obtain ⟨W2, hW2⟩ : ∃ W2, W2 = (w.alloc (.cells #[.int .u8 a.k, .string a.s, .int .i64 a.n, .slice a.p a.kids.len a.c] 24)).alloc (.cells #[.int .u8 b.k, .string b.s, .int .i64 b.n, .slice b.p b.kids.len b.c] 24) := ⟨_, rfl⟩
  have hs : W2.heap.size = w.heap.size + 1 + 1 := by rw [hW2]; simp
  have hB : Below w.heap.size w W2 := by rw [hW2]; exact below2 _ _ _
  rw [← hW2] at h
  obtain ⟨W3, hW3⟩ : ∃ W3, W3 = W2.alloc (.cells #[.int .u8 a.k, .string a.s, .int .i64 a.n, .slice a.p a.kids.len a.c] 24) := ⟨_, rfl⟩
  have hs3 : W3.heap.size = w.heap.size + 1 + 1 + 1 := by rw [hW3]; simp [hs]
  have h3 : BoxIs W2.heap.size a W3 := by rw [hW3]; exact BoxIs.new W2 a _
  have hB3 : Below W2.heap.size W2 W3 := by rw [hW3]; exact (Below.refl _ _).alloc (Nat.le_refl _) _
  rw [← hW3] at h
  have h4 : BoxIs W3.heap.size b W4 := by rw [h]; exact BoxIs.new W3 b _
  have hB4 : Below W3.heap.size W3 W4 := by rw [h]; exact (Below.refl _ _).alloc (Nat.le_refl _) _
  rw [hs] at h3
  rw [hs3] at h4
  exact ⟨h3.below hB4, h4, hB.trans ((hB3.trans (hB4.mono hB3.size)).mono hB.size)⟩

set_option maxHeartbeats 4000000 in
theorem Unify_any (S : Nat) (σ : Sb) (n : Nat) (w : World) (hS : SubAt S σ n w) (hn : n ≤ 900000) (a b : Nd) (hoka : a.ok) (hokb : b.ok) (hata : Ts.At w a.p a.kids) (hatb : Ts.At w b.p b.kids) (hsza : a.kids.size ≤ 5000) (hszb : b.kids.size ≤ 5000) :
    Calls Try.prog 34 #[.pointer (some ⟨S, 0, none⟩), .agg #[.int .u8 a.k, .string a.s, .int .i64 a.n, .slice a.p a.kids.len a.c], .agg #[.int .u8 b.k, .string b.s, .int .i64 b.n, .slice b.p b.kids.len b.c]] w (LRes σ n w [(a, b)]) := by
  have HS := Lib.hid hS
  have OKA := Lib.hid hoka
  have OKB := Lib.hid hokb
  have ATA := Lib.hid hata
  have ATB := Lib.hid hatb
  clear hS hoka hokb hata hatb
  go_enter Try.func34, Try.ntmps34
  go_wp2_with fail
  obtain ⟨W4, hW4⟩ : ∃ W4, W4 = (((w.alloc (.cells #[.int .u8 a.k, .string a.s, .int .i64 a.n, .slice a.p a.kids.len a.c] 24)).alloc (.cells #[.int .u8 b.k, .string b.s, .int .i64 b.n, .slice b.p b.kids.len b.c] 24)).alloc (.cells #[.int .u8 a.k, .string a.s, .int .i64 a.n, .slice a.p a.kids.len a.c] 24)).alloc (.cells #[.int .u8 b.k, .string b.s, .int .i64 b.n, .slice b.p b.kids.len b.c] 24) := ⟨_, rfl⟩
  rw [← hW4]
  obtain ⟨h2, h3, hB⟩ := boxes4 hW4
  clear hW4
  refine (Lists_any S σ n W4 (HS.out.below hB) hn _ (.cons a.k a.s a.n a.p a.c a.kids .nil) 1 _ (.cons b.k b.s b.n b.p b.c b.kids .nil) 1 rfl (ent_one h2 OKA.out (ATA.out.below hB) hsza) (ent_one h3 OKB.out (ATB.out.below hB) hszb)).mono ?_
  intro e w' hL
  have hR := hL.from_ hB
  obtain ⟨p, ok, g, he⟩ := hR.cases
  have HR : Hid (LRes σ n w [(a, b)] (.returned (.tuple #[.pointer p, .bool ok, .int .i64 g])) w') := Lib.hid (by rw [← he]; exact hR)
  subst he
  clear hL hR h2 h3 hB
  go_wp2_with fail
  exact bodyPost_ret (v := .tuple #[.pointer p, .bool ok, .int .i64 g]) (by simp [results, Try.results34, go_sem]) rfl HR.out

theorem UnifyNil_any (a b : Nd) (w : World) : Calls Try.prog 34 #[.pointer none, .agg #[.int .u8 a.k, .string a.s, .int .i64 a.n, .slice a.p a.kids.len a.c], .agg #[.int .u8 b.k, .string b.s, .int .i64 b.n, .slice b.p b.kids.len b.c]] w fun e w' => e = .returned (.tuple #[.pointer none, .bool false, .int .i64 2]) ∧ Below w.heap.size w w' := by
  go_enter Try.func34, Try.ntmps34
  go_wp2_with fail
  obtain ⟨W4, hW4⟩ : ∃ W4, W4 = (((w.alloc (.cells #[.int .u8 a.k, .string a.s, .int .i64 a.n, .slice a.p a.kids.len a.c] 24)).alloc (.cells #[.int .u8 b.k, .string b.s, .int .i64 b.n, .slice b.p b.kids.len b.c] 24)).alloc (.cells #[.int .u8 a.k, .string a.s, .int .i64 a.n, .slice a.p a.kids.len a.c] 24)).alloc (.cells #[.int .u8 b.k, .string b.s, .int .i64 b.n, .slice b.p b.kids.len b.c] 24) := ⟨_, rfl⟩
  rw [← hW4]
  obtain ⟨_, _, hB⟩ := boxes4 hW4
  have HB := Lib.hid hB
  clear hW4 hB
  refine (ListsNil_any _ 1 1 _ 1 1 W4).mono ?_
  rintro e w' ⟨rfl, hB'⟩
  have HB' := Lib.hid (HB.out.trans (hB'.mono HB.out.size))
  clear hB'
  go_wp2_with fail
  exact bodyPost_ret (v := .tuple #[.pointer none, .bool false, .int .i64 2]) (by simp [results, Try.results34, go_sem]) rfl ⟨rfl, HB'.out⟩

end Go.Proofs.Ytflomdnjabgnaaa
