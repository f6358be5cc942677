import Derived.Test.YtnmhnaanpjlniaaGreatCm
import Derived.Test.YtnmhnaanpjlniaaGreatAm
import Derived.Test.YtnmhnaanpjlniaaGreatTs
import Derived.Test.YtnmhnaanpjlniaaGreatAt
import Derived.Test.YtnmhnaanpjlniaaGreatWe0
import Derived.Test.YtnmhnaanpjlniaaGreatTw
import Derived.Test.YtnmhnaanpjlniaaGreatTj
/-
  Layer 4: lists of terms, unified.
-/
namespace Go.Proofs.YtnmhnaanpjlniaaGreat
open Go.RowKit

/-- three boxes, one cell each: what is told -/
structure TB (B : Nat) (x0 x1 x2 : Value) (w : World) : Prop where
  b0 : w.heap[B]? = some (.cells #[x0] 30 (0, 0))
  b1 : w.heap[B + 1]? = some (.cells #[x1] 4 (0, 0))
  b2 : w.heap[B + 1 + 1]? = some (.cells #[x2] 35 (0, 0))

/-- all three are written -/
def put3 (w : World) (B : Nat) (y0 y1 y2 : Value) : World := ((w.setCell ⟨B, 0, none⟩ y0).setCell ⟨B + 1, 0, none⟩ y1).setCell ⟨B + 1 + 1, 0, none⟩ y2

section
variable {B : Nat} {x0 x1 x2 y0 y1 y2 : Value} {w w' : World}
theorem TB.of_blocks (h : TB B x0 x1 x2 w) (h0 : w'.heap[B]? = w.heap[B]?) (h1 : w'.heap[B + 1]? = w.heap[B + 1]?) (h2 : w'.heap[B + 1 + 1]? = w.heap[B + 1 + 1]?) : TB B x0 x1 x2 w' := ⟨h0.trans h.b0, h1.trans h.b1, h2.trans h.b2⟩

theorem TB.put3 (h : TB B x0 x1 x2 w) : TB B y0 y1 y2 (put3 w B y0 y1 y2) := by
  have st : ∀ (w : World) (b k : Nat) (v : Value), k ≠ b → (w.setCell ⟨b, 0, none⟩ v).heap[k]? = w.heap[k]? := fun w b k v hk => Below.heap_setCell w ⟨b, 0, none⟩ v k hk
  refine ⟨?_, ?_, ?_⟩
  · unfold Go.Proofs.YtnmhnaanpjlniaaGreat.put3
    rw [st _ _ _ _ (by omega), st _ _ _ _ (by omega)]
    exact one_setCell h.b0
  · unfold Go.Proofs.YtnmhnaanpjlniaaGreat.put3
    rw [st _ _ _ _ (by omega)]
    exact one_setCell ((st _ _ _ _ (by omega)).trans h.b1)
  · exact one_setCell ((st _ _ _ _ (by omega)).trans ((st _ _ _ _ (by omega)).trans h.b2))

theorem below_put1 {b i : Nat} {v : Value} (h : Below w.heap.size w w') (hb : w.heap.size ≤ b) : Below w.heap.size w (w'.setCell ⟨b, i, none⟩ v) :=
  have hg := grown_set w' b i v
  ⟨hg.os.trans h.os, hg.tape.trans h.tape, hg.output.trans h.output, Nat.le_trans h.size hg.size, fun k hk => (hg.block k (Nat.lt_of_lt_of_le hk h.size) (fun e => by cases e; omega)).trans (h.block k hk)⟩

theorem below_put3 (h : Below w.heap.size w w') (hb : w.heap.size ≤ B) : Below w.heap.size w (Go.Proofs.YtnmhnaanpjlniaaGreat.put3 w' B y0 y1 y2) := below_put1 (below_put1 (below_put1 h hb) (by omega)) (by omega)

theorem SubAt.put1 {S b : Nat} {σ : Sb} {n : Nat} {x v : Value} {t : TypeId} (h : SubAt S σ n w) (hb : w.heap[b]? = some (.cells #[x] t (0, 0))) (hne : S ≠ b) : SubAt S σ n (w.setCell ⟨b, 0, none⟩ v) := h.but hb (by simp) hne (grown_set _ _ _ _)

theorem SubAt.put3 {S : Nat} {σ : Sb} {n : Nat} (h : SubAt S σ n w) (hb : TB B x0 x1 x2 w) (hne : S ≠ B ∧ S ≠ B + 1 ∧ S ≠ B + 1 + 1) : SubAt S σ n (Go.Proofs.YtnmhnaanpjlniaaGreat.put3 w B y0 y1 y2) := by
  have st : ∀ (w : World) (b k : Nat) (v : Value), k ≠ b → (w.setCell ⟨b, 0, none⟩ v).heap[k]? = w.heap[k]? := fun w b k v hk => Below.heap_setCell w ⟨b, 0, none⟩ v k hk
  exact ((h.put1 hb.b0 hne.1).put1 ((st _ _ _ _ (by omega)).trans hb.b1) hne.2.1).put1 ((st _ _ _ _ (by omega)).trans ((st _ _ _ _ (by omega)).trans hb.b2)) hne.2.2

theorem AtP_put1 {P : Nat → Prop} {b : Nat} {x v : Value} {t : TypeId} (hb : w.heap[b]? = some (.cells #[x] t (0, 0))) {p : Option Addr} {ts : Ts} (h : Ts.AtP P w p ts) : Ts.AtP P (w.setCell ⟨b, 0, none⟩ v) p ts :=
  have hT : Tiny b w := ⟨_, _, _, hb, by simp⟩
  AtP_g2 (.of_K (grown_set w b 0 v) : G2 b b w _) hT hT h

theorem AtP_put3 {P : Nat → Prop} (hb : TB B x0 x1 x2 w) {p : Option Addr} {ts : Ts} (h : Ts.AtP P w p ts) : Ts.AtP P (Go.Proofs.YtnmhnaanpjlniaaGreat.put3 w B y0 y1 y2) p ts := by
  have st : ∀ (w : World) (b k : Nat) (v : Value), k ≠ b → (w.setCell ⟨b, 0, none⟩ v).heap[k]? = w.heap[k]? := fun w b k v hk => Below.heap_setCell w ⟨b, 0, none⟩ v k hk
  exact AtP_put1 ((st _ _ _ _ (by omega)).trans ((st _ _ _ _ (by omega)).trans hb.b2)) (AtP_put1 ((st _ _ _ _ (by omega)).trans hb.b1) (AtP_put1 hb.b0 h))

theorem TB.new (w : World) : TB w.heap.size (.pointer none) (.bool false) (.int .i64 0) (((w.alloc (.cells #[.pointer none] 30)).alloc (.cells #[.bool false] 4)).alloc (.cells #[.int .i64 0] 35)) := by
  have h1 := heap_alloc_new w (.cells #[.pointer none] 30)
  have h2 := heap_alloc_new (w.alloc (.cells #[.pointer none] 30)) (.cells #[.bool false] 4)
  have h3 := heap_alloc_new ((w.alloc (.cells #[.pointer none] 30)).alloc (.cells #[.bool false] 4)) (.cells #[.int .i64 0] 35)
  have st : ∀ (w : World) (o : Obj) (k : Nat), k < w.heap.size → (w.alloc o).heap[k]? = w.heap[k]? := fun w o k hk => ((Below.refl _ w).alloc (Nat.le_refl _) o).block k hk
  rw [World.size_alloc] at h2
  rw [World.size_alloc, World.size_alloc] at h3
  exact ⟨(st _ _ _ (by rw [World.size_alloc]; rw [World.size_alloc]; omega)).trans ((st _ _ _ (by rw [World.size_alloc]; omega)).trans h1), (st _ _ _ (by rw [World.size_alloc]; rw [World.size_alloc]; omega)).trans h2, h3⟩
end

/-- what Lists tells -/
def LRes (σ : Sb) (n : Nat) (w : World) (L : List (Nd × Nd)) (e : Ending) (w' : World) : Prop :=
  Below w.heap.size w w' ∧ match un 4096 n σ L with
    | .full => e = .returned (.tuple #[.pointer none, .bool false, .int .i64 31])
    | .no => e = .returned (.tuple #[.pointer none, .bool false, .int .i64 0])
    | .ok ρ c _ => ∃ S2 σp, e = .returned (.tuple #[.pointer (some ⟨S2, 0, none⟩), .bool true, .int .i64 0]) ∧ w.heap.size ≤ S2 ∧ STw σp ρ ∧ SubAt S2 σp c w' ∧ ∀ x t, σp x = some t → σ x = some t ∨ Ts.AtP (fun b => w.heap.size ≤ b) w' t.p t.kids

set_option maxRecDepth 100000 in
set_option maxHeartbeats 8000000 in
theorem Lists_any (S : Nat) (σ : Sb) (n : Nat) (w : World) (hS : SubAt S σ n w) (hn : n ≤ 900000) (pa : Option Addr) (ta : Ts) (ca : Nat) (pb : Option Addr) (tb : Ts) (cb : Nat) (hlen : ta.len = tb.len) (ha : EntOk (fun _ => True) ⟨pa, ta, ca⟩ w) (hb : EntOk (fun _ => True) ⟨pb, tb, cb⟩ w) :
    Calls Tryz.prog 121 #[.pointer (some ⟨S, 0, none⟩), .slice pa ta.len ca, .slice pb tb.len cb] w (LRes σ n w (pairsOf [(⟨pa, ta, ca⟩, ⟨pb, tb, cb⟩)])) := by
  have hmf : ∀ (fn : Fn) (first cap : Array Value) (w : World), (Instr.makeFunc fn first cap).run Tryz.prog w = .ok (.func fn first cap) w := fun _ _ _ _ => rfl
  have HLEN := Lib.hid hlen
  have HS := Lib.hid hS
  have HA := Lib.hid ha
  have HB := Lib.hid hb
  have hSl := hS.lt
  have hbl : ta.len ≤ 9223372036854775807 := Nat.le_trans ha.cap.1 ha.cap.2
  have hal : ((ta.len : Int) != (ta.len : Int)) = false := by simp
  rw [← hlen]
  clear hlen hS ha hb
  go_enter_defers Tryz.func121, Tryz.ntmps121
  go_wp2_with fail
  obtain ⟨W0, hW0⟩ : ∃ W0, W0 = ((w.alloc (.cells #[.pointer none] 30)).alloc (.cells #[.bool false] 4)).alloc (.cells #[.int .i64 0] 35) := ⟨_, rfl⟩
  have hT0 : TB w.heap.size (.pointer none) (.bool false) (.int .i64 0) W0 := by rw [hW0]; exact TB.new w
  have hB0 : Below w.heap.size w W0 := by rw [hW0]; exact (((Below.refl _ _).alloc (Nat.le_refl _) _).alloc (by simp) _).alloc (by simp; omega) _
  have hs0 : W0.heap.size = w.heap.size + 3 := by rw [hW0]; simp
  rw [← hW0]
  refine (sbclone_any S σ n W0 (HS.out.below hB0)).mono ?_
  rintro e wa ⟨rfl, hS2, hBa⟩
  obtain ⟨W1, hW1⟩ : ∃ W1, W1 = wa.alloc (.cells #[.pointer (some ⟨W0.heap.size, 0, none⟩), .int .i64 0] 156) := ⟨_, rfl⟩
  have hB1 : Below wa.heap.size wa W1 := by rw [hW1]; exact (Below.refl _ _).alloc (Nat.le_refl _) _
  have hs01 := hS2.lt
  obtain ⟨KB, hKB⟩ : ∃ KB, KB = wa.heap.size := ⟨_, rfl⟩
  obtain ⟨S2, hS2e⟩ : ∃ S2, S2 = W0.heap.size := ⟨_, rfl⟩
  have UU : Hid (UAt KB S2 σ n 0 W1) := Lib.hid (by
    rw [hKB, hS2e]
    exact ⟨by rw [hW1]; exact heap_alloc_new _ _, hS2.below hB1, by omega⟩)
  have hB01 : Below W0.heap.size W0 W1 := hBa.trans (hB1.mono hBa.size)
  have T1 := Lib.hid (hT0.of_blocks (hB01.block _ (by omega)) (hB01.block _ (by omega)) (hB01.block _ (by omega)))
  have B1 := Lib.hid (hB0.trans (hB01.mono hB0.size))
  have hK1 : w.heap.size + 3 ≤ KB ∧ w.heap.size + 3 ≤ S2 := by omega
  have Z1 := Lib.hid hW1
  have ZK := Lib.hid hKB
  have ZS := Lib.hid hS2e
  clear hW0 hT0 hB0 hs0 hBa hW1 hB1 hs01 hKB hS2e hB01 hS2
  go_upto_region 7 with fail
  rw [← ZS.out] at Z1 ⊢
  rw [← Z1.out, ← ZK.out]
  go_wp2_with fail
  refine (by have h := lists_any KB S2 σ n 0 W1 UU.out (by omega) hn pa ta ca pb tb cb HLEN.out (HA.out.imp (fun b _ hb => B1.out.block b hb) (fun _ h _ => h)) (HB.out.imp (fun b _ hb => B1.out.block b hb) (fun _ h _ => h)); rw [← HLEN.out] at h; exact h : Calls Tryz.prog 128 #[.pointer (some ⟨KB, 0, none⟩), .slice pa ta.len ca, .slice pb ta.len cb] W1 _).mono ?_
  intro e wb hU
  have HU := Lib.hid hU
  clear hU
  have hG := HU.out.1
  have T2 := Lib.hid (T1.out.of_blocks (hG.block _ (lt_of_block T1.out.b0) (by omega) (by omega)) (hG.block _ (lt_of_block T1.out.b1) (by omega) (by omega)) (hG.block _ (lt_of_block T1.out.b2) (by omega) (by omega)))
  have B2 := Lib.hid (hG.below B1.out B1.out.size (by omega) (by omega))
  have hU2 := HU.out.2
  rw [Nat.sub_zero] at hU2
  have g0 := cell_of_one T2.out.b0
  have g1 := cell_of_one T2.out.b1
  have g2 := cell_of_one T2.out.b2
  have k0 := free_of_one T2.out.b0
  have k1 := free_of_one T2.out.b1
  have k2 := free_of_one T2.out.b2
  have T3 := fun y0 y1 y2 => T2.out.put3 (y0 := y0) (y1 := y1) (y2 := y2)
  clear hG
  cases hE : un 4096 n σ (pairsOf [(⟨pa, ta, ca⟩, ⟨pb, tb, cb⟩)]) with
  | full =>
    rw [hE] at hU2
    subst hU2
    have LR : Hid (LRes σ n w (pairsOf [(⟨pa, ta, ca⟩, ⟨pb, tb, cb⟩)]) (.returned (.tuple #[.pointer none, .bool false, .int .i64 31])) (put3 wb w.heap.size (.pointer none) (.bool false) (.int .i64 31))) := Lib.hid ⟨below_put3 B2.out (Nat.le_refl _), by rw [hE]⟩
    have T4 := T3 (.pointer none) (.bool false) (.int .i64 31)
    have q0 := cell_of_one T4.b0
    have q1 := cell_of_one T4.b1
    have q2 := cell_of_one T4.b2
    clear hE HU T3 T4
    go_wp2_with fail
    refine leaves_cons (f := 126) (args := #[.pointer (some ⟨w.heap.size, 0, none⟩), .pointer (some ⟨w.heap.size + 1, 0, none⟩), .pointer (some ⟨w.heap.size + 1 + 1, 0, none⟩)]) (by simp) (by simp [go_sem]) ?_
    refine (caught_full w.heap.size (w.heap.size + 1) (w.heap.size + 1 + 1) _ _ _ wb g0 g1 g2 k0 k1 k2 (by omega) (by omega) (by omega)).mono ?_
    rintro e u' w'' ⟨rfl, rfl, rfl⟩
    change Leaves _ _ _ _ [] .returning (put3 wb w.heap.size (.pointer none) (.bool false) (.int .i64 31))
    refine ⟨.tuple #[.pointer none, .bool false, .int .i64 31], ?_, LR.out⟩
    simp [results, Tryz.results121, go_sem, q0, q1, q2]
  | no =>
    rw [hE] at hU2
    subst hU2
    have LR : Hid (LRes σ n w (pairsOf [(⟨pa, ta, ca⟩, ⟨pb, tb, cb⟩)]) (.returned (.tuple #[.pointer none, .bool false, .int .i64 0])) (put3 wb w.heap.size (.pointer none) (.bool false) (.int .i64 0))) := Lib.hid ⟨below_put3 B2.out (Nat.le_refl _), by rw [hE]⟩
    have T4 := T3 (.pointer none) (.bool false) (.int .i64 0)
    have q0 := cell_of_one T4.b0
    have q1 := cell_of_one T4.b1
    have q2 := cell_of_one T4.b2
    clear hE HU T3 T4
    go_wp2_with fail
    refine leaves_cons (f := 126) (args := #[.pointer (some ⟨w.heap.size, 0, none⟩), .pointer (some ⟨w.heap.size + 1, 0, none⟩), .pointer (some ⟨w.heap.size + 1 + 1, 0, none⟩)]) (by simp) (by simp [go_sem]) ?_
    refine (caught_idle w.heap.size (w.heap.size + 1) (w.heap.size + 1 + 1) _).mono ?_
    rintro e u' w'' ⟨rfl, rfl, rfl⟩
    change Leaves _ _ _ _ [] .returning (put3 wb w.heap.size (.pointer none) (.bool false) (.int .i64 0))
    refine ⟨.tuple #[.pointer none, .bool false, .int .i64 0], ?_, LR.out⟩
    simp [results, Tryz.results121, go_sem, q0, q1, q2]
  | ok ρ c r =>
    rw [hE] at hU2
    obtain ⟨rfl, σp, m2, hr2, hm2, hST, hUA, hold⟩ := hU2
    have z0 := hUA.c0
    have hKw := hUA.lt
    have hSS := hUA.sub.put3 T2.out (y0 := .pointer (some ⟨S2, 0, none⟩)) (y1 := .bool true) (y2 := .int .i64 0) ⟨by omega, by omega, by omega⟩
    have LR : Hid (LRes σ n w (pairsOf [(⟨pa, ta, ca⟩, ⟨pb, tb, cb⟩)]) (.returned (.tuple #[.pointer (some ⟨S2, 0, none⟩), .bool true, .int .i64 0])) (put3 wb w.heap.size (.pointer (some ⟨S2, 0, none⟩)) (.bool true) (.int .i64 0))) := Lib.hid ⟨below_put3 B2.out (Nat.le_refl _), by
      rw [hE]
      refine ⟨S2, σp, rfl, by omega, hST, hSS, fun x t hx => ?_⟩
      rcases hold x t hx with h | h
      · exact .inl h
      · exact .inr (AtP_put3 T2.out (AtP_imp (fun b _ hb => Nat.le_trans B1.out.size hb) h))⟩
    have T4 := T3 (.pointer (some ⟨S2, 0, none⟩)) (.bool true) (.int .i64 0)
    have q0 := cell_of_one T4.b0
    have q1 := cell_of_one T4.b1
    have q2 := cell_of_one T4.b2
    clear hE HU T3 T4 hST hUA hold hSS hr2
    go_wp2_with fail
    refine leaves_cons (f := 126) (args := #[.pointer (some ⟨w.heap.size, 0, none⟩), .pointer (some ⟨w.heap.size + 1, 0, none⟩), .pointer (some ⟨w.heap.size + 1 + 1, 0, none⟩)]) (by simp) (by simp [go_sem]) ?_
    refine (caught_idle w.heap.size (w.heap.size + 1) (w.heap.size + 1 + 1) _).mono ?_
    rintro e u' w'' ⟨rfl, rfl, rfl⟩
    change Leaves _ _ _ _ [] .returning (put3 wb w.heap.size (.pointer (some ⟨S2, 0, none⟩)) (.bool true) (.int .i64 0))
    refine ⟨.tuple #[.pointer (some ⟨S2, 0, none⟩), .bool true, .int .i64 0], ?_, LR.out⟩
    simp [results, Tryz.results121, go_sem, q0, q1, q2]

end Go.Proofs.YtnmhnaanpjlniaaGreat
/-
  Layer 4: two terms, unified; no substitution unifies nothing.
-/
namespace Go.Proofs.YtnmhnaanpjlniaaGreat
open Go.RowKit

theorem LRes.from_ {σ : Sb} {n : Nat} {w w1 w' : World} {L : List (Nd × Nd)} {e : Ending} (h : LRes σ n w1 L e w') (hB : Below w.heap.size w w1) : LRes σ n w L e w' := by
  obtain ⟨h1, h2⟩ := h
  refine ⟨hB.trans (h1.mono hB.size), ?_⟩
  cases hE : un 4096 n σ L with
  | full => rw [hE] at h2; exact h2
  | no => rw [hE] at h2; exact h2
  | ok ρ c r =>
    rw [hE] at h2
    obtain ⟨S2, σp, g1, g2, g3, g4, g5⟩ := h2
    refine ⟨S2, σp, g1, Nat.le_trans hB.size g2, g3, g4, fun x t hx => ?_⟩
    rcases g5 x t hx with h | h
    · exact .inl h
    · exact .inr (AtP_imp (fun b _ hb => Nat.le_trans hB.size hb) h)

theorem LRes.cases {σ : Sb} {n : Nat} {w w' : World} {L : List (Nd × Nd)} {e : Ending} (h : LRes σ n w L e w') : ∃ p ok g, e = .returned (.tuple #[.pointer p, .bool ok, .int .i64 g]) := by
  obtain ⟨_, h2⟩ := h
  cases hE : un 4096 n σ L with
  | full => rw [hE] at h2; exact ⟨_, _, _, h2⟩
  | no => rw [hE] at h2; exact ⟨_, _, _, h2⟩
  | ok ρ c r =>
    rw [hE] at h2
    obtain ⟨S2, σp, g1, _⟩ := h2
    exact ⟨_, _, _, g1⟩


theorem ent_one {T : Nat} {a : Nd} {w : World} (hb : BoxIs T a w) (hok : a.ok) (hat : Ts.At w a.p a.kids) (hsz : a.kids.size ≤ 5000) : EntOk (fun _ => True) ⟨some ⟨T, 0, none⟩, .cons a.k a.s a.n a.p a.c a.kids .nil, 1⟩ w := by
  obtain ⟨b2, o2, h3, h4⟩ := hat.atP
  refine ⟨⟨by simp [Ts.len], by simp⟩, hok, ⟨T, 0, .inr rfl, trivial, hb.c0, hb.c1, hb.c2, hb.c3, ⟨b2, o2, h3, liesP_imp (fun _ _ _ => trivial) a.kids h4⟩, trivial⟩, fun x hx => ?_⟩
  simp only [elems, List.mem_singleton] at hx
  subst hx
  exact hsz

theorem boxes4 {w W4 : World} {a b : Nd} (h : W4 = (((w.alloc (.cells #[.int .u8 a.k, .string a.s, .int .i64 a.n, .slice a.p a.kids.len a.c] 25)).alloc (.cells #[.int .u8 b.k, .string b.s, .int .i64 b.n, .slice b.p b.kids.len b.c] 25)).alloc (.cells #[.int .u8 a.k, .string a.s, .int .i64 a.n, .slice a.p a.kids.len a.c] 25)).alloc (.cells #[.int .u8 b.k, .string b.s, .int .i64 b.n, .slice b.p b.kids.len b.c] 25)) :
    BoxIs (w.heap.size + 1 + 1) a W4 ∧ BoxIs (w.heap.size + 1 + 1 + 1) b W4 ∧ Below w.heap.size w W4 := by
  obtain ⟨W2, hW2⟩ : ∃ W2, W2 = (w.alloc (.cells #[.int .u8 a.k, .string a.s, .int .i64 a.n, .slice a.p a.kids.len a.c] 25)).alloc (.cells #[.int .u8 b.k, .string b.s, .int .i64 b.n, .slice b.p b.kids.len b.c] 25) := ⟨_, rfl⟩
  have hs : W2.heap.size = w.heap.size + 1 + 1 := by rw [hW2]; simp
  have hB : Below w.heap.size w W2 := by rw [hW2]; exact below2 _ _ _
  rw [← hW2] at h
  obtain ⟨W3, hW3⟩ : ∃ W3, W3 = W2.alloc (.cells #[.int .u8 a.k, .string a.s, .int .i64 a.n, .slice a.p a.kids.len a.c] 25) := ⟨_, rfl⟩
  have hs3 : W3.heap.size = w.heap.size + 1 + 1 + 1 := by rw [hW3]; simp [hs]
  have h3 : BoxIs W2.heap.size a W3 := by rw [hW3]; exact BoxIs.new W2 a _
  have hB3 : Below W2.heap.size W2 W3 := by rw [hW3]; exact (Below.refl _ _).alloc (Nat.le_refl _) _
  rw [← hW3] at h
  have h4 : BoxIs W3.heap.size b W4 := by rw [h]; exact BoxIs.new W3 b _
  have hB4 : Below W3.heap.size W3 W4 := by rw [h]; exact (Below.refl _ _).alloc (Nat.le_refl _) _
  rw [hs] at h3
  rw [hs3] at h4
  exact ⟨h3.below hB4, h4, hB.trans ((hB3.trans (hB4.mono hB3.size)).mono hB.size)⟩

set_option maxHeartbeats 4000000 in
theorem Unify_any (S : Nat) (σ : Sb) (n : Nat) (w : World) (hS : SubAt S σ n w) (hn : n ≤ 900000) (a b : Nd) (hoka : a.ok) (hokb : b.ok) (hata : Ts.At w a.p a.kids) (hatb : Ts.At w b.p b.kids) (hsza : a.kids.size ≤ 5000) (hszb : b.kids.size ≤ 5000) :
    Calls Tryz.prog 106 #[.pointer (some ⟨S, 0, none⟩), .agg #[.int .u8 a.k, .string a.s, .int .i64 a.n, .slice a.p a.kids.len a.c], .agg #[.int .u8 b.k, .string b.s, .int .i64 b.n, .slice b.p b.kids.len b.c]] w (LRes σ n w [(a, b)]) := by
  have HS := Lib.hid hS
  have OKA := Lib.hid hoka
  have OKB := Lib.hid hokb
  have ATA := Lib.hid hata
  have ATB := Lib.hid hatb
  clear hS hoka hokb hata hatb
  go_enter Tryz.func106, Tryz.ntmps106
  go_wp2_with fail
  obtain ⟨W4, hW4⟩ : ∃ W4, W4 = (((w.alloc (.cells #[.int .u8 a.k, .string a.s, .int .i64 a.n, .slice a.p a.kids.len a.c] 25)).alloc (.cells #[.int .u8 b.k, .string b.s, .int .i64 b.n, .slice b.p b.kids.len b.c] 25)).alloc (.cells #[.int .u8 a.k, .string a.s, .int .i64 a.n, .slice a.p a.kids.len a.c] 25)).alloc (.cells #[.int .u8 b.k, .string b.s, .int .i64 b.n, .slice b.p b.kids.len b.c] 25) := ⟨_, rfl⟩
  rw [← hW4]
  obtain ⟨h2, h3, hB⟩ := boxes4 hW4
  clear hW4
  refine (Lists_any S σ n W4 (HS.out.below hB) hn _ (.cons a.k a.s a.n a.p a.c a.kids .nil) 1 _ (.cons b.k b.s b.n b.p b.c b.kids .nil) 1 rfl (ent_one h2 OKA.out (ATA.out.below hB) hsza) (ent_one h3 OKB.out (ATB.out.below hB) hszb)).mono ?_
  intro e w' hL
  have hR := hL.from_ hB
  obtain ⟨p, ok, g, he⟩ := hR.cases
  have HR : Hid (LRes σ n w [(a, b)] (.returned (.tuple #[.pointer p, .bool ok, .int .i64 g])) w') := Lib.hid (by rw [← he]; exact hR)
  subst he
  clear hL hR h2 h3 hB
  go_wp2_with fail
  exact bodyPost_ret (v := .tuple #[.pointer p, .bool ok, .int .i64 g]) (by simp [results, Tryz.results106, go_sem]) rfl HR.out


end Go.Proofs.YtnmhnaanpjlniaaGreat
/-
  Layer 3: a substitution that is known: the law's wakes. (Written by gen_an.py.)
-/
namespace Go.Proofs.YtnmhnaanpjlniaaGreat
open Go.RowKit



theorem nd_ok {k : Int} {s : ByteArray} {n : Int} {p : Option Addr} {c : Nat} {kids : Ts} (hk : 0 ≤ k ∧ k ≤ 255) (hs : s.size ≤ 140737488351232) (hn : -9223372036854775808 ≤ n ∧ n ≤ 9223372036854775807) (hc : kids.len ≤ c ∧ c ≤ 9223372036854775807) (hp : p = none → c = 0) (ho : kids.ok) : Nd.ok ⟨k, s, n, p, c, kids⟩ :=
  ⟨hk, hs, hn, hc, hp, ho, trivial⟩







/-- what is known: 0 is bound to f(V1), 1 to a -/
structure Known (σ : Sb) (x1 x2 : Nd) : Prop where
  b0 : σ 0 = some x1
  b1 : σ 1 = some x2
  b2 : σ 2 = none
  k1 : x1.k = 4
  s1 : x1.s = ⟨#[102]⟩
  n1 : x1.n = 0
  ks1 : ∃ s p c, x1.kids = .cons 1 s 1 p c .nil .nil
  k2 : x2.k = 3
  s2 : x2.s = ⟨#[97]⟩
  n2 : x2.n = 0
  ks2 : x2.kids = .nil

theorem Known.walk {σ : Sb} {x1 x2 : Nd} (h : Known σ x1 x2) {s : ByteArray} {p : Option Addr} {c : Nat} {ks : Ts} : wk σ ⟨1, s, 0, p, c, ks⟩ = x1 := wk_eq (.go rfl h.b0 (.stop (.inl (by rw [h.k1]; rfl))))
theorem Known.walk1 {σ : Sb} {x1 x2 : Nd} (h : Known σ x1 x2) {s : ByteArray} {p : Option Addr} {c : Nat} {ks : Ts} : wk σ ⟨1, s, 1, p, c, ks⟩ = x2 := wk_eq (.go rfl h.b1 (.stop (.inl (by rw [h.k2]; rfl))))
theorem Known.walk2 {σ : Sb} {x1 x2 : Nd} (h : Known σ x1 x2) {s : ByteArray} {p : Option Addr} {c : Nat} {ks : Ts} : wk σ ⟨1, s, 2, p, c, ks⟩ = ⟨1, s, 2, p, c, ks⟩ := wk_stop (.inr h.b2)

theorem Known.vis {σ : Sb} {x1 x2 : Nd} (h : Known σ x1 x2) {s : ByteArray} {p pa pb : Option Addr} {c ca cb : Nat} : (vis σ 4097 [⟨4, s, 0, p, c, .cons 1 ⟨#[]⟩ 0 pa ca .nil (.cons 1 ⟨#[]⟩ 2 pb cb .nil .nil)⟩]).length = 4 := by
  obtain ⟨s1, p1, c1, hk⟩ := h.ks1
  have w0 : wk σ ⟨4, s, 0, p, c, .cons 1 ⟨#[]⟩ 0 pa ca .nil (.cons 1 ⟨#[]⟩ 2 pb cb .nil .nil)⟩ = ⟨4, s, 0, p, c, .cons 1 ⟨#[]⟩ 0 pa ca .nil (.cons 1 ⟨#[]⟩ 2 pb cb .nil .nil)⟩ := wk_stop (.inl rfl)
  simp [_root_.Go.Proofs.YtnmhnaanpjlniaaGreat.vis, w0, elems, h.walk, hk, h.walk1, h.ks2, h.walk2]

theorem Known.app {σ : Sb} {x1 x2 : Nd} (h : Known σ x1 x2) {pa pb : Option Addr} {ca cb : Nat} : App σ (elems (.cons 1 ⟨#[]⟩ 0 pa ca .nil (.cons 1 ⟨#[]⟩ 2 pb cb .nil .nil))) (.cons 4 ⟨#[102]⟩ 0 none 0 (.cons 3 ⟨#[97]⟩ 0 none 0 .nil .nil) (.cons 1 ⟨#[]⟩ 2 none 0 .nil .nil)) := by
  obtain ⟨s1, p1, c1, hk⟩ := h.ks1
  have e3 : App σ [⟨1, ⟨#[]⟩, 2, pb, cb, .nil⟩] (.cons 1 ⟨#[]⟩ 2 none 0 .nil .nil) := by
    have := App.cons (σ := σ) (t := ⟨1, ⟨#[]⟩, 2, pb, cb, .nil⟩) (p := none) (c := 0) (ks := .nil) (rs := .nil) (by rw [h.walk2]; exact .nil) .nil
    rw [h.walk2] at this
    exact this
  have e2 : App σ (elems (.cons 1 s1 1 p1 c1 .nil .nil)) (.cons 3 ⟨#[97]⟩ 0 none 0 .nil .nil) := by
    have := App.cons (σ := σ) (t := ⟨1, s1, 1, p1, c1, .nil⟩) (p := none) (c := 0) (ks := .nil) (rs := .nil) (by rw [h.walk1, h.ks2]; exact .nil) .nil
    rw [h.walk1, h.k2, h.s2, h.n2] at this
    exact this
  have := App.cons (σ := σ) (t := ⟨1, ⟨#[]⟩, 0, pa, ca, .nil⟩) (p := none) (c := 0) (by rw [h.walk, hk]; exact e2) e3
  rw [h.walk, h.k1, h.s1, h.n1] at this
  exact this



end Go.Proofs.YtnmhnaanpjlniaaGreat
/-
  Layer 4: unifications of terms that are known.
-/
namespace Go.Proofs.YtnmhnaanpjlniaaGreat
open Go.RowKit

def nV (n : Int) : Nd := ⟨1, ⟨#[]⟩, n, none, 0, .nil⟩
def nA : Nd := ⟨3, ⟨#[97]⟩, 0, none, 0, .nil⟩
def nF (ks : Ts) : Nd := ⟨4, ⟨#[102]⟩, 0, none, 0, ks⟩
def tV (n : Int) (r : Ts) : Ts := .cons 1 ⟨#[]⟩ n none 0 .nil r
def tA : Ts := .cons 3 ⟨#[97]⟩ 0 none 0 .nil .nil

theorem vis_leaf {σ : Sb} {r : Nat} {t : Nd} (hw : wk σ t = t) (hk : t.kids = .nil) : vis σ (r + 1) [t] = [t] := by
  simp only [vis, hw, hk, elems, List.nil_append, vis_nil]

theorem bnd_leaf {r : Nat} {σ : Sb} {v : Int} {t : Nd} (hr : 1 ≤ r) (hv : 0 ≤ v) (hw : wk σ t = t) (hk : t.kids = .nil) (hne : ((t.k == 1) && (t.n == v)) = false) : bnd r σ v t = .ok (r - 1) := by
  unfold bnd
  rw [vis_leaf hw hk]
  simp only [posA, hne, Bool.false_eq_true, if_false, List.length_cons, List.length_nil]
  rw [if_neg (by omega), if_neg (by omega), if_neg (by omega)]

theorem one_leaf {r c : Nat} {σ : Sb} {a b : Nd} (hr : 1 ≤ r) (hwa : wk σ a = a) (hwb : wk σ b = b) (ha : (a.k == 1) = true) (hv : 0 ≤ a.n) (hk : b.kids = .nil) (hne : ((b.k == 1) && (b.n == a.n)) = false) : one r c σ a b = .ok (σ.put a.n b) (c + 1) (r - 1) [] := by
  have h2 : ¬ (((wk σ b).k == 1) = true ∧ (wk σ a).n = (wk σ b).n) := by
    rw [hwa, hwb]
    rintro ⟨h, h'⟩
    rw [h, h'] at hne
    simp at hne
  rw [one_x (by rw [hwa]; exact ha) h2, hwa, hwb, bnd_leaf hr hv hwb hk hne]
  simp only
  rw [Nat.min_eq_left (by omega)]







end Go.Proofs.YtnmhnaanpjlniaaGreat
/-
  Layer 4: what unification finds, as plain terms: a unifier, the most general one; and none where there is none.
-/
namespace Go.Proofs.YtnmhnaanpjlniaaGreat
open Go.RowKit

/-- plain terms -/
inductive Tm where
  | var (n : Int)
  | node (k : Int) (s : List UInt8) (n : Int) (kids : List Tm)

mutual
def Tm.sz : Tm → Nat
  | .var _ => 1
  | .node _ _ _ ks => szs ks + 1
def szs : List Tm → Nat
  | [] => 0
  | t :: r => t.sz + szs r
end

mutual
/-- a variable stands in it -/
def Tm.has (v : Int) : Tm → Prop
  | .var n => n = v
  | .node _ _ _ ks => hass v ks
def hass (v : Int) : List Tm → Prop
  | [] => False
  | t :: r => t.has v ∨ hass v r
end

mutual
/-- a variable replaced -/
def rp (v : Int) (T : Tm) : Tm → Tm
  | .var n => if n = v then T else .var n
  | .node k s n ks => .node k s n (reps v T ks)
def reps (v : Int) (T : Tm) : List Tm → List Tm
  | [] => []
  | t :: r => rp v T t :: reps v T r
end

mutual
theorem rp_no (v : Int) (T : Tm) : ∀ t : Tm, ¬ t.has v → rp v T t = t
  | .var n, h => by
    simp only [Tm.has] at h
    simp only [rp, if_neg h]
  | .node k s n ks, h => by
    simp only [Tm.has] at h
    simp only [rp, reps_no v T ks h]
theorem reps_no (v : Int) (T : Tm) : ∀ l : List Tm, ¬ hass v l → reps v T l = l
  | [], _ => rfl
  | t :: r, h => by
    simp only [hass, not_or] at h
    simp only [reps, rp_no v T t h.1, reps_no v T r h.2]
end

theorem hass_mem {v : Int} : ∀ {l : List Tm}, hass v l → ∃ t ∈ l, t.has v
  | [], h => h.elim
  | t :: r, h => by
    simp only [hass] at h
    rcases h with h | h
    · exact ⟨t, List.mem_cons_self .., h⟩
    · obtain ⟨u, h1, h2⟩ := hass_mem h
      exact ⟨u, List.mem_cons_of_mem _ h1, h2⟩

theorem szs_mem {t : Tm} : ∀ {l : List Tm}, t ∈ l → t.sz ≤ szs l
  | [], h => by cases h
  | u :: r, h => by
    simp only [szs]
    rcases List.mem_cons.1 h with rfl | h
    · omega
    · have := szs_mem h; omega

/-- what a term becomes -/
def evs (θ : Int → Tm) : Ts → List Tm
  | .nil => []
  | .cons k s n _ _ kids rest => (if (k == 1) = true then θ n else .node k s.toList n (evs θ kids)) :: evs θ rest
def ev (θ : Int → Tm) (x : Nd) : Tm := if (x.k == 1) = true then θ x.n else .node x.k x.s.toList x.n (evs θ x.kids)

theorem evs_elems (θ : Int → Tm) : ∀ ts : Ts, evs θ ts = (elems ts).map (ev θ)
  | .nil => rfl
  | .cons k s n p c kids rest => by
    simp only [evs, elems, List.map_cons, evs_elems θ rest]
    rfl

theorem evs_rep (θ : Int → Tm) (v : Int) (T : Tm) : ∀ ts : Ts, evs (fun x => rp v T (θ x)) ts = reps v T (evs θ ts)
  | .nil => rfl
  | .cons k s n p c kids rest => by
    simp only [evs, reps, evs_rep θ v T rest, evs_rep θ v T kids]
    split
    · rfl
    · rfl
theorem ev_rep (θ : Int → Tm) (v : Int) (T : Tm) (x : Nd) : ev (fun x => rp v T (θ x)) x = rp v T (ev θ x) := by
  unfold ev
  rw [evs_rep]
  split
  · rfl
  · rfl

theorem evs_twin (θ : Int → Tm) : ∀ {ts us : Ts}, Ts.twin ts us → evs θ ts = evs θ us
  | .nil, .nil, _ => rfl
  | .nil, .cons .., h => h.elim
  | .cons .., .nil, h => h.elim
  | .cons k s n p c kids rest, .cons k' s' n' p' c' kids' rest', ⟨h1, h2, h3, h4, h5⟩ => by
    subst h1 h2 h3
    simp only [evs, evs_twin θ h4, evs_twin θ h5]
theorem ev_twin (θ : Int → Tm) {x y : Nd} (h : x.twin y) : ev θ x = ev θ y := by
  unfold ev
  rw [h.1, h.2.1, h.2.2.1, evs_twin θ h.2.2.2]

/-- terms are so that what is bound is like what it is bound to -/
def Sat (θ : Int → Tm) (σ : Sb) : Prop := ∀ v x, σ v = some x → θ v = ev θ x
/-- and what is not bound stays -/
def Mg (θ : Int → Tm) (σ : Sb) : Prop := Sat θ σ ∧ ∀ v, σ v = none → θ v = .var v

theorem ev_Wk {θ : Int → Tm} {σ : Sb} (hs : Sat θ σ) {t r : Nd} {m : Nat} (h : Wk σ t r m) : ev θ r = ev θ t := by
  induction h with
  | stop => rfl
  | @go t b r m hk hb _ ih =>
    rw [ih]
    have h1 := hs _ _ hb
    have h2 : ev θ t = θ t.n := by unfold ev; rw [if_pos hk]
    rw [h2, h1]
theorem ev_wk {θ : Int → Tm} {σ : Sb} (hs : Sat θ σ) (hE : Ends σ) (t : Nd) : ev θ (wk σ t) = ev θ t := ev_Wk hs (wk_spec hE t)

/-- variables have no Args, and no negative number -/
def goodT : Ts → Prop
  | .nil => True
  | .cons k _ n _ _ kids rest => ((k == 1) = true → 0 ≤ n ∧ kids = .nil) ∧ goodT kids ∧ goodT rest
def goodN (x : Nd) : Prop := ((x.k == 1) = true → 0 ≤ x.n ∧ x.kids = .nil) ∧ goodT x.kids
def goodS (σ : Sb) : Prop := ∀ v x, σ v = some x → goodN x

theorem goodT_elems : ∀ {ts : Ts}, goodT ts → ∀ x ∈ elems ts, goodN x
  | .nil, _, x, hx => by cases hx
  | .cons k s n p c kids rest, h, x, hx => by
    simp only [elems, List.mem_cons] at hx
    rcases hx with rfl | hx
    · exact ⟨h.1, h.2.1⟩
    · exact goodT_elems h.2.2 x hx

theorem good_Wk {σ : Sb} (hg : goodS σ) {t r : Nd} {m : Nat} (h : Wk σ t r m) (ht : goodN t) : goodN r := by
  induction h with
  | stop => exact ht
  | go _ hb _ ih => exact ih (hg _ _ hb)
theorem good_wk {σ : Sb} (hg : goodS σ) (hE : Ends σ) {t : Nd} (ht : goodN t) : goodN (wk σ t) := good_Wk hg (wk_spec hE t) ht

theorem goodS_put {σ : Sb} (hg : goodS σ) {v : Int} {x : Nd} (hx : goodN x) : goodS (σ.put v x) := fun u y hy => by
  by_cases e : u = v
  · subst e; rw [Sb.put_same] at hy; cases hy; exact hx
  · rw [Sb.put_other e] at hy; exact hg u y hy

theorem Sat.put {θ : Int → Tm} {σ : Sb} (h : Sat θ σ) {v : Int} {x : Nd} (hx : θ v = ev θ x) : Sat θ (σ.put v x) := fun u y hy => by
  by_cases e : u = v
  · subst e; rw [Sb.put_same] at hy; cases hy; exact hx
  · rw [Sb.put_other e] at hy; exact h u y hy

theorem posA_hits {v : Int} : ∀ {l : List Nd} {i : Nat}, 0 ≤ posA v i l → ∃ y ∈ l, (y.k == 1) = true ∧ y.n = v
  | [], _, h => by simp only [posA] at h; omega
  | x :: l, i, h => by
    simp only [posA] at h
    split at h
    · rename_i hx
      simp only [Bool.and_eq_true, beq_iff_eq] at hx
      exact ⟨x, List.mem_cons_self .., by rw [hx.1]; rfl, hx.2⟩
    · obtain ⟨y, h1, h2⟩ := posA_hits h
      exact ⟨y, List.mem_cons_of_mem _ h1, h2⟩
theorem posA_no {v : Int} : ∀ {l : List Nd} {i : Nat}, posA v i l < 0 → ∀ y ∈ l, ¬ ((y.k == 1) = true ∧ y.n = v)
  | [], _, _, y, hy => by cases hy
  | x :: l, i, h, y, hy => by
    simp only [posA] at h
    split at h
    · omega
    · rename_i hx
      rcases List.mem_cons.1 hy with rfl | hy
      · rintro ⟨h1, h2⟩; exact hx (by rw [h1, h2]; simp)
      · exact posA_no h y hy

/-- what is visited is a part -/
theorem vis_part {θ : Int → Tm} {σ : Sb} (hs : Sat θ σ) (hE : Ends σ) (hg : goodS σ) : ∀ (f : Nat) {l : List Nd}, (∀ t ∈ l, goodN t) → ∀ y ∈ vis σ f l, ∃ t ∈ l, y = wk σ t ∨ (ev θ y).sz < (ev θ t).sz
  | 0, _, _, y, hy => by simp only [vis] at hy; cases hy
  | _ + 1, [], _, y, hy => by simp only [vis] at hy; cases hy
  | f + 1, t :: rest, hl, y, hy => by
    simp only [vis] at hy
    rcases List.mem_cons.1 hy with rfl | hy
    · exact ⟨t, List.mem_cons_self .., .inl rfl⟩
    · have hgt := good_wk hg hE (hl t (List.mem_cons_self ..))
      obtain ⟨u, hu, h1⟩ := vis_part hs hE hg f (l := elems (wk σ t).kids ++ rest) (fun x hx => by
        rcases List.mem_append.1 hx with hx | hx
        · exact goodT_elems hgt.2 x hx
        · exact hl x (List.mem_cons_of_mem _ hx)) y hy
      rcases List.mem_append.1 hu with hu | hu
      · refine ⟨t, List.mem_cons_self .., .inr ?_⟩
        have hk : ¬ ((wk σ t).k == 1) = true := fun hk => by
          rw [(hgt.1 hk).2] at hu; cases hu
        have h2 : (ev θ u).sz < (ev θ (wk σ t)).sz := by
          have h3 : ev θ (wk σ t) = .node (wk σ t).k (wk σ t).s.toList (wk σ t).n (evs θ (wk σ t).kids) := by rw [ev, if_neg hk]
          rw [h3, Tm.sz, evs_elems]
          have := szs_mem (List.mem_map_of_mem (f := ev θ) hu)
          omega
        rw [ev_wk hs hE] at h2
        rcases h1 with rfl | h1
        · rw [ev_wk hs hE]; exact h2
        · omega
      · exact ⟨u, List.mem_cons_of_mem _ hu, h1⟩

/-- a variable that is not visited does not stand in what the terms become -/
theorem vis_has {θ : Int → Tm} {σ : Sb} (hm : Mg θ σ) (hE : Ends σ) {v : Int} : ∀ (f : Nat) {l : List Nd}, (vis σ f l).length < f → (∀ y ∈ vis σ f l, ¬ ((y.k == 1) = true ∧ y.n = v)) → ∀ t ∈ l, ¬ (ev θ t).has v
  | 0, _, h, _, _, _ => by omega
  | _ + 1, [], _, _, t, ht => by cases ht
  | f + 1, t :: rest, h, hy, u, hu => by
    simp only [vis, List.length_cons] at h hy
    have ih := vis_has hm hE (v := v) f (l := elems (wk σ t).kids ++ rest) (by omega) (fun y h1 => hy y (List.mem_cons_of_mem _ h1))
    rcases List.mem_cons.1 hu with rfl | hu
    · rw [← ev_wk hm.1 hE]
      by_cases hk : ((wk σ u).k == 1) = true
      · rw [ev, if_pos hk]
        have hn : σ (wk σ u).n = none := by
          rcases (wk_spec hE u).ends with h1 | h1
          · rw [h1] at hk; cases hk
          · exact h1
        rw [hm.2 _ hn, Tm.has]
        exact fun e => hy _ (List.mem_cons_self ..) ⟨hk, e⟩
      · rw [ev, if_neg hk, Tm.has, evs_elems]
        intro hh
        obtain ⟨x, hx, h2⟩ := hass_mem hh
        obtain ⟨z, hz, rfl⟩ := List.mem_map.1 hx
        exact ih z (List.mem_append_left _ hz) h2
    · exact ih u (List.mem_append_right _ hu)

theorem Mg.put {θ : Int → Tm} {σ : Sb} (hm : Mg θ σ) {v : Int} {x : Nd} (hv : σ v = none) (hn : ¬ (ev θ x).has v) : Mg (fun u => rp v (ev θ x) (θ u)) (σ.put v x) := by
  refine ⟨fun u y hy => ?_, fun u hu => ?_⟩
  · rw [ev_rep]
    by_cases e : u = v
    · subst e
      rw [Sb.put_same] at hy
      cases hy
      rw [rp_no _ _ _ hn]
      show rp u (ev θ x) (θ u) = ev θ x
      rw [hm.2 u hv, rp, if_pos rfl]
    · rw [Sb.put_other e] at hy
      show rp v (ev θ x) (θ u) = _
      rw [hm.1 u y hy]
  · by_cases e : u = v
    · subst e; rw [Sb.put_same] at hu; cases hu
    · rw [Sb.put_other e] at hu
      show rp v (ev θ x) (θ u) = .var u
      rw [hm.2 u hu, rp, if_neg e]

end Go.Proofs.YtnmhnaanpjlniaaGreat
/-
  Layer 4: a unifier is found if there is one, it is the most general one, and nothing is bound where nothing need be.
-/
namespace Go.Proofs.YtnmhnaanpjlniaaGreat
open Go.RowKit

theorem zip_fwd {f : Nd → Tm} : ∀ {l m : List Nd}, l.map f = m.map f → ∀ p ∈ l.zip m, f p.1 = f p.2
  | [], _, _, p, hp => by simp at hp
  | _ :: _, [], h, _, _ => by simp at h
  | x :: l, y :: m, h, p, hp => by
    simp only [List.map_cons, List.cons.injEq] at h
    simp only [List.zip_cons_cons, List.mem_cons] at hp
    rcases hp with rfl | hp
    · exact h.1
    · exact zip_fwd h.2 p hp


theorem bnd_fwd {θ : Int → Tm} {σ : Sb} (hs : Sat θ σ) (hE : Ends σ) (hg : goodS σ) {r : Nat} {v : Int} {y : Nd} (hy : goodN y) (hw : wk σ y = y) (hv : 0 ≤ v) (he : θ v = ev θ y) (hne : ¬ ((y.k == 1) = true ∧ y.n = v)) : bnd r σ v y ≠ .no := by
  unfold bnd
  split
  · rename_i h
    obtain ⟨z, hz, h1, h2⟩ := posA_hits h.1
    obtain ⟨t, ht, h3⟩ := vis_part hs hE hg (r + 1) (l := [y]) (fun t ht => by simp only [List.mem_singleton] at ht; subst ht; exact hy) z hz
    simp only [List.mem_singleton] at ht
    subst ht
    rcases h3 with h3 | h3
    · rw [hw] at h3; subst h3; exact absurd ⟨h1, h2⟩ hne
    · rw [← he, ev, if_pos h1, h2] at h3; omega
  · split
    · exact fun e => by cases e
    · rw [if_neg (by omega)]; exact fun e => by cases e

theorem headU_iff {θ : Int → Tm} {x y : Nd} (hx : (x.k == 1) = false) (hy : (y.k == 1) = false) (h : ev θ x = ev θ y) : headU x y = true ∧ (elems x.kids).map (ev θ) = (elems y.kids).map (ev θ) := by
  rw [ev, ev, if_neg (by rw [hx]; simp), if_neg (by rw [hy]; simp)] at h
  injection h with h1 h2 h3 h4
  rw [evs_elems, evs_elems] at h4
  have hl := congrArg List.length h4
  rw [List.length_map, List.length_map, elems_length, elems_length] at hl
  exact ⟨by simp [headU, h1, h2, h3, hl], h4⟩



theorem one_fwd {θ : Int → Tm} {σ : Sb} {r c : Nat} {a b : Nd} (hs : Sat θ σ) (hE : Ends σ) (hg : goodS σ) (ha : goodN a) (hb : goodN b) (he : ev θ a = ev θ b) :
    one r c σ a b ≠ .no ∧ ∀ σ' c' r' l, one r c σ a b = .ok σ' c' r' l → Sat θ σ' ∧ goodS σ' ∧ ∀ p ∈ l, goodN p.1 ∧ goodN p.2 ∧ ev θ p.1 = ev θ p.2 := by
  have hxy : ev θ (wk σ a) = ev θ (wk σ b) := by rw [ev_wk hs hE, ev_wk hs hE]; exact he
  have gx := good_wk hg hE ha
  have gy := good_wk hg hE hb
  by_cases kx : ((wk σ a).k == 1) = true
  · have ex : θ (wk σ a).n = ev θ (wk σ b) := by rw [← hxy, ev, if_pos kx]
    by_cases hsm : ((wk σ b).k == 1) = true ∧ (wk σ a).n = (wk σ b).n
    · rw [one_same kx hsm.1 hsm.2]
      refine ⟨(fun e => by cases e), fun σ' c' r' l h => ?_⟩
      cases h
      exact ⟨hs, hg, fun p hp => by cases hp⟩
    · have hb0 := bnd_fwd hs hE hg (r := r) gy (wk_wk hE b) (gx.1 kx).1 ex (fun h => hsm ⟨h.1, h.2.symm⟩)
      rw [one_x kx hsm]
      cases e : bnd r σ (wk σ a).n (wk σ b) with
      | full => exact ⟨(fun e => by cases e), fun σ' c' r' l h => by cases h⟩
      | no => exact absurd e hb0
      | ok r2 =>
        refine ⟨(fun e => by cases e), fun σ' c' r' l h => ?_⟩
        cases h
        exact ⟨hs.put ex, goodS_put hg gy, fun p hp => by cases hp⟩
  · rw [Bool.not_eq_true] at kx
    by_cases ky : ((wk σ b).k == 1) = true
    · have ey : θ (wk σ b).n = ev θ (wk σ a) := by rw [hxy, ev, if_pos ky]
      have hb0 := bnd_fwd hs hE hg (r := r) gx (wk_wk hE a) (gy.1 ky).1 ey (fun h => by rw [kx] at h; cases h.1)
      rw [one_y kx ky]
      cases e : bnd r σ (wk σ b).n (wk σ a) with
      | full => exact ⟨(fun e => by cases e), fun σ' c' r' l h => by cases h⟩
      | no => exact absurd e hb0
      | ok r2 =>
        refine ⟨(fun e => by cases e), fun σ' c' r' l h => ?_⟩
        cases h
        exact ⟨hs.put ey, goodS_put hg gx, fun p hp => by cases hp⟩
    · rw [Bool.not_eq_true] at ky
      obtain ⟨hh, hm⟩ := headU_iff kx ky hxy
      rw [one_struct kx ky, if_pos hh]
      refine ⟨(fun e => by cases e), fun σ' c' r' l h => ?_⟩
      cases h
      refine ⟨hs, hg, fun p hp => ?_⟩
      obtain ⟨h1, h2⟩ := List.of_mem_zip (a := p.1) (b := p.2) hp
      exact ⟨goodT_elems gx.2 _ h1, goodT_elems gy.2 _ h2, zip_fwd hm p hp⟩

theorem un_fwd {θ : Int → Tm} : ∀ (r : Nat) {c : Nat} {σ : Sb} {l : List (Nd × Nd)}, Sat θ σ → Ends σ → goodS σ → (∀ p ∈ l, goodN p.1 ∧ goodN p.2 ∧ ev θ p.1 = ev θ p.2) → un r c σ l ≠ .no ∧ ∀ ρ c' r', un r c σ l = .ok ρ c' r' → Sat θ ρ := by
  intro r
  induction r using Nat.strongRecOn with
  | ind r ih =>
  intro c σ l hs hE hg hl
  cases l with
  | nil => rw [un_nil]; exact ⟨(fun e => by cases e), fun ρ c' r' h => by cases h; exact hs⟩
  | cons p l =>
    obtain ⟨a, b⟩ := p
    cases r with
    | zero => rw [un_zero]; exact ⟨(fun e => by cases e), fun ρ c' r' h => by cases h⟩
    | succ r =>
      obtain ⟨ha, hb, he⟩ := hl (a, b) (List.mem_cons_self ..)
      obtain ⟨h1, h2⟩ := one_fwd (r := r) (c := c) hs hE hg ha hb he
      cases e : one r c σ a b with
      | full => rw [un_full e]; exact ⟨(fun e => by cases e), fun ρ c' r' h => by cases h⟩
      | no => exact absurd e h1
      | ok σ1 c1 r1 m =>
        rw [un_ok e]
        obtain ⟨g1, g2, g3⟩ := h2 _ _ _ _ e
        have hr := one_le e
        refine ih r1 (by omega) g1 (one_ends hE e) g2 fun p hp => ?_
        rcases List.mem_append.1 hp with hp | hp
        · exact g3 p hp
        · exact hl p (List.mem_cons_of_mem _ hp)








theorem Mg.none : Mg Tm.var Sb.none := ⟨(fun v x hx => by cases hx), fun v _ => rfl⟩
theorem goodS.none : goodS Sb.none := fun v x hx => by cases hx



theorem STw.symm {σ ρ : Sb} (h : STw σ ρ) : STw ρ σ := by
  refine ⟨fun u hu => ?_, fun u y hy => ?_⟩
  · cases e : σ u with
    | none => rfl
    | some x => obtain ⟨t, h1, _⟩ := h.yes u x e; rw [hu] at h1; cases h1
  · cases e : σ u with
    | none => rw [h.no u e] at hy; cases hy
    | some x =>
      obtain ⟨t, h1, h2⟩ := h.yes u x e
      rw [hy] at h1
      cases h1
      exact ⟨x, rfl, Nd.twin_symm h2⟩

theorem Mg.tw {θ : Int → Tm} {σ ρ : Sb} (hm : Mg θ ρ) (h : STw σ ρ) : Mg θ σ := by
  refine ⟨fun v x hx => ?_, fun v hv => hm.2 v (h.no v hv)⟩
  obtain ⟨t, h1, h2⟩ := h.yes v x hx
  rw [hm.1 v t h1, ev_twin θ h2]


end Go.Proofs.YtnmhnaanpjlniaaGreat
/-
  Layer 4: the law's wakes: unifications of known terms. (Written by gen_cq.py.)
-/
namespace Go.Proofs.YtnmhnaanpjlniaaGreat
open Go.RowKit


end Go.Proofs.YtnmhnaanpjlniaaGreat
/-
  The law UnifyNil, walked.
-/
namespace Go.Proofs.YtnmhnaanpjlniaaGreat
open Go.RowKit




end Go.Proofs.YtnmhnaanpjlniaaGreat
/-
  The law UnifyTurns, walked. (Written by gen_cv.py.)
-/
namespace Go.Proofs.YtnmhnaanpjlniaaGreat
open Go.RowKit

def okU : Out → Bool
  | .ok _ _ _ => true
  | _ => false
def gU : Out → Int
  | .full => 31
  | _ => 0
/-- the pointer that is told -/
def PU (o : Out) (u : Value) (W : World) : Prop := match o with
  | .ok ρ c _ => ∃ S2 σp, u = .pointer (some ⟨S2, 0, none⟩) ∧ STw σp ρ ∧ SubAt S2 σp c W
  | _ => u = .pointer none

theorem PU.below {o : Out} {u : Value} {W W' : World} (h : PU o u W) (hB : Below W.heap.size W W') : PU o u W' := by
  cases o with
  | full => exact h
  | no => exact h
  | ok ρ c r => obtain ⟨S2, σp, h1, h2, h3⟩ := h; exact ⟨S2, σp, h1, h2, h3.below hB⟩

theorem LRes.pu {σ : Sb} {n : Nat} {w w' : World} {L : List (Nd × Nd)} {e : Ending} (h : LRes σ n w L e w') : ∃ p, e = .returned (.tuple #[p, .bool (okU (un 4096 n σ L)), .int .i64 (gU (un 4096 n σ L))]) ∧ PU (un 4096 n σ L) p w' := by
  obtain ⟨_, h2⟩ := h
  cases hE : un 4096 n σ L with
  | full => rw [hE] at h2; exact ⟨_, h2, rfl⟩
  | no => rw [hE] at h2; exact ⟨_, h2, rfl⟩
  | ok ρ c r =>
    rw [hE] at h2
    obtain ⟨S2, σp, g1, g2, g3, g4, g5⟩ := h2
    exact ⟨_, g1, S2, σp, rfl, g3, g4⟩


theorem headB_var {k : Int} {s : ByteArray} {n : Int} {len : Nat} (h : headB k s n len = true) (hk : (k == 1) = true) : 0 ≤ n ∧ len = 0 := by
  have e : k = 1 := by simpa using hk
  subst e
  unfold headB at h
  simp at h
  omega

theorem shape_good : ∀ {ts : Ts}, shapeL ts = true → goodT ts
  | .nil, _ => trivial
  | .cons k s n p c kids rest, h => by
    simp only [shapeL, Bool.and_eq_true] at h
    obtain ⟨⟨h1, h2⟩, h3⟩ := h
    refine ⟨fun hk => ?_, shape_good h1, shape_good h3⟩
    obtain ⟨g1, g2⟩ := headB_var h2 hk
    exact ⟨g1, Ts.len_zero g2⟩
theorem good_nd {a : Nd} (h : goodB 64 a.k a.s a.n a.kids = true) : goodN a := by
  have h1 : shapeL a.kids = true ∧ headB a.k a.s a.n a.kids.len = true := by
    unfold goodB at h
    simp only [Bool.and_eq_true] at h
    exact h.2
  refine ⟨fun hk => ?_, shape_good h1.1⟩
  obtain ⟨g1, g2⟩ := headB_var h1.2 hk
  exact ⟨g1, Ts.len_zero g2⟩


end Go.Proofs.YtnmhnaanpjlniaaGreat
/-
  Layer 4: what is applied, as plain terms.
-/
namespace Go.Proofs.YtnmhnaanpjlniaaGreat
open Go.RowKit

/-- what is applied becomes what the terms become -/
theorem App_ev {θ : Int → Tm} {σ : Sb} (hs : Sat θ σ) (hE : Ends σ) {l : List Nd} {us : Ts} (h : App σ l us) : evs θ us = l.map (ev θ) := by
  induction h with
  | nil => rfl
  | @cons t rest p c ks rs h1 h2 ih1 ih2 =>
    simp only [evs, List.map_cons, ih1, ih2]
    congr 1
    rw [← ev_wk hs hE t, ev, evs_elems]


/-- terms whose variables have no name -/
def nameT : Ts → Prop
  | .nil => True
  | .cons k s _ _ _ kids rest => ((k == 1) = true → s = ⟨#[]⟩ ∧ kids = .nil) ∧ nameT kids ∧ nameT rest

theorem toList_inj {a b : ByteArray} (h : a.toList = b.toList) : a = b := by
  rw [ByteArray.toList_eq, ByteArray.toList_eq] at h
  cases a
  cases b
  simp only [Array.toList_inj] at h
  rw [h]

/-- under plain variables a term can be told from another -/
theorem evs_inj : ∀ {us vs : Ts}, nameT us → nameT vs → evs Tm.var us = evs Tm.var vs → Ts.twin us vs
  | .nil, .nil, _, _, _ => trivial
  | .nil, .cons .., _, _, h => by simp [evs] at h
  | .cons .., .nil, _, _, h => by simp [evs] at h
  | .cons k s n p c kids rest, .cons k' s' n' p' c' kids' rest', h1, h2, h => by
    simp only [evs, List.cons.injEq] at h
    obtain ⟨h3, h4⟩ := h
    have hr := evs_inj h1.2.2 h2.2.2 h4
    by_cases e1 : (k == 1) = true
    · by_cases e2 : (k' == 1) = true
      · rw [if_pos e1, if_pos e2] at h3
        injection h3 with h3
        obtain ⟨g1, g2⟩ := h1.1 e1
        obtain ⟨g3, g4⟩ := h2.1 e2
        subst g1 g2 g3 g4 h3
        simp only [beq_iff_eq] at e1 e2
        exact ⟨e1.trans e2.symm, rfl, rfl, trivial, hr⟩
      · rw [if_pos e1, if_neg e2] at h3
        cases h3
    · by_cases e2 : (k' == 1) = true
      · rw [if_neg e1, if_pos e2] at h3
        cases h3
      · rw [if_neg e1, if_neg e2] at h3
        injection h3 with a1 a2 a3 a4
        exact ⟨a1, toList_inj a2, a3, evs_inj h1.2.1 h2.2.1 a4, hr⟩

/-- what is applied whole: its variables are not bound -/
theorem evs_fix {θ : Int → Tm} {σ : Sb} (hm : Mg θ σ) : ∀ {us : Ts}, FixT σ us → evs θ us = evs Tm.var us
  | .nil, _ => rfl
  | .cons k s n p c kids rest, h => by
    simp only [evs, evs_fix hm h.2.1, evs_fix hm h.2.2]
    congr 1
    by_cases e : (k == 1) = true
    · rw [if_pos e, if_pos e]
      rcases h.1 with h1 | h1
      · rw [h1] at e; cases e
      · exact hm.2 n h1
    · rw [if_neg e, if_neg e]

end Go.Proofs.YtnmhnaanpjlniaaGreat
