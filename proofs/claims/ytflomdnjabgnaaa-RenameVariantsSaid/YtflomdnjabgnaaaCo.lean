import Derived.Test.YtflomdnjabgnaaaCn
/-
  Layer 4: two terms, unified; no substitution unifies nothing.
-/
namespace Go.Proofs.Ytflomdnjabgnaaa
open Go.RowKit

theorem LRes.from_ {σ : Sb} {n : Nat} {w w1 w' : World} {L : List (Nd × Nd)} {e : Ending} (h : LRes σ n w1 L e w') (hB : Below w.heap.size w w1) : LRes σ n w L e w' := by
  obtain ⟨h1, h2⟩ := h
  refine ⟨hB.trans (h1.mono hB.size), ?_⟩
  cases hE : un 4096 n σ L with
  | full => rw [hE] at h2; exact h2
  | no => rw [hE] at h2; exact h2
  | ok ρ c r =>
    rw [hE] at h2
    obtain ⟨S2, σp, g1, g2, g3, g4, g5⟩ := h2
    refine ⟨S2, σp, g1, Nat.le_trans hB.size g2, g3, g4, fun x t hx => ?_⟩
    rcases g5 x t hx with h | h
    · exact .inl h
    · exact .inr (AtP_imp (fun b _ hb => Nat.le_trans hB.size hb) h)

theorem LRes.cases {σ : Sb} {n : Nat} {w w' : World} {L : List (Nd × Nd)} {e : Ending} (h : LRes σ n w L e w') : ∃ p ok g, e = .returned (.tuple #[.pointer p, .bool ok, .int .i64 g]) := by
  obtain ⟨_, h2⟩ := h
  cases hE : un 4096 n σ L with
  | full => rw [hE] at h2; exact ⟨_, _, _, h2⟩
  | no => rw [hE] at h2; exact ⟨_, _, _, h2⟩
  | ok ρ c r =>
    rw [hE] at h2
    obtain ⟨S2, σp, g1, _⟩ := h2
    exact ⟨_, _, _, g1⟩

theorem ListsNil_any (pa : Option Addr) (la ca : Nat) (pb : Option Addr) (lb cb : Nat) (w : World) : Calls Try.prog 35 #[.pointer none, .slice pa la ca, .slice pb lb cb] w fun e w' => e = .returned (.tuple #[.pointer none, .bool false, .int .i64 2]) ∧ Below w.heap.size w w' := by
  go_enter_defers Try.func35, Try.ntmps35
  go_wp2_with fail
  simp only [bodyPostD, Leaves]
  exact ⟨.tuple #[.pointer none, .bool false, .int .i64 2], by simp [results, Try.results35, go_sem], rfl, (((Below.refl _ _).alloc (Nat.le_refl _) _).alloc (by simp) _).alloc (by simp; omega) _⟩

theorem ent_one {T : Nat} {a : Nd} {w : World} (hb : BoxIs T a w) (hok : a.ok) (hat : Ts.At w a.p a.kids) (hsz : a.kids.size ≤ 5000) : EntOk (fun _ => True) ⟨some ⟨T, 0, none⟩, .cons a.k a.s a.n a.p a.c a.kids .nil, 1⟩ w := by
  obtain ⟨b2, o2, h3, h4⟩ := hat.atP
  refine ⟨⟨by simp [Ts.len], by simp⟩, hok, ⟨T, 0, .inr rfl, trivial, hb.c0, hb.c1, hb.c2, hb.c3, ⟨b2, o2, h3, liesP_imp (fun _ _ _ => trivial) a.kids h4⟩, trivial⟩, fun x hx => ?_⟩
  simp only [elems, List.mem_singleton] at hx
  subst hx
  exact hsz

theorem boxes4 {w W4 : World} {a b : Nd} (h : W4 = (((w.alloc (.cells #[.int .u8 a.k, .string a.s, .int .i64 a.n, .slice a.p a.kids.len a.c] 24)).alloc (.cells #[.int .u8 b.k, .string b.s, .int .i64 b.n, .slice b.p b.kids.len b.c] 24)).alloc (.cells #[.int .u8 a.k, .string a.s, .int .i64 a.n, .slice a.p a.kids.len a.c] 24)).alloc (.cells #[.int .u8 b.k, .string b.s, .int .i64 b.n, .slice b.p b.kids.len b.c] 24)) :
    BoxIs (w.heap.size + 1 + 1) a W4 ∧ BoxIs (w.heap.size + 1 + 1 + 1) b W4 ∧ Below w.heap.size w W4 := by
  obtain ⟨W2, hW2⟩ : ∃ W2, W2 = (w.alloc (.cells #[.int .u8 a.k, .string a.s, .int .i64 a.n, .slice a.p a.kids.len a.c] 24)).alloc (.cells #[.int .u8 b.k, .string b.s, .int .i64 b.n, .slice b.p b.kids.len b.c] 24) := ⟨_, rfl⟩
  have hs : W2.heap.size = w.heap.size + 1 + 1 := by rw [hW2]; simp
  have hB : Below w.heap.size w W2 := by rw [hW2]; exact below2 _ _ _
  rw [← hW2] at h
  obtain ⟨W3, hW3⟩ : ∃ W3, W3 = W2.alloc (.cells #[.int .u8 a.k, .string a.s, .int .i64 a.n, .slice a.p a.kids.len a.c] 24) := ⟨_, rfl⟩
  have hs3 : W3.heap.size = w.heap.size + 1 + 1 + 1 := by rw [hW3]; simp [hs]
  have h3 : BoxIs W2.heap.size a W3 := by rw [hW3]; exact BoxIs.new W2 a _
  have hB3 : Below W2.heap.size W2 W3 := by rw [hW3]; exact (Below.refl _ _).alloc (Nat.le_refl _) _
  rw [← hW3] at h
  have h4 : BoxIs W3.heap.size b W4 := by rw [h]; exact BoxIs.new W3 b _
  have hB4 : Below W3.heap.size W3 W4 := by rw [h]; exact (Below.refl _ _).alloc (Nat.le_refl _) _
  rw [hs] at h3
  rw [hs3] at h4
  exact ⟨h3.below hB4, h4, hB.trans ((hB3.trans (hB4.mono hB3.size)).mono hB.size)⟩

set_option maxHeartbeats 4000000 in
theorem Unify_any (S : Nat) (σ : Sb) (n : Nat) (w : World) (hS : SubAt S σ n w) (hn : n ≤ 900000) (a b : Nd) (hoka : a.ok) (hokb : b.ok) (hata : Ts.At w a.p a.kids) (hatb : Ts.At w b.p b.kids) (hsza : a.kids.size ≤ 5000) (hszb : b.kids.size ≤ 5000) :
    Calls Try.prog 34 #[.pointer (some ⟨S, 0, none⟩), .agg #[.int .u8 a.k, .string a.s, .int .i64 a.n, .slice a.p a.kids.len a.c], .agg #[.int .u8 b.k, .string b.s, .int .i64 b.n, .slice b.p b.kids.len b.c]] w (LRes σ n w [(a, b)]) := by
  have HS := Lib.hid hS
  have OKA := Lib.hid hoka
  have OKB := Lib.hid hokb
  have ATA := Lib.hid hata
  have ATB := Lib.hid hatb
  clear hS hoka hokb hata hatb
  go_enter Try.func34, Try.ntmps34
  go_wp2_with fail
  obtain ⟨W4, hW4⟩ : ∃ W4, W4 = (((w.alloc (.cells #[.int .u8 a.k, .string a.s, .int .i64 a.n, .slice a.p a.kids.len a.c] 24)).alloc (.cells #[.int .u8 b.k, .string b.s, .int .i64 b.n, .slice b.p b.kids.len b.c] 24)).alloc (.cells #[.int .u8 a.k, .string a.s, .int .i64 a.n, .slice a.p a.kids.len a.c] 24)).alloc (.cells #[.int .u8 b.k, .string b.s, .int .i64 b.n, .slice b.p b.kids.len b.c] 24) := ⟨_, rfl⟩
  rw [← hW4]
  obtain ⟨h2, h3, hB⟩ := boxes4 hW4
  clear hW4
  refine (Lists_any S σ n W4 (HS.out.below hB) hn _ (.cons a.k a.s a.n a.p a.c a.kids .nil) 1 _ (.cons b.k b.s b.n b.p b.c b.kids .nil) 1 rfl (ent_one h2 OKA.out (ATA.out.below hB) hsza) (ent_one h3 OKB.out (ATB.out.below hB) hszb)).mono ?_
  intro e w' hL
  have hR := hL.from_ hB
  obtain ⟨p, ok, g, he⟩ := hR.cases
  have HR : Hid (LRes σ n w [(a, b)] (.returned (.tuple #[.pointer p, .bool ok, .int .i64 g])) w') := Lib.hid (by rw [← he]; exact hR)
  subst he
  clear hL hR h2 h3 hB
  go_wp2_with fail
  exact bodyPost_ret (v := .tuple #[.pointer p, .bool ok, .int .i64 g]) (by simp [results, Try.results34, go_sem]) rfl HR.out

theorem UnifyNil_any (a b : Nd) (w : World) : Calls Try.prog 34 #[.pointer none, .agg #[.int .u8 a.k, .string a.s, .int .i64 a.n, .slice a.p a.kids.len a.c], .agg #[.int .u8 b.k, .string b.s, .int .i64 b.n, .slice b.p b.kids.len b.c]] w fun e w' => e = .returned (.tuple #[.pointer none, .bool false, .int .i64 2]) ∧ Below w.heap.size w w' := by
  go_enter Try.func34, Try.ntmps34
  go_wp2_with fail
  obtain ⟨W4, hW4⟩ : ∃ W4, W4 = (((w.alloc (.cells #[.int .u8 a.k, .string a.s, .int .i64 a.n, .slice a.p a.kids.len a.c] 24)).alloc (.cells #[.int .u8 b.k, .string b.s, .int .i64 b.n, .slice b.p b.kids.len b.c] 24)).alloc (.cells #[.int .u8 a.k, .string a.s, .int .i64 a.n, .slice a.p a.kids.len a.c] 24)).alloc (.cells #[.int .u8 b.k, .string b.s, .int .i64 b.n, .slice b.p b.kids.len b.c] 24) := ⟨_, rfl⟩
  rw [← hW4]
  obtain ⟨_, _, hB⟩ := boxes4 hW4
  have HB := Lib.hid hB
  clear hW4 hB
  refine (ListsNil_any _ 1 1 _ 1 1 W4).mono ?_
  rintro e w' ⟨rfl, hB'⟩
  have HB' := Lib.hid (HB.out.trans (hB'.mono HB.out.size))
  clear hB'
  go_wp2_with fail
  exact bodyPost_ret (v := .tuple #[.pointer none, .bool false, .int .i64 2]) (by simp [results, Try.results34, go_sem]) rfl ⟨rfl, HB'.out⟩

end Go.Proofs.Ytflomdnjabgnaaa
