import Derived.Test.YtflomdnjabgnaaaTu
/-
  Small forms of contracts.
-/
namespace Go.Proofs.Ytflomdnjabgnaaa
open Go.RowKit

theorem numbers_at (zs ys : List Int) (n m : Nat) (hn : n = zs.length) (hm : m = ys.length) (w : World) (p p' : Option Addr) (c c' : Nat) (hlen : zs.length ≤ 1000000) (hlen' : ys.length ≤ 1000000) (hi : IsInts w p zs) (hi' : IsInts w p' ys) :
    Calls Try.prog 51 #[.slice p n c, .slice p' m c'] w fun e w' => e = .returned (.bool (decide (zs = ys))) ∧ ∃ q, w' = w.drewN q := by
  subst hn hm
  exact numbers_any zs ys w p p' c c' hlen hlen' hi hi'

theorem in_at (zs : List Int) (m : Nat) (hm : m = zs.length) (n : Int) (w : World) (p : Option Addr) (c : Nat) (hlen : zs.length ≤ 1000000) (hi : IsInts w p zs) :
    Calls Try.prog 55 #[.slice p m c, .int .i64 n] w fun e w' => e = .returned (.bool (decide (n ∈ zs))) ∧ w' = w := by
  subst hm
  exact in_any zs n w p c hlen hi

theorem IsInts.heap {w w' : World} {p : Option Addr} {zs : List Int} (h : IsInts w p zs) (hh : w'.heap = w.heap) : IsInts w' p zs := by
  obtain ⟨b, o, h1, h2⟩ := h
  refine ⟨b, o, h1, fun i hi => ?_⟩
  have := h2 i hi
  simp only [World.cell?] at this ⊢
  rw [hh]
  exact this

theorem in_is (w0 : World) (zs : List Int) (m : Nat) (n : Int) (b : Bool) (p : Option Addr) (c : Nat) (hm : m = zs.length) (hb : decide (n ∈ zs) = b) (hlen : zs.length ≤ 1000000) (hi : IsInts w0 p zs) (w : World) (hh : w.heap = w0.heap) :
    Calls Try.prog 55 #[.slice p m c, .int .i64 n] w fun e w' => e = .returned (.bool b) ∧ w' = w := by
  subst hb
  exact in_at zs m hm n w p c hlen (hi.heap hh)

theorem many_two (ka : Int) (sa : ByteArray) (na : Int) (pa : Option Addr) (ca : Nat) (ta : Ts) (kb : Int) (sb : ByteArray) (nb : Int) (pb : Option Addr) (cb : Nat) (tb : Ts)
    (h : decide (1000 < manyP (.cons ka sa na pa ca ta (.cons kb sb nb pb cb tb .nil)) 0) = false) : ta.size + tb.size + 2 ≤ 1000 := by
  have := small_of_many h
  simp only [Ts.size] at this
  omega

/-- a list of numbers that a call has told -/
def VarsOf (zs : List Int) (v : Value) (w : World) : Prop := ∃ p c, v = .slice p zs.length c ∧ IsInts w p zs ∧ zs.length ≤ c ∧ c ≤ 9223372036854775807

theorem VarsOf.below {zs : List Int} {v : Value} {w w' : World} (h : VarsOf zs v w) (hB : Below w.heap.size w w') : VarsOf zs v w' := by
  obtain ⟨p, c, h1, h2, h3⟩ := h
  exact ⟨p, c, h1, h2.below hB, h3⟩

/-- a slice of a block of terms -/
def ListOf (ts : Ts) (v : Value) (w : World) : Prop := ∃ b, v = .slice (some ⟨b, 0, none⟩) ts.len ts.len ∧ Ts.At w (some ⟨b, 0, none⟩) ts

theorem ListOf.below {ts : Ts} {v : Value} {w w' : World} (h : ListOf ts v w) (hB : Below w.heap.size w w') : ListOf ts v w' := by
  obtain ⟨b, h1, h2⟩ := h
  exact ⟨b, h1, h2.below hB⟩

theorem ListOf.one {k : Int} {s : ByteArray} {n : Int} {p : Option Addr} {c : Nat} {t : Ts} {w : World} (h : Ts.At w p t) (ty : TypeId) :
    ListOf (.cons k s n p c t .nil) (.slice (some ⟨w.heap.size, 0, none⟩) 1 1) (w.alloc (.cells #[.int .u8 k, .string s, .int .i64 n, .slice p t.len c] ty)) := by
  obtain ⟨W, hW, _, hB, hc⟩ := box1 w #[.int .u8 k, .string s, .int .i64 n, .slice p t.len c] ty
  rw [← hW]
  exact ⟨_, rfl, lies_one rfl hc (h.below hB)⟩

theorem ListOf.two {k : Int} {s : ByteArray} {n : Int} {p : Option Addr} {c : Nat} {t : Ts} {k' : Int} {s' : ByteArray} {n' : Int} {p' : Option Addr} {c' : Nat} {t' : Ts} {w : World} (h : Ts.At w p t) (h' : Ts.At w p' t') (ty : TypeId) :
    ListOf (.cons k s n p c t (.cons k' s' n' p' c' t' .nil)) (.slice (some ⟨w.heap.size, 0, none⟩) 2 2) (w.alloc (.cells #[.int .u8 k, .string s, .int .i64 n, .slice p t.len c, .int .u8 k', .string s', .int .i64 n', .slice p' t'.len c'] ty)) := by
  obtain ⟨W, hW, _, hB, hc⟩ := box1 w #[.int .u8 k, .string s, .int .i64 n, .slice p t.len c, .int .u8 k', .string s', .int .i64 n', .slice p' t'.len c'] ty
  rw [← hW]
  exact ⟨_, rfl, lies_two rfl hc (h.below hB) (h'.below hB)⟩

theorem vars_of {ts : Ts} (hbig : ts.size ≤ 900000) (hok : ts.ok) {v : Value} {w : World} (h : ListOf ts v w) :
    Calls Try.prog 30 #[v] w fun e w' => ∃ u, e = .returned u ∧ VarsOf (numsOf ((nodesOf ts).map Ts.mark)) u w' ∧ Below w.heap.size w w' := by
  obtain ⟨b, rfl, hat⟩ := h
  have hl := Ts.len_size ts
  refine (tvars_any ts hbig hok w _ _ ⟨Nat.le_refl _, by omega⟩ hat).mono ?_
  rintro e w' ⟨v, rfl, hrow, hB⟩
  obtain ⟨p, c, rfl, h1, h2⟩ := ints_of_row hrow
  exact ⟨_, rfl, ⟨p, c, rfl, h1, h2⟩, hB⟩

end Go.Proofs.Ytflomdnjabgnaaa
