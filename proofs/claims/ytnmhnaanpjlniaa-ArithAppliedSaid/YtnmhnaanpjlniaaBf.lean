import Derived.Test.YtnmhnaanpjlniaaEi
import Derived.Test.YtnmhnaanpjlniaaAy
import Derived.Test.YtnmhnaanpjlniaaTc
import Derived.ProofKit
import Derived.SizedLaws
import Derived.ChangeBears2
import Derived.OpenShut
/-
  Layer 13: the law ArithApplied: its plain facts.
-/
namespace Go.Proofs.Ytnmhnaanpjlniaa
open Go.RowKit

/-- taken negative -/
def negN (x : Nd) : Nd := ⟨4, ⟨#[45]⟩, 0, none, 0, .cons x.k x.s x.n x.p x.c x.kids .nil⟩

theorem rk_neg (σ : Sb) (f r : Nat) (x : Nd) (hr : 0 < r) : rk σ (f + 1) r (negN x) = rkOp (rk σ f) (r - 1) (some 6) [x] := by
  have hw : wk σ (negN x) = negN x := wk_stop (.inl rfl)
  have ho : opOf (negN x) = some 6 := by
    unfold opOf
    rw [if_pos (by rfl)]
    show opIdx (funKey (opSyms 6) (opAr 6)) = some 6
    exact opIdx_self 6 (by decide)
  rw [rk_succ, hw, if_neg (by omega), if_neg (by simp [negN]), if_neg (by simp [negN]), ho]
  rfl

theorem rkOp_bad {rec : Nat → Nd → (Int × Int) × Nat} {r j : Nat} {a : Nd} (h : (rec r a).1.2 ≠ 0) : rkOp rec r (some j) [a] = ((0, (rec r a).1.2), (rec r a).2) := by
  simp only [rkOp]
  rw [if_pos h]
theorem rkOp_good {rec : Nat → Nd → (Int × Int) × Nat} {r j : Nat} {a : Nd} (h : (rec r a).1.2 = 0) : rkOp rec r (some j) [a] = (opR j 0 (rec r a).1.1, (rec r a).2) := by
  simp only [rkOp]
  rw [if_neg (by simpa using h)]

theorem third_is {σ : Sb} {t : Nd} {R : Int × Int} (hR : R = (rk σ 4096 4096 t).1) (h64 : isI64 R.1) :
    (rk σ 4096 4096 (negN (negN t))).1 = (0, 31) ∨ (R.2 ≠ 0 ∧ (rk σ 4096 4096 (negN (negN t))).1 = (0, R.2)) ∨ (R.2 = 0 ∧ R.1 ≠ -9223372036854775808 ∧ (rk σ 4096 4096 (negN (negN t))).1 = (R.1, 0)) ∨ (R.2 = 0 ∧ R.1 = -9223372036854775808 ∧ (rk σ 4096 4096 (negN (negN t))).1 = (0, 22)) := by
  have h1 := rk_neg σ 4095 4096 (negN t) (by omega)
  have h2 := rk_neg σ 4094 4095 t (by omega)
  have h3 : Less 2 (rk σ 4094 (4095 - 1) t) (rk σ 4096 4096 t) := rk_less σ 4094 4094 4096 2 t rfl
  obtain ⟨T, hT⟩ : ∃ T, T = (rk σ 4096 4096 (negN (negN t))).1 := ⟨_, rfl⟩
  have h1' : T = (rkOp (rk σ 4095) (4096 - 1) (some 6) [negN t]).1 := by rw [hT]; exact congrArg Prod.fst h1
  rw [← hT]
  clear h1 hT
  by_cases hp : (rk σ 4094 (4095 - 1) t).1.2 = 0
  · rw [rkOp_good hp] at h2
    rcases h3 with h4 | ⟨h4, _⟩
    · rw [h4] at hp; cases hp
    · rw [← hR] at h4
      rw [h4] at h2 hp
      unfold isI64 at h64
      by_cases hm : R.1 = -9223372036854775808
      · refine .inr (.inr (.inr ⟨hp, hm, ?_⟩))
        have e : opR 6 0 R.1 = (0, 22) := by simp only [opR, minusR]; rw [if_neg (by omega)]
        rw [e] at h2
        rw [rkOp_bad (by rw [show (4096 - 1 : Nat) = 4095 from rfl, show rk σ 4095 4095 (negN t) = rk σ (4094 + 1) 4095 (negN t) from rfl, h2]; simp)] at h1'
        rw [h1', show (4096 - 1 : Nat) = 4095 from rfl, show rk σ 4095 4095 (negN t) = rk σ (4094 + 1) 4095 (negN t) from rfl, h2]
      · refine .inr (.inr (.inl ⟨hp, hm, ?_⟩))
        have e : opR 6 0 R.1 = (-R.1, 0) := by simp only [opR, minusR]; rw [if_pos (by omega), Int.zero_sub]
        rw [e] at h2
        rw [rkOp_good (by rw [show (4096 - 1 : Nat) = 4095 from rfl, show rk σ 4095 4095 (negN t) = rk σ (4094 + 1) 4095 (negN t) from rfl, h2])] at h1'
        rw [h1', show (4096 - 1 : Nat) = 4095 from rfl, show rk σ 4095 4095 (negN t) = rk σ (4094 + 1) 4095 (negN t) from rfl, h2]
        simp only [opR, minusR]
        rw [if_pos (by omega)]
        simp
  · rw [rkOp_bad hp] at h2
    rw [rkOp_bad (by rw [show (4096 - 1 : Nat) = 4095 from rfl, show rk σ 4095 4095 (negN t) = rk σ (4094 + 1) 4095 (negN t) from rfl, h2]; exact hp)] at h1'
    rw [show (4096 - 1 : Nat) = 4095 from rfl, show rk σ 4095 4095 (negN t) = rk σ (4094 + 1) 4095 (negN t) from rfl, h2] at h1'
    rcases h3 with h4 | ⟨h4, _⟩
    · rw [h4] at h1'; exact .inl h1'
    · rw [← hR] at h4
      rw [h4] at h1' hp
      exact .inr (.inl ⟨hp, h1'⟩)

theorem bGreat_1000 {l : List (Int × Nd)} {t : Nd} (h : bGreat l t = false) : t.kids.size ≤ 1000 := by
  unfold bGreat at h
  by_cases h40 : 40 < l.length
  · rw [if_pos h40] at h; cases h
  · rw [if_neg h40] at h
    have := small_of_many (ts := .cons t.k t.s t.n t.p t.c t.kids (bsTs l)) (by simpa using h)
    simp only [Ts.size] at this
    omega

theorem third_made {σ : Sb} (hE : Ends σ) {t : Nd} {q1 q2 : Option Addr} {d1 d2 : Nat} {us1 us2 : Ts} (h1 : Ts.twin us1 (.cons t.k t.s t.n t.p t.c t.kids .nil)) (h2 : Ts.twin us2 (.cons 4 ⟨#[45]⟩ 0 q1 d1 us1 .nil)) : rk σ 4096 4096 ⟨4, ⟨#[45]⟩, 0, q2, d2, us2⟩ = rk σ 4096 4096 (negN (negN t)) :=
  rk_tw (STw.refl σ) hE 4096 4096 ⟨rfl, rfl, rfl, twin_trans h2 ⟨rfl, rfl, rfl, h1, trivial⟩⟩

theorem oneAtN {w W : World} {k : Int} {s : ByteArray} {n : Int} {p : Option Addr} {c : Nat} {ks : Ts} (h : W = w.alloc (.cells #[.int .u8 k, .string s, .int .i64 n, .slice p ks.len c] 25)) (hat : Ts.At w p ks) : Below w.heap.size w W ∧ Ts.At W (some ⟨w.heap.size, 0, none⟩) (.cons k s n p c ks .nil) := by
  obtain ⟨W', hW, _, hB, hc⟩ := box1 w #[.int .u8 k, .string s, .int .i64 n, .slice p ks.len c] 25
  rw [← hW] at h
  subst h
  exact ⟨hB, lies_one rfl hc (hat.below hB)⟩

/-- what Apply tells -/
def ApG (σ : Sb) (t X : Nd) (G : Int) (w : World) : Prop :=
  ((vis σ 4097 [t]).length = 4097 ∧ X = ⟨0, ⟨#[]⟩, 0, none, 0, .nil⟩ ∧ G = 31) ∨ ((vis σ 4097 [t]).length ≤ 4096 ∧ G = 0 ∧ Ap σ t X ∧ Ts.At w X.p X.kids)

theorem ApG.below {σ : Sb} {t X : Nd} {G : Int} {w w' : World} (h : ApG σ t X G w) (hB : Below w.heap.size w w') : ApG σ t X G w' := by
  rcases h with h | ⟨h1, h2, h3, h4⟩
  · exact .inl h
  · exact .inr ⟨h1, h2, h3, h4.below hB⟩

theorem Applied.formG {σ : Sb} {t : Nd} {B : Nat} {e : Ending} {w' : World} (h : Applied σ t B e w') : ∃ (X : Nd) (G : Int), e = .returned (.tuple #[.agg #[.int .u8 X.k, .string X.s, .int .i64 X.n, .slice X.p X.kids.len X.c], .int .i64 G]) ∧ ApG σ t X G w' := by
  rcases h.cases with ⟨h1, h2⟩ | ⟨h1, X, h2, h3, h4⟩
  · exact ⟨⟨0, ⟨#[]⟩, 0, none, 0, .nil⟩, 31, h2, .inl ⟨h1, rfl, rfl⟩⟩
  · exact ⟨X, 0, h2, .inr ⟨h1, rfl, h3, h4.at⟩⟩

end Go.Proofs.Ytnmhnaanpjlniaa
/-
  What a caller may hand in, opened: a term, a list of terms, a text, a number.
-/
namespace Go.Proofs.Ytnmhnaanpjlniaa
open Go.ChangeShapes Go.WideShapes Go.ChangeAt Go.RowKit

theorem own : ownKnob Try.prog.godebug = none := by kernel_rfl
theorem laidOut : laidOutB Try.prog = true := by kernel_rfl

section
variable {H : Type} {enc : TypeId × Value → H}

theorem weights_le {l : List Nat} (h : l.all (· ≤ reachBytes) = true) : ∀ m ∈ l, m ≤ reachBytes := by simpa using h

theorem open_term {w : World} {v : Value} {d : DataW H} {p : List MemPlace} (hv : ∃ cs, v = .agg cs ∧ cs.size = Try.prog.cellsOf 25) (h : DataW.Trod enc Try.prog w 0 (fun _ => true) true 25 v d p)
    (hw : ∀ m ∈ d.weights Try.prog 25, m ≤ reachBytes) :
    ∃ (k : Int) (s : ByteArray) (n : Int) (p : Option Addr) (c : Nat) (ts : Ts), v = tv k s n p ts.len c ∧ Ts.At w p ts ∧ Ts.ok (.cons k s n p c ts .nil) := by
  obtain ⟨cs, rfl, hcs⟩ := hv
  obtain ⟨fuel, hf⟩ := h
  obtain ⟨k, s, n, v, y, m, _, hl, hk, hs, hn, hr, hwr⟩ := open_term_cells hf hw
  obtain ⟨p, ts, c, rfl, hat, hok, hc, hcap, hp⟩ := open_terms m hr hwr
  refine ⟨k, s, n, p, c, ts, ?_, hat, hk, hs, hn, ⟨hc, by omega⟩, hp, hok, trivial⟩
  have : cs.toList = [.int .u8 k, .string s, .int .i64 n, .slice p ts.len c] := by simpa [Value.cells] using hl
  unfold tv
  obtain ⟨l⟩ := cs
  simp only at this
  rw [this]

theorem open_list {w : World} {v : Value} {d : DataW H} {p : List MemPlace} (hv : ∃ a len cap, v = .slice a len cap) (h : DataW.Trod enc Try.prog w 0 (fun _ => true) true 23 v d p)
    (hw : ∀ m ∈ d.weights Try.prog 23, m ≤ reachBytes) :
    ∃ (p : Option Addr) (ts : Ts) (c : Nat), v = .slice p ts.len c ∧ Ts.At w p ts ∧ ts.ok ∧ (ts.len ≤ c ∧ c ≤ 9223372036854775807) ∧ (p = none → c = 0) := by
  obtain ⟨a, len, cap, rfl⟩ := hv
  obtain ⟨fuel, hf⟩ := h
  obtain ⟨p, ts, c, e, hat, hok, hc, hcap, hp⟩ := open_terms fuel (v := .slice a len cap) (by simpa [Value.cells] using hf) hw
  exact ⟨p, ts, c, e, hat, hok, ⟨hc, by omega⟩, hp⟩

theorem open_num {w : World} {v : Value} {d : DataW H} {p : List MemPlace} (hv : ∃ n, v = .int .i64 n) (h : DataW.Trod enc Try.prog w 0 (fun _ => true) true 2 v d p) :
    ∃ n, v = .int .i64 n ∧ (-9223372036854775808 ≤ n ∧ n ≤ 9223372036854775807) := by
  obtain ⟨n, rfl⟩ := hv
  obtain ⟨fuel, hf⟩ := h
  obtain ⟨n', e, _, w2⟩ := DataW.trod_int Try.underlying2 hf
  simp [Value.cells] at e
  subst e
  exact ⟨_, rfl, i64_of_wf w2⟩

theorem open_str {w : World} {v : Value} {d : DataW H} {p : List MemPlace} (hv : ∃ s, v = .string s) (h : DataW.Trod enc Try.prog w 0 (fun _ => true) true 9 v d p)
    (hw : ∀ m ∈ d.weights Try.prog 9, m ≤ reachBytes) :
    ∃ s, v = .string s ∧ s.size ≤ 140737488351232 := by
  obtain ⟨s, rfl⟩ := hv
  obtain ⟨fuel, hf⟩ := h
  obtain ⟨s', e, hx, _⟩ := DataW.trod_string Try.underlying9 hf
  simp [Value.cells] at e
  subst e
  refine ⟨_, rfl, ?_⟩
  simp only [Prod.mk.injEq] at hx
  have := hw s.data.toList.length (by rw [hx.1]; simp [DataW.weights])
  rw [reach_eq] at this
  simpa using this
end
end Go.Proofs.Ytnmhnaanpjlniaa
/-
  What a caller may hand in, opened: a list of bindings.
-/
namespace Go.Proofs.Ytnmhnaanpjlniaa
open Go.ChangeShapes Go.WideShapes Go.ChangeAt Go.RowKit

section
variable {H : Type} {enc : TypeId × Value → H} {base : Nat} {hd : Bool}

theorem cellsBind : Try.prog.cellsOf 62 = 5 := by kernel_rfl
theorem bytesBind : Try.prog.bytesOf 62 = 64 := by kernel_rfl

set_option maxRecDepth 4000 in
theorem open_bind_cells {w : World} {fuel : Nat} {cs : List Value} {x : DataW H × List MemPlace} (h : DataW.trod enc Try.prog w base (fun _ => true) hd fuel 62 cs = some x)
    (hw : ∀ m ∈ x.1.weights Try.prog 62, m ≤ reachBytes) :
    ∃ (v : Int) (y : Nd), cs = [.int .i64 v, .int .u8 y.k, .string y.s, .int .i64 y.n, .slice y.p y.kids.len y.c] ∧ (-9223372036854775808 ≤ v ∧ v ≤ 9223372036854775807) ∧ Ts.At w y.p y.kids ∧ y.ok := by
  obtain ⟨xs, m, rfl, rfl, hl, hlen, hf⟩ := DataW.trod_struct Try.underlying62 h
  rw [cellsBind] at hl
  match cs, hl with
  | [c0, c1, c2, c3, c4], _ =>
    match xs, hlen with
    | [x0, x1], _ =>
      have f0 : DataW.trod enc Try.prog w base (fun _ => true) hd m 2 [c0] = some x0 := by have := hf 0 _ rfl; simpa [cellsI64] using this
      have f1 : DataW.trod enc Try.prog w base (fun _ => true) hd m 25 [c1, c2, c3, c4] = some x1 := by have := hf 1 _ rfl; simpa [cellsI64, cellsTerm] using this
      obtain ⟨n, e0, _, w0⟩ := DataW.trod_int Try.underlying2 f0
      simp only [List.cons.injEq, and_true] at e0
      subst e0
      have hin : ∀ q, q ∈ DataW.weightsEach Try.prog [2, 25] [x0.1, x1.1] → q ≤ reachBytes := fun q hq => by
        refine hw q ?_
        simp only [List.map_cons, List.map_nil, DataW.weights, Try.underlying62]
        exact hq
      obtain ⟨k, s, m', v', y', f, hf, e, hk, hs, hm', hkid, hkw⟩ := open_term_cells f1 (fun q hq => hin q (DataW.weights_mem_each (j := 1) rfl rfl q hq))
      obtain ⟨p, ks, kc, rfl, hat, hok, hkl, hkc, hpn⟩ := open_terms f hkid hkw
      exact ⟨n, ⟨k, s, m', p, kc, ks⟩, by rw [e], i64_of_wf w0, hat, hk, hs, hm', ⟨hkl, by simp only; omega⟩, hpn, hok, trivial⟩

set_option maxRecDepth 100000 in
/-- whatever reads as a list of bindings lies as one -/
theorem open_binds {w : World} {fuel : Nat} {v : Value} {x : DataW H × List MemPlace} (h : DataW.trod enc Try.prog w base (fun _ => true) hd fuel 22 [v] = some x)
    (hw : ∀ m ∈ x.1.weights Try.prog 22, m ≤ reachBytes) :
    ∃ (p : Option Addr) (l : List (Int × Nd)) (cap : Nat), v = .slice p l.length cap ∧ BsAt w p l ∧ (bsTs l).ok ∧ l.length ≤ 9223372036854775807 ∧ ∀ e ∈ l, -9223372036854775808 ≤ e.1 ∧ e.1 ≤ 9223372036854775807 := by
  rcases DataW.trod_slice Try.underlying22 h with ⟨hcs, rfl⟩ | ⟨a, len, cap, elems, rest, n, rfl, hcs, rfl, hb, hl, hm, hlen, hel, hsp, _⟩
  · simp only [List.cons.injEq, and_true] at hcs
    subst hcs
    exact ⟨none, [], 0, rfl, ⟨0, 0, .inl rfl, trivial⟩, trivial, by simp, fun e he => by cases he⟩
  · simp only [List.cons.injEq, and_true] at hcs
    subst hcs
    have hrest := (hsp rfl).1
    have hW : ∀ q, q ∈ ((elems.map (·.1)).length + (rest.map (·.1)).length) * 64 :: (DataW.weightsAll Try.prog 62 (elems.map (·.1)) ++ DataW.weightsAll Try.prog 62 (rest.map (·.1))) → q ≤ reachBytes := fun q hq => by
      refine hw q ?_
      simp only [DataW.weights, Try.underlying22, bytesBind]
      exact hq
    have hcap : cap * 64 ≤ 140737488351232 := by
      have h1 := hW _ (List.mem_cons_self ..)
      simp only [List.length_map, hlen, hrest] at h1
      rw [reach_eq] at h1
      rw [show len + (cap - len) = cap from by omega] at h1
      exact h1
    have hspot0 : 0 < len → a.spot = none := fun h0 => by
      have hi := hel 0 h0
      have hlt : 0 < elems.length := by omega
      rw [List.getElem?_eq_getElem hlt] at hi
      obtain ⟨cs, hcs, _⟩ := Option.bind_eq_some_iff.1 hi
      rw [cellsBind] at hcs
      obtain ⟨_, hcl, hcell⟩ := World.cells?_some hcs
      have h1 := hcell 0 (by omega)
      rw [List.getElem?_eq_getElem (by omega)] at h1
      have h2 := World.cell?_spot h1
      simpa [Addr.add] using h2
    have build : ∀ j, j ≤ len → ∃ l : List (Int × Nd), l.length = j ∧ BsLies w a.block (a.off + 5 * (len - j)) l ∧ (bsTs l).ok ∧ (l = [] ∨ a.spot = none) ∧ ∀ e ∈ l, -9223372036854775808 ≤ e.1 ∧ e.1 ≤ 9223372036854775807 := by
      intro j
      induction j with
      | zero => exact fun _ => ⟨[], rfl, trivial, trivial, .inl rfl, fun e he => by cases he⟩
      | succ j ihj =>
        intro hj
        obtain ⟨l, h1, h2, h3, _, h5⟩ := ihj (by omega)
        have hi := hel (len - (j + 1)) (by omega)
        have hget : ∃ y, elems[len - (j + 1)]? = some y ∧ y ∈ elems := by
          have hlt : len - (j + 1) < elems.length := by omega
          exact ⟨elems[len - (j + 1)], List.getElem?_eq_getElem hlt, List.getElem_mem hlt⟩
        obtain ⟨y, hy, hmem⟩ := hget
        rw [hy] at hi
        obtain ⟨cs, hcs, hread⟩ := Option.bind_eq_some_iff.1 hi
        rw [cellsBind] at hcs
        obtain ⟨_, hcl, hcell⟩ := World.cells?_some hcs
        obtain ⟨v, z, rfl, hv, hat, hok⟩ := open_bind_cells hread (fun q hq => hW q (List.mem_cons_of_mem _ (List.mem_append_left _ (weights_all (List.mem_map.2 ⟨y, hmem, rfl⟩) q hq))))
        have hspot := hspot0 (by omega)
        obtain ⟨b, off, spot⟩ := a
        simp only at hspot
        subst hspot
        have c0 := hcell 0 (by omega)
        have c1 := hcell 1 (by omega)
        have c2 := hcell 2 (by omega)
        have c3 := hcell 3 (by omega)
        have c4 := hcell 4 (by omega)
        simp only [add_plain, List.getElem?_cons_zero, List.getElem?_cons_succ] at c0 c1 c2 c3 c4
        have eo : off + (len - (j + 1)) * 5 = off + 5 * (len - (j + 1)) := by omega
        rw [eo] at c0 c1 c2 c3 c4
        refine ⟨(v, z) :: l, by simp [h1], ⟨c0, c1, c2, c3, c4, hat, ?_⟩, ⟨hok.1, hok.2.1, hok.2.2.1, hok.2.2.2.1, hok.2.2.2.2.1, hok.2.2.2.2.2.1, h3⟩, .inr rfl, fun e he => ?_⟩
        · rw [show off + 5 * (len - (j + 1)) + 5 = off + 5 * (len - j) from by omega]
          exact h2
        · rcases List.mem_cons.1 he with rfl | he
          · exact hv
          · exact h5 e he
    obtain ⟨l, h1, h2, h3, h4, h5⟩ := build len (Nat.le_refl _)
    refine ⟨some a, l, cap, by rw [h1], ?_, h3, by omega, h5⟩
    rcases h4 with rfl | h4
    · exact ⟨0, 0, .inl rfl, trivial⟩
    · obtain ⟨b, off, spot⟩ := a
      simp only at h4
      subst h4
      rw [show off + 5 * (len - len) = off from by omega] at h2
      exact ⟨b, off, .inr rfl, h2⟩

theorem open_bs {w : World} {v : Value} {d : DataW H} {p : List MemPlace} (hv : ∃ a len cap, v = .slice a len cap) (h : DataW.Trod enc Try.prog w 0 (fun _ => true) true 22 v d p)
    (hw : ∀ m ∈ d.weights Try.prog 22, m ≤ reachBytes) :
    ∃ (p : Option Addr) (l : List (Int × Nd)) (c : Nat), v = .slice p l.length c ∧ BsAt w p l ∧ (bsTs l).ok ∧ l.length ≤ 9223372036854775807 ∧ ∀ e ∈ l, -9223372036854775808 ≤ e.1 ∧ e.1 ≤ 9223372036854775807 := by
  obtain ⟨a, len, cap, rfl⟩ := hv
  obtain ⟨fuel, hf⟩ := h
  exact open_binds (by simpa [Value.cells] using hf) hw
end

end Go.Proofs.Ytnmhnaanpjlniaa
