import Derived.Test.YtflomdnjabgnaaaTc
import Derived.ProofKit
import Derived.SizedLaws
import Derived.ChangeBears2
import Derived.OpenShut
/-
  What a caller may hand in, opened: a term, a list of terms, a text, a number.
-/
namespace Go.Proofs.Ytflomdnjabgnaaa
open Go.ChangeShapes Go.WideShapes Go.ChangeAt Go.RowKit

theorem own : ownKnob Try.prog.godebug = none := by kernel_rfl
theorem laidOut : laidOutB Try.prog = true := by kernel_rfl

section
variable {H : Type} {enc : TypeId × Value → H}

theorem weights_le {l : List Nat} (h : l.all (· ≤ reachBytes) = true) : ∀ m ∈ l, m ≤ reachBytes := by simpa using h

theorem open_term {w : World} {v : Value} {d : DataW H} {p : List MemPlace} (hv : ∃ cs, v = .agg cs ∧ cs.size = Try.prog.cellsOf 24) (h : DataW.Trod enc Try.prog w 0 (fun _ => true) true 24 v d p)
    (hw : ∀ m ∈ d.weights Try.prog 24, m ≤ reachBytes) :
    ∃ (k : Int) (s : ByteArray) (n : Int) (p : Option Addr) (c : Nat) (ts : Ts), v = tv k s n p ts.len c ∧ Ts.At w p ts ∧ Ts.ok (.cons k s n p c ts .nil) := by
  obtain ⟨cs, rfl, hcs⟩ := hv
  obtain ⟨fuel, hf⟩ := h
  obtain ⟨k, s, n, v, y, m, _, hl, hk, hs, hn, hr, hwr⟩ := open_term_cells hf hw
  obtain ⟨p, ts, c, rfl, hat, hok, hc, hcap, hp⟩ := open_terms m hr hwr
  refine ⟨k, s, n, p, c, ts, ?_, hat, hk, hs, hn, ⟨hc, by omega⟩, hp, hok, trivial⟩
  have : cs.toList = [.int .u8 k, .string s, .int .i64 n, .slice p ts.len c] := by simpa [Value.cells] using hl
  unfold tv
  obtain ⟨l⟩ := cs
  simp only at this
  rw [this]

theorem open_list {w : World} {v : Value} {d : DataW H} {p : List MemPlace} (hv : ∃ a len cap, v = .slice a len cap) (h : DataW.Trod enc Try.prog w 0 (fun _ => true) true 22 v d p)
    (hw : ∀ m ∈ d.weights Try.prog 22, m ≤ reachBytes) :
    ∃ (p : Option Addr) (ts : Ts) (c : Nat), v = .slice p ts.len c ∧ Ts.At w p ts ∧ ts.ok ∧ (ts.len ≤ c ∧ c ≤ 9223372036854775807) ∧ (p = none → c = 0) := by
  obtain ⟨a, len, cap, rfl⟩ := hv
  obtain ⟨fuel, hf⟩ := h
  obtain ⟨p, ts, c, e, hat, hok, hc, hcap, hp⟩ := open_terms fuel (v := .slice a len cap) (by simpa [Value.cells] using hf) hw
  exact ⟨p, ts, c, e, hat, hok, ⟨hc, by omega⟩, hp⟩

theorem open_num {w : World} {v : Value} {d : DataW H} {p : List MemPlace} (hv : ∃ n, v = .int .i64 n) (h : DataW.Trod enc Try.prog w 0 (fun _ => true) true 2 v d p) :
    ∃ n, v = .int .i64 n ∧ (-9223372036854775808 ≤ n ∧ n ≤ 9223372036854775807) := by
  obtain ⟨n, rfl⟩ := hv
  obtain ⟨fuel, hf⟩ := h
  obtain ⟨n', e, _, w2⟩ := DataW.trod_int Try.underlying2 hf
  simp [Value.cells] at e
  subst e
  exact ⟨_, rfl, i64_of_wf w2⟩

theorem open_str {w : World} {v : Value} {d : DataW H} {p : List MemPlace} (hv : ∃ s, v = .string s) (h : DataW.Trod enc Try.prog w 0 (fun _ => true) true 9 v d p)
    (hw : ∀ m ∈ d.weights Try.prog 9, m ≤ reachBytes) :
    ∃ s, v = .string s ∧ s.size ≤ 140737488351232 := by
  obtain ⟨s, rfl⟩ := hv
  obtain ⟨fuel, hf⟩ := h
  obtain ⟨s', e, hx, _⟩ := DataW.trod_string Try.underlying9 hf
  simp [Value.cells] at e
  subst e
  refine ⟨_, rfl, ?_⟩
  simp only [Prod.mk.injEq] at hx
  have := hw s.data.toList.length (by rw [hx.1]; simp [DataW.weights])
  rw [reach_eq] at this
  simpa using this
end
end Go.Proofs.Ytflomdnjabgnaaa
