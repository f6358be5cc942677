import Derived.Test.YtflomdnjabgnaaaTs
/-
  What Vars returns as a list of numbers; lists of numbers, each once.
-/
namespace Go.Proofs.Ytflomdnjabgnaaa
open Go.RowKit

theorem ints_of_row {w : World} {base : Nat} {v : Value} {zs : List Int} (h : w.ownsRow base 2 1 v zs.length (zs.map (Value.int .i64))) : ∃ p c, v = .slice p zs.length c ∧ IsInts w p zs ∧ zs.length ≤ c ∧ c ≤ 9223372036854775807 := by
  rcases h.2 with ⟨rfl, h0⟩ | ⟨g, cap, cur, rfl, _, hg, hn, hc, hs, ht⟩
  · exact ⟨none, 0, by rw [h0], ⟨0, 0, .inl (List.length_eq_zero_iff.1 h0), fun i hi => by omega⟩, by omega, by omega⟩
  · refine ⟨some ⟨g, 0, none⟩, cap, rfl, ⟨g, 0, .inr rfl, fun i hi => ?_⟩, hn, by unfold maxLen at hc; omega⟩
    have h1 : (cur.toList.take (zs.length * 1))[i]? = some (.int .i64 zs[i]) := by rw [ht]; simp [hi]
    rw [List.getElem?_take_of_lt (by omega)] at h1
    rw [Array.getElem?_toList] at h1
    simp only [World.cell?, hg, Nat.zero_add]
    exact h1

theorem IsInts.stay {w w' : World} {p : Option Addr} {zs : List Int} (h : IsInts w p zs) (hc : ∀ b o, b < w.heap.size → w'.cell? ⟨b, o, none⟩ = w.cell? ⟨b, o, none⟩) : IsInts w' p zs := by
  obtain ⟨b, o, h1, h2⟩ := h
  exact ⟨b, o, h1, fun i hi => (hc _ _ (World.block_lt_of_cell? _ _ (h2 i hi))).trans (h2 i hi)⟩

theorem IsInts.below {w w' : World} {p : Option Addr} {zs : List Int} (h : IsInts w p zs) (hB : Below w.heap.size w w') : IsInts w' p zs := h.stay (stays hB).1

theorem IsInts.take {w : World} {p : Option Addr} {zs : List Int} (h : IsInts w p zs) (n : Nat) : IsInts w p (zs.take n) := by
  obtain ⟨b, o, h1, h2⟩ := h
  refine ⟨b, o, ?_, fun i hi => ?_⟩
  · rcases h1 with rfl | h1
    · exact .inl (by simp)
    · exact .inr h1
  · rw [List.length_take] at hi
    rw [List.getElem_take]
    exact h2 i (by omega)

theorem newNums_pre : ∀ (m : List (Int × Int)) (acc : List Int), ∃ r, m.foldl newNum acc = acc ++ r
  | [], acc => ⟨[], by simp⟩
  | x :: m, acc => by
    obtain ⟨r, hr⟩ := newNums_pre m (newNum acc x)
    have h2 : ∃ r2, newNum acc x = acc ++ r2 := by
      unfold newNum
      split
      · split
        · exact ⟨[], by simp⟩
        · exact ⟨_, rfl⟩
      · exact ⟨[], by simp⟩
    obtain ⟨r2, h2⟩ := h2
    exact ⟨r2 ++ r, by rw [List.foldl_cons, hr, h2, List.append_assoc]⟩

theorem newNum_mem (acc : List Int) (x : Int × Int) (n : Int) : n ∈ newNum acc x ↔ n ∈ acc ∨ ((x.1 == 1) = true ∧ n = x.2) := by
  unfold newNum
  by_cases h : (x.1 == 1) = true
  · rw [if_pos h]
    by_cases h2 : acc.contains x.2 = true
    · rw [if_pos h2]
      refine ⟨.inl, ?_⟩
      rintro (h3 | ⟨_, rfl⟩)
      · exact h3
      · simpa using h2
    · rw [if_neg h2]
      simp [h]
  · rw [if_neg h]
    simp [h]

theorem newNums_mem : ∀ (m : List (Int × Int)) (acc : List Int) (n : Int), n ∈ m.foldl newNum acc ↔ n ∈ acc ∨ ∃ x ∈ m, (x.1 == 1) = true ∧ n = x.2
  | [], acc, n => by simp
  | x :: m, acc, n => by
    rw [List.foldl_cons, newNums_mem m, newNum_mem]
    constructor
    · rintro ((h | h) | ⟨y, hy, h⟩)
      · exact .inl h
      · exact .inr ⟨x, by simp, h⟩
      · exact .inr ⟨y, by simp [hy], h⟩
    · rintro (h | ⟨y, hy, h⟩)
      · exact .inl (.inl h)
      · rcases List.mem_cons.1 hy with rfl | hy
        · exact .inl (.inr h)
        · exact .inr ⟨y, hy, h⟩

theorem newNums_nodup : ∀ (m : List (Int × Int)) (acc : List Int), acc.Nodup → (m.foldl newNum acc).Nodup
  | [], _, h => h
  | x :: m, acc, h => by
    rw [List.foldl_cons]
    refine newNums_nodup m _ ?_
    unfold newNum
    split
    · split
      · exact h
      · rename_i h2
        rw [List.nodup_append]
        refine ⟨h, by simp, ?_⟩
        intro a ha b hb e
        simp only [List.mem_singleton] at hb
        subst hb e
        exact h2 (by simpa using ha)
    · exact h

theorem numsOf_pre (l m : List (Int × Int)) : ∃ r, numsOf (l ++ m) = numsOf l ++ r := by
  obtain ⟨r, hr⟩ := newNums_pre m (numsOf l)
  exact ⟨r, by rw [← hr, numsOf, numsOf, List.foldl_append]⟩

theorem numsOf_mem (l : List (Int × Int)) (n : Int) : n ∈ numsOf l ↔ ∃ x ∈ l, (x.1 == 1) = true ∧ n = x.2 := by
  rw [numsOf, newNums_mem]; simp

theorem numsOf_nodup (l : List (Int × Int)) : (numsOf l).Nodup := newNums_nodup l [] (by simp)

theorem numsOf_nil (l : List (Int × Int)) : (l.all fun x => !(x.1 == 1)) = ((numsOf l).length == 0) := by
  rw [Bool.eq_iff_iff]
  simp only [List.all_eq_true, beq_iff_eq, List.length_eq_zero_iff, Bool.not_eq_true']
  constructor
  · intro h
    cases hn : numsOf l with
    | nil => rfl
    | cons a r =>
      obtain ⟨x, hx, h1, _⟩ := (numsOf_mem l a).1 (by rw [hn]; simp)
      rw [h x hx] at h1; cases h1
  · intro h x hx
    cases hb : (x.1 == 1) with
    | false => rfl
    | true =>
      have : x.2 ∈ numsOf l := (numsOf_mem l x.2).2 ⟨x, hx, hb, rfl⟩
      rw [h] at this; cases this

/-- those of a list, each once, behind others -/
def addNum (acc : List Int) (n : Int) : List Int := if acc.contains n then acc else acc ++ [n]

theorem newNum_old {acc : List Int} {x : Int × Int} (h : (x.1 == 1) = true) (h2 : acc.contains x.2 = true) : newNum acc x = acc := by rw [newNum, if_pos h, if_pos h2]
theorem newNum_new {acc : List Int} {x : Int × Int} (h : (x.1 == 1) = true) (h2 : ¬ acc.contains x.2 = true) : newNum acc x = acc ++ [x.2] := by rw [newNum, if_pos h, if_neg h2]
theorem newNum_no {acc : List Int} {x : Int × Int} (h : ¬ (x.1 == 1) = true) : newNum acc x = acc := by rw [newNum, if_neg h]

theorem addNums_numsOf (m : List (Int × Int)) (acc : List Int) : (numsOf m).foldl addNum acc = m.foldl newNum acc := by
  have key : ∀ (r : List (Int × Int)), (numsOf r.reverse).foldl addNum acc = r.reverse.foldl newNum acc := by
    intro r
    induction r with
    | nil => rfl
    | cons x r ih =>
      rw [List.reverse_cons, numsOf, List.foldl_append, List.foldl_append]
      show (newNum (numsOf r.reverse) x).foldl addNum acc = newNum (r.reverse.foldl newNum acc) x
      by_cases h : (x.1 == 1) = true
      · by_cases h2 : (numsOf r.reverse).contains x.2 = true
        · have h3 : x.2 ∈ r.reverse.foldl newNum acc := (newNums_mem _ _ _).2 (.inr ((numsOf_mem _ _).1 (by simpa using h2)))
          rw [newNum_old h h2, newNum_old h (by simpa using h3), ih]
        · rw [newNum_new h h2, List.foldl_append, ih]
          show addNum _ x.2 = _
          rw [newNum, if_pos h]
          rfl
      · rw [newNum_no h, newNum_no h, ih]
  have := key m.reverse
  rwa [List.reverse_reverse] at this

theorem nodesOf_two (k : Int) (s : ByteArray) (n : Int) (p : Option Addr) (c : Nat) (kids rest : Ts) : nodesOf (.cons k s n p c kids rest) = nodesOf (.cons k s n p c kids .nil) ++ nodesOf rest := by
  simp [nodesOf]

/-- a list's first element alone, and the rest behind -/
theorem lies_two {w : World} {b : Nat} {k1 : Int} {s1 : ByteArray} {n1 : Int} {p1 : Option Addr} {c1 : Nat} {t1 : Ts} {k2 : Int} {s2 : ByteArray} {n2 : Int} {p2 : Option Addr} {c2 : Nat} {t2 : Ts} {A : Array Value}
    (hA : A = #[.int .u8 k1, .string s1, .int .i64 n1, .slice p1 t1.len c1, .int .u8 k2, .string s2, .int .i64 n2, .slice p2 t2.len c2]) (hc : ∀ i u, A[i]? = some u → w.cell? ⟨b, i, none⟩ = some u) (h1 : Ts.At w p1 t1) (h2 : Ts.At w p2 t2) :
    Ts.At w (some ⟨b, 0, none⟩) (.cons k1 s1 n1 p1 c1 t1 (.cons k2 s2 n2 p2 c2 t2 .nil)) := by
  subst hA
  exact ⟨b, 0, .inr rfl, hc 0 _ rfl, hc 1 _ rfl, hc 2 _ rfl, hc 3 _ rfl, h1, hc 4 _ rfl, hc 5 _ rfl, hc 6 _ rfl, hc 7 _ rfl, h2, trivial⟩

theorem lies_one {w : World} {b : Nat} {k1 : Int} {s1 : ByteArray} {n1 : Int} {p1 : Option Addr} {c1 : Nat} {t1 : Ts} {A : Array Value}
    (hA : A = #[.int .u8 k1, .string s1, .int .i64 n1, .slice p1 t1.len c1]) (hc : ∀ i u, A[i]? = some u → w.cell? ⟨b, i, none⟩ = some u) (h1 : Ts.At w p1 t1) :
    Ts.At w (some ⟨b, 0, none⟩) (.cons k1 s1 n1 p1 c1 t1 .nil) := by
  subst hA
  exact ⟨b, 0, .inr rfl, hc 0 _ rfl, hc 1 _ rfl, hc 2 _ rfl, hc 3 _ rfl, h1, trivial⟩

end Go.Proofs.Ytflomdnjabgnaaa
