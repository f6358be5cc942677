import Derived.Test.YtnmhnaanpjlniaaTs
import Derived.Deep.RegionWith
/-
  What Vars returns as a list of numbers; lists of numbers, each once.
-/
namespace Go.Proofs.Ytnmhnaanpjlniaa
open Go.RowKit

theorem ints_of_row {w : World} {base : Nat} {v : Value} {zs : List Int} (h : w.ownsRow base 2 1 v zs.length (zs.map (Value.int .i64))) : ∃ p c, v = .slice p zs.length c ∧ IsInts w p zs ∧ zs.length ≤ c ∧ c ≤ 9223372036854775807 := by
  rcases h.2 with ⟨rfl, h0⟩ | ⟨g, cap, cur, rfl, _, hg, hn, hc, hs, ht⟩
  · exact ⟨none, 0, by rw [h0], ⟨0, 0, .inl (List.length_eq_zero_iff.1 h0), fun i hi => by omega⟩, by omega, by omega⟩
  · refine ⟨some ⟨g, 0, none⟩, cap, rfl, ⟨g, 0, .inr rfl, fun i hi => ?_⟩, hn, by unfold maxLen at hc; omega⟩
    have h1 : (cur.toList.take (zs.length * 1))[i]? = some (.int .i64 zs[i]) := by rw [ht]; simp [hi]
    rw [List.getElem?_take_of_lt (by omega)] at h1
    rw [Array.getElem?_toList] at h1
    simp only [World.cell?, hg, Nat.zero_add]
    exact h1

theorem IsInts.stay {w w' : World} {p : Option Addr} {zs : List Int} (h : IsInts w p zs) (hc : ∀ b o, b < w.heap.size → w'.cell? ⟨b, o, none⟩ = w.cell? ⟨b, o, none⟩) : IsInts w' p zs := by
  obtain ⟨b, o, h1, h2⟩ := h
  exact ⟨b, o, h1, fun i hi => (hc _ _ (World.block_lt_of_cell? _ _ (h2 i hi))).trans (h2 i hi)⟩

theorem IsInts.below {w w' : World} {p : Option Addr} {zs : List Int} (h : IsInts w p zs) (hB : Below w.heap.size w w') : IsInts w' p zs := h.stay (stays hB).1

theorem IsInts.take {w : World} {p : Option Addr} {zs : List Int} (h : IsInts w p zs) (n : Nat) : IsInts w p (zs.take n) := by
  obtain ⟨b, o, h1, h2⟩ := h
  refine ⟨b, o, ?_, fun i hi => ?_⟩
  · rcases h1 with rfl | h1
    · exact .inl (by simp)
    · exact .inr h1
  · rw [List.length_take] at hi
    rw [List.getElem_take]
    exact h2 i (by omega)

theorem newNums_pre : ∀ (m : List (Int × Int)) (acc : List Int), ∃ r, m.foldl newNum acc = acc ++ r
  | [], acc => ⟨[], by simp⟩
  | x :: m, acc => by
    obtain ⟨r, hr⟩ := newNums_pre m (newNum acc x)
    have h2 : ∃ r2, newNum acc x = acc ++ r2 := by
      unfold newNum
      split
      · split
        · exact ⟨[], by simp⟩
        · exact ⟨_, rfl⟩
      · exact ⟨[], by simp⟩
    obtain ⟨r2, h2⟩ := h2
    exact ⟨r2 ++ r, by rw [List.foldl_cons, hr, h2, List.append_assoc]⟩

theorem newNum_mem (acc : List Int) (x : Int × Int) (n : Int) : n ∈ newNum acc x ↔ n ∈ acc ∨ ((x.1 == 1) = true ∧ n = x.2) := by
  unfold newNum
  by_cases h : (x.1 == 1) = true
  · rw [if_pos h]
    by_cases h2 : acc.contains x.2 = true
    · rw [if_pos h2]
      refine ⟨.inl, ?_⟩
      rintro (h3 | ⟨_, rfl⟩)
      · exact h3
      · simpa using h2
    · rw [if_neg h2]
      simp [h]
  · rw [if_neg h]
    simp [h]

theorem newNums_mem : ∀ (m : List (Int × Int)) (acc : List Int) (n : Int), n ∈ m.foldl newNum acc ↔ n ∈ acc ∨ ∃ x ∈ m, (x.1 == 1) = true ∧ n = x.2
  | [], acc, n => by simp
  | x :: m, acc, n => by
    rw [List.foldl_cons, newNums_mem m, newNum_mem]
    constructor
    · rintro ((h | h) | ⟨y, hy, h⟩)
      · exact .inl h
      · exact .inr ⟨x, by simp, h⟩
      · exact .inr ⟨y, by simp [hy], h⟩
    · rintro (h | ⟨y, hy, h⟩)
      · exact .inl (.inl h)
      · rcases List.mem_cons.1 hy with rfl | hy
        · exact .inl (.inr h)
        · exact .inr ⟨y, hy, h⟩

theorem newNums_nodup : ∀ (m : List (Int × Int)) (acc : List Int), acc.Nodup → (m.foldl newNum acc).Nodup
  | [], _, h => h
  | x :: m, acc, h => by
    rw [List.foldl_cons]
    refine newNums_nodup m _ ?_
    unfold newNum
    split
    · split
      · exact h
      · rename_i h2
        rw [List.nodup_append]
        refine ⟨h, by simp, ?_⟩
        intro a ha b hb e
        simp only [List.mem_singleton] at hb
        subst hb e
        exact h2 (by simpa using ha)
    · exact h

theorem numsOf_pre (l m : List (Int × Int)) : ∃ r, numsOf (l ++ m) = numsOf l ++ r := by
  obtain ⟨r, hr⟩ := newNums_pre m (numsOf l)
  exact ⟨r, by rw [← hr, numsOf, numsOf, List.foldl_append]⟩

theorem numsOf_mem (l : List (Int × Int)) (n : Int) : n ∈ numsOf l ↔ ∃ x ∈ l, (x.1 == 1) = true ∧ n = x.2 := by
  rw [numsOf, newNums_mem]; simp

theorem numsOf_nodup (l : List (Int × Int)) : (numsOf l).Nodup := newNums_nodup l [] (by simp)

theorem numsOf_nil (l : List (Int × Int)) : (l.all fun x => !(x.1 == 1)) = ((numsOf l).length == 0) := by
  rw [Bool.eq_iff_iff]
  simp only [List.all_eq_true, beq_iff_eq, List.length_eq_zero_iff, Bool.not_eq_true']
  constructor
  · intro h
    cases hn : numsOf l with
    | nil => rfl
    | cons a r =>
      obtain ⟨x, hx, h1, _⟩ := (numsOf_mem l a).1 (by rw [hn]; simp)
      rw [h x hx] at h1; cases h1
  · intro h x hx
    cases hb : (x.1 == 1) with
    | false => rfl
    | true =>
      have : x.2 ∈ numsOf l := (numsOf_mem l x.2).2 ⟨x, hx, hb, rfl⟩
      rw [h] at this; cases this

/-- those of a list, each once, behind others -/
def addNum (acc : List Int) (n : Int) : List Int := if acc.contains n then acc else acc ++ [n]

theorem newNum_old {acc : List Int} {x : Int × Int} (h : (x.1 == 1) = true) (h2 : acc.contains x.2 = true) : newNum acc x = acc := by rw [newNum, if_pos h, if_pos h2]
theorem newNum_new {acc : List Int} {x : Int × Int} (h : (x.1 == 1) = true) (h2 : ¬ acc.contains x.2 = true) : newNum acc x = acc ++ [x.2] := by rw [newNum, if_pos h, if_neg h2]
theorem newNum_no {acc : List Int} {x : Int × Int} (h : ¬ (x.1 == 1) = true) : newNum acc x = acc := by rw [newNum, if_neg h]

theorem addNums_numsOf (m : List (Int × Int)) (acc : List Int) : (numsOf m).foldl addNum acc = m.foldl newNum acc := by
  have key : ∀ (r : List (Int × Int)), (numsOf r.reverse).foldl addNum acc = r.reverse.foldl newNum acc := by
    intro r
    induction r with
    | nil => rfl
    | cons x r ih =>
      rw [List.reverse_cons, numsOf, List.foldl_append, List.foldl_append]
      show (newNum (numsOf r.reverse) x).foldl addNum acc = newNum (r.reverse.foldl newNum acc) x
      by_cases h : (x.1 == 1) = true
      · by_cases h2 : (numsOf r.reverse).contains x.2 = true
        · have h3 : x.2 ∈ r.reverse.foldl newNum acc := (newNums_mem _ _ _).2 (.inr ((numsOf_mem _ _).1 (by simpa using h2)))
          rw [newNum_old h h2, newNum_old h (by simpa using h3), ih]
        · rw [newNum_new h h2, List.foldl_append, ih]
          show addNum _ x.2 = _
          rw [newNum, if_pos h]
          rfl
      · rw [newNum_no h, newNum_no h, ih]
  have := key m.reverse
  rwa [List.reverse_reverse] at this

theorem nodesOf_two (k : Int) (s : ByteArray) (n : Int) (p : Option Addr) (c : Nat) (kids rest : Ts) : nodesOf (.cons k s n p c kids rest) = nodesOf (.cons k s n p c kids .nil) ++ nodesOf rest := by
  simp [nodesOf]

/-- a list's first element alone, and the rest behind -/
theorem lies_two {w : World} {b : Nat} {k1 : Int} {s1 : ByteArray} {n1 : Int} {p1 : Option Addr} {c1 : Nat} {t1 : Ts} {k2 : Int} {s2 : ByteArray} {n2 : Int} {p2 : Option Addr} {c2 : Nat} {t2 : Ts} {A : Array Value}
    (hA : A = #[.int .u8 k1, .string s1, .int .i64 n1, .slice p1 t1.len c1, .int .u8 k2, .string s2, .int .i64 n2, .slice p2 t2.len c2]) (hc : ∀ i u, A[i]? = some u → w.cell? ⟨b, i, none⟩ = some u) (h1 : Ts.At w p1 t1) (h2 : Ts.At w p2 t2) :
    Ts.At w (some ⟨b, 0, none⟩) (.cons k1 s1 n1 p1 c1 t1 (.cons k2 s2 n2 p2 c2 t2 .nil)) := by
  subst hA
  exact ⟨b, 0, .inr rfl, hc 0 _ rfl, hc 1 _ rfl, hc 2 _ rfl, hc 3 _ rfl, h1, hc 4 _ rfl, hc 5 _ rfl, hc 6 _ rfl, hc 7 _ rfl, h2, trivial⟩

theorem lies_one {w : World} {b : Nat} {k1 : Int} {s1 : ByteArray} {n1 : Int} {p1 : Option Addr} {c1 : Nat} {t1 : Ts} {A : Array Value}
    (hA : A = #[.int .u8 k1, .string s1, .int .i64 n1, .slice p1 t1.len c1]) (hc : ∀ i u, A[i]? = some u → w.cell? ⟨b, i, none⟩ = some u) (h1 : Ts.At w p1 t1) :
    Ts.At w (some ⟨b, 0, none⟩) (.cons k1 s1 n1 p1 c1 t1 .nil) := by
  subst hA
  exact ⟨b, 0, .inr rfl, hc 0 _ rfl, hc 1 _ rfl, hc 2 _ rfl, hc 3 _ rfl, h1, trivial⟩

end Go.Proofs.Ytnmhnaanpjlniaa
/-
  Terms that are known.
-/
namespace Go.Proofs.Ytnmhnaanpjlniaa
open Go.RowKit

/-- a term lies in a box, and its parts where they may -/
structure TT (w0 : World) (T : Nat) (k : Int) (s : ByteArray) (n : Int) (p : Option Addr) (c : Nat) (us : Ts) (W : World) : Prop where
  B : Below w0.heap.size w0 W
  lt : T < W.heap.size
  c0 : W.cell? ⟨T, 0, none⟩ = some (.int .u8 k)
  c1 : W.cell? ⟨T, 1, none⟩ = some (.string s)
  c2 : W.cell? ⟨T, 2, none⟩ = some (.int .i64 n)
  c3 : W.cell? ⟨T, 3, none⟩ = some (.slice p us.len c)
  tat : Ts.At W p us

theorem TT.below {w0 : World} {T : Nat} {k : Int} {s : ByteArray} {n : Int} {p : Option Addr} {c : Nat} {us : Ts} {W W' : World} (h : TT w0 T k s n p c us W) (hB : Below W.heap.size W W') : TT w0 T k s n p c us W' :=
  ⟨h.B.trans (hB.mono h.B.size), Nat.lt_of_lt_of_le h.lt hB.size, ((stays hB).1 _ _ h.lt).trans h.c0, ((stays hB).1 _ _ h.lt).trans h.c1, ((stays hB).1 _ _ h.lt).trans h.c2, ((stays hB).1 _ _ h.lt).trans h.c3, h.tat.below hB⟩

theorem TT.alloc {w0 : World} {T : Nat} {k : Int} {s : ByteArray} {n : Int} {p : Option Addr} {c : Nat} {us : Ts} {W : World} (h : TT w0 T k s n p c us W) (o : Obj) : TT w0 T k s n p c us (W.alloc o) :=
  h.below ((Below.refl _ _).alloc (Nat.le_refl _) _)

theorem TT.drewN {w0 : World} {T : Nat} {k : Int} {s : ByteArray} {n : Int} {p : Option Addr} {c : Nat} {us : Ts} {W : World} (h : TT w0 T k s n p c us W) (q : Nat) : TT w0 T k s n p c us (W.drewN q) :=
  h.below (below_drewN (Below.refl _ _) q)

set_option maxRecDepth 100000 in
set_option maxHeartbeats 2000000 in
theorem wakes_any (w : World) : Calls Try.prog 34 #[] w fun e w' => e = .returned (.bool true) ∧ Below w.heap.size w w' := by
  go_enter Try.func34, Try.ntmps34
  go_wp2_with fail
  refine (V_any _ _).mono ?_
  rintro e w1 ⟨rfl, hB1⟩
  have hB1 : Below w.heap.size w w1 := hB1
  unfold tv
  go_wp2_with fail
  refine (V_any _ _).mono ?_
  rintro e w2 ⟨rfl, hB2⟩
  replace hB2 : Below w.heap.size w w2 := hB1.trans (hB2.mono hB1.size)
  clear hB1
  unfold tv
  go_wp2_with fail
  refine (V_any _ _).mono ?_
  rintro e w3 ⟨rfl, hB3⟩
  replace hB3 : Below w.heap.size w w3 := hB2.trans (hB3.mono hB2.size)
  clear hB2
  unfold tv
  go_wp2_with fail
  obtain ⟨W3, hW3, hs3, hA3, hc3⟩ := box1 w3 #[Value.int IntKind.u8 1, Value.string { data := #[] }, Value.int IntKind.i64 0, Value.slice none 0 0, Value.int IntKind.u8 1, Value.string { data := #[] }, Value.int IntKind.i64 1, Value.slice none 0 0] 25
  rw [← hW3]
  have Z3 := Lib.hid hW3
  clear hW3
  have hB4 : Below w.heap.size w W3 := hB3.trans (hA3.mono hB3.size)
  have nilat : ∀ W : World, Ts.At W none .nil := fun _ => ⟨0, 0, .inl rfl, trivial⟩
  refine (F_any ⟨#[103]⟩ (.cons 1 ⟨#[]⟩ 0 none 0 .nil (.cons 1 ⟨#[]⟩ 1 none 0 .nil .nil)) (by simp [Ts.size]) (by simp [Ts.ok, Ts.len, ByteArray.size]) W3 _ 2 (lies_two rfl hc3 (nilat _) (nilat _))).mono ?_
  rintro e w4 ⟨us1, p1, c1, rfl, hat1, htw1, hok1, hcl1, hpn1, hB5⟩
  rw [if_neg (by simp [Ts.len])]
  unfold tv
  replace hB5 : Below w.heap.size w w4 := hB4.trans (hB5.mono hB4.size)
  have AT1 := Lib.hid hat1.at
  have TW1 := Lib.hid htw1
  have OK1 := Lib.hid hok1
  clear hB3 hA3 hs3 hc3 hat1 htw1 hok1
  go_wp2_with fail
  obtain ⟨W4, hW4, hs4, hA4, hc4⟩ := box1 w4 #[Value.int IntKind.u8 1, Value.string { data := #[] }, Value.int IntKind.i64 1, Value.slice none 0 0, Value.int IntKind.u8 4, Value.string { data := #[103] }, Value.int IntKind.i64 0, Value.slice p1 us1.len c1] 25
  rw [← hW4]
  have Z4 := Lib.hid hW4
  clear hW4
  have hB6 : Below w.heap.size w W4 := hB5.trans (hA4.mono hB5.size)
  have hz1 := Ts.twin_size _ _ TW1.out
  have hl1 := Ts.twin_len _ _ TW1.out
  simp only [Ts.size, Ts.len] at hz1 hl1
  refine (F_any ⟨#[102]⟩ (.cons 1 ⟨#[]⟩ 1 none 0 .nil (.cons 4 ⟨#[103]⟩ 0 p1 c1 us1 .nil)) (by simp [Ts.size]; omega) (by simp [Ts.ok, Ts.len, ByteArray.size, OK1.out]; exact ⟨hcl1, hpn1⟩) W4 _ 2 (lies_two rfl hc4 (nilat _) (AT1.out.below hA4))).mono ?_
  rintro e w5 ⟨us, p, c, rfl, hat, htw, hok, hcl, hpn, hB7⟩
  rw [if_neg (by simp [Ts.len])]
  unfold tv
  replace hB7 : Below w.heap.size w w5 := hB6.trans (hB7.mono hB6.size)
  have AT := Lib.hid hat.at
  have TW := Lib.hid htw
  have OK := Lib.hid hok
  clear hB4 hB5 hB6 hA4 hs4 hc4 hat htw hok
  have hmarks : ∀ q d, numsOf ((nodesOf (.cons 4 ⟨#[102]⟩ 0 q d us .nil)).map Ts.mark) = [1, 0] := by
    intro q d
    simp only [nodesOf, List.map_cons, List.map_append, Ts.twin_marks _ _ TW.out, Ts.twin_marks _ _ TW1.out, List.map_nil, Ts.mark]
    decide
  have hsize : us.size = 4 := by rw [Ts.twin_size _ _ TW.out]; simp [Ts.size]; omega
  have hdepth : depthL us = 2 := by
    rw [Ts.twin_depth _ _ TW.out]
    simp only [depthL, Ts.twin_depth _ _ TW1.out]
    decide
  have hlen : us.len = 2 := by rw [Ts.twin_len _ _ TW.out]; rfl
  have hname : ∀ b : UInt8, 32 ≤ b.toNat → b.toNat ≤ 126 → nameB ⟨#[b]⟩ = true := fun b h1 h2 => nameB_true ⟨by simp [ByteArray.size], fun j h => by
    have hj : j = 0 := by simp [ByteArray.size] at h; omega
    subst hj
    exact .inl ⟨h1, h2⟩⟩
  have hgood : goodB 64 4 ⟨#[102]⟩ 0 us = true := by
    have h1 : shapeL us = true := by
      rw [Ts.twin_shape _ _ TW.out]
      simp only [shapeL, Ts.twin_shape _ _ TW1.out, Ts.twin_len _ _ TW1.out, Ts.len, headB]
      simp [hname 103 (by decide) (by decide)]
    simp only [goodB, hdepth, h1, hlen, headB]
    simp [hname 102 (by decide) (by decide)]
  have hbad : goodB 64 4 ⟨#[102]⟩ 0 .nil = false := by simp [goodB, headB, Ts.len]
  have F1 := Lib.hid hmarks
  have F2 := Lib.hid hsize
  have F3 := Lib.hid hdepth
  have F4 := Lib.hid hgood
  have F5 := Lib.hid hbad
  clear hmarks hsize hdepth hgood hbad hname hlen hz1 hl1
  go_wp2_with fail
  obtain ⟨W5, hW5, hs5, hA5, hT5, hc5⟩ := box2 w5 #[Value.int IntKind.u8 4, Value.string { data := #[102] }, Value.int IntKind.i64 0, Value.slice p us.len c] #[Value.int IntKind.u8 4, Value.string { data := #[102] }, Value.int IntKind.i64 0, Value.slice p us.len c] 25 25
  rw [← hW5]
  have Z5 := Lib.hid hW5
  clear hW5
  have hT : TT w w5.heap.size 4 ⟨#[102]⟩ 0 p c us W5 := ⟨hB7.trans (hA5.mono hB7.size), by omega, hT5 0 _ rfl, hT5 1 _ rfl, hT5 2 _ rfl, hT5 3 _ rfl, AT.out.below hA5⟩
  have hokF : Ts.ok (.cons 4 ⟨#[102]⟩ 0 p c us .nil) := by simp [Ts.ok, ByteArray.size, OK.out]; exact ⟨hcl, hpn⟩
  refine (tvars_any (.cons 4 ⟨#[102]⟩ 0 p c us .nil) (by simp [Ts.size, F2.out]) hokF W5 _ 1 (by simp [Ts.len]) (lies_one rfl hc5 hT.tat)).mono ?_
  rintro e w6 ⟨v, rfl, hrow, hB8⟩
  rw [F1.out] at hrow
  obtain ⟨p6, c6, rfl, hi6, hc6, hc6'⟩ := ints_of_row (zs := [1, 0]) hrow
  replace hT := hT.below hB8
  have HI6 := Lib.hid hi6
  clear hT5 hc5 hA5 hrow hi6 hB8 hB7
  go_wp2_with fail
  obtain ⟨W6, hW6, hs6, hA6, hc6⟩ := box1 w6 #[Value.int IntKind.i64 1, Value.int IntKind.i64 0] 2
  rw [← hW6]
  have Z6 := Lib.hid hW6
  clear hW6
  replace hT := hT.below hA6
  refine (numbers_any [1, 0] [1, 0] W6 p6 _ c6 2 (by simp) (by simp) (HI6.out.below hA6) ⟨w6.heap.size, 0, .inr rfl, fun i hi => by
    match i, hi with
    | 0, _ => exact hc6 0 _ rfl
    | 1, _ => exact hc6 1 _ rfl⟩).mono ?_
  rintro e w7 ⟨rfl, q, hq⟩
  rw [show decide (([1, 0] : List Int) = [1, 0]) = true from rfl]
  replace hT := hT.below (W' := w7) (by rw [hq]; exact below_drewN (Below.refl _ _) q)
  clear hA6 hc6 hq
  obtain ⟨k0, k1, k2, k3⟩ : _ ∧ _ ∧ _ ∧ _ := ⟨hT.c0, hT.c1, hT.c2, hT.c3⟩
  go_wp2_with fail
  refine (tsize_any us (by rw [F2.out]; omega) OK.out 4 ⟨#[102]⟩ 0 _ p c (by omega) (by simp [ByteArray.size]) (by omega) hcl hpn hT.tat).mono ?_
  rintro e w8 ⟨rfl, hB8⟩
  rw [F2.out]
  replace hT := hT.below hB8
  clear k0 k1 k2 k3
  obtain ⟨k0, k1, k2, k3⟩ : _ ∧ _ ∧ _ ∧ _ := ⟨hT.c0, hT.c1, hT.c2, hT.c3⟩
  go_wp2_with fail
  refine (tdepth_any _ us (Nat.lt_succ_self _) (by rw [F2.out]; omega) OK.out 4 ⟨#[102]⟩ 0 _ p c hT.tat).mono ?_
  rintro e w9 ⟨rfl, hB9⟩
  rw [F3.out]
  replace hT := hT.below hB9
  clear k0 k1 k2 k3 hB8 hB9
  obtain ⟨k0, k1, k2, k3⟩ : _ ∧ _ ∧ _ ∧ _ := ⟨hT.c0, hT.c1, hT.c2, hT.c3⟩
  go_wp2_with fail
  refine (tGood_any us (by rw [F2.out]; omega) OK.out 4 ⟨#[102]⟩ 0 _ p c (by simp [ByteArray.size]) hT.tat).mono ?_
  rintro e w10 ⟨rfl, hB10⟩
  rw [F4.out]
  replace hT := hT.below hB10
  clear k0 k1 k2 k3 hB10
  go_wp2_with fail
  refine (tGood_any .nil (by simp [Ts.size]) trivial 4 ⟨#[102]⟩ 0 _ none 0 (by simp [ByteArray.size]) (nilat _)).mono ?_
  rintro e w11 ⟨rfl, hB11⟩
  rw [F5.out]
  replace hT := hT.below hB11
  clear hB11
  go_wp2_with fail
  refine (A_any _ _).mono ?_
  rintro e w12 ⟨rfl, hB12⟩
  replace hT := hT.below hB12
  clear hB12
  unfold tv
  go_wp2_with fail
  refine (I_any _ _).mono ?_
  rintro e w13 ⟨rfl, hB13⟩
  replace hT := hT.below hB13
  clear hB13
  unfold tv
  go_wp2_with fail
  obtain ⟨W13, hW13, hs13, hA13, hc13⟩ := box1 w13 #[Value.int IntKind.u8 3, Value.string { data := #[97] }, Value.int IntKind.i64 0, Value.slice none 0 0, Value.int IntKind.u8 2, Value.string { data := #[] }, Value.int IntKind.i64 1, Value.slice none 0 0] 25
  rw [← hW13]
  have Z13 := Lib.hid hW13
  clear hW13
  replace hT := hT.below hA13
  refine (F_any ⟨#[102]⟩ (.cons 3 ⟨#[97]⟩ 0 none 0 .nil (.cons 2 ⟨#[]⟩ 1 none 0 .nil .nil)) (by simp [Ts.size]) (by simp [Ts.ok, Ts.len, ByteArray.size]) W13 _ 2 (lies_two rfl hc13 (nilat _) (nilat _))).mono ?_
  rintro e w14 ⟨us2, p2, c2, rfl, hat2, htw2, hok2, hcl2, hpn2, hB14⟩
  rw [if_neg (by simp [Ts.len])]
  unfold tv
  replace hT := hT.below hB14
  have hz2 : us2.size = 2 := Ts.twin_size _ _ htw2
  have hmarks2 : noVar (nodesOf (.cons 4 ⟨#[102]⟩ 0 p2 c2 us2 .nil)) = true := by
    rw [noVar_marks]
    simp only [nodesOf, List.map_cons, List.map_append, Ts.twin_marks _ _ htw2, List.map_nil, Ts.mark]
    decide
  have F6 := Lib.hid hmarks2
  have OK2 := Lib.hid hok2
  have AT2 := Lib.hid hat2.at
  clear hmarks2 hok2 hat2 hB14 htw2
  go_wp2_with fail
  refine (tground_any us2 (by omega) OK2.out 4 ⟨#[102]⟩ 0 _ p2 c2 (by omega) (by simp [ByteArray.size]) (by omega) hcl2 hpn2 AT2.out).mono ?_
  rintro e w15 ⟨rfl, hB15⟩
  rw [F6.out]
  replace hT := hT.below hB15
  go_wp2
  go_ret
  exact ⟨rfl, hT.B⟩
end Go.Proofs.Ytnmhnaanpjlniaa
/-
  Small forms of contracts.
-/
namespace Go.Proofs.Ytnmhnaanpjlniaa
open Go.RowKit

theorem numbers_at (zs ys : List Int) (n m : Nat) (hn : n = zs.length) (hm : m = ys.length) (w : World) (p p' : Option Addr) (c c' : Nat) (hlen : zs.length ≤ 1000000) (hlen' : ys.length ≤ 1000000) (hi : IsInts w p zs) (hi' : IsInts w p' ys) :
    Calls Try.prog 40 #[.slice p n c, .slice p' m c'] w fun e w' => e = .returned (.bool (decide (zs = ys))) ∧ ∃ q, w' = w.drewN q := by
  subst hn hm
  exact numbers_any zs ys w p p' c c' hlen hlen' hi hi'

theorem in_at (zs : List Int) (m : Nat) (hm : m = zs.length) (n : Int) (w : World) (p : Option Addr) (c : Nat) (hlen : zs.length ≤ 1000000) (hi : IsInts w p zs) :
    Calls Try.prog 45 #[.slice p m c, .int .i64 n] w fun e w' => e = .returned (.bool (decide (n ∈ zs))) ∧ w' = w := by
  subst hm
  exact in_any zs n w p c hlen hi

theorem IsInts.heap {w w' : World} {p : Option Addr} {zs : List Int} (h : IsInts w p zs) (hh : w'.heap = w.heap) : IsInts w' p zs := by
  obtain ⟨b, o, h1, h2⟩ := h
  refine ⟨b, o, h1, fun i hi => ?_⟩
  have := h2 i hi
  simp only [World.cell?] at this ⊢
  rw [hh]
  exact this

theorem in_is (w0 : World) (zs : List Int) (m : Nat) (n : Int) (b : Bool) (p : Option Addr) (c : Nat) (hm : m = zs.length) (hb : decide (n ∈ zs) = b) (hlen : zs.length ≤ 1000000) (hi : IsInts w0 p zs) (w : World) (hh : w.heap = w0.heap) :
    Calls Try.prog 45 #[.slice p m c, .int .i64 n] w fun e w' => e = .returned (.bool b) ∧ w' = w := by
  subst hb
  exact in_at zs m hm n w p c hlen (hi.heap hh)

theorem many_two (ka : Int) (sa : ByteArray) (na : Int) (pa : Option Addr) (ca : Nat) (ta : Ts) (kb : Int) (sb : ByteArray) (nb : Int) (pb : Option Addr) (cb : Nat) (tb : Ts)
    (h : decide (1000 < manyP (.cons ka sa na pa ca ta (.cons kb sb nb pb cb tb .nil)) 0) = false) : ta.size + tb.size + 2 ≤ 1000 := by
  have := small_of_many h
  simp only [Ts.size] at this
  omega

/-- a list of numbers that a call has told -/
def VarsOf (zs : List Int) (v : Value) (w : World) : Prop := ∃ p c, v = .slice p zs.length c ∧ IsInts w p zs ∧ zs.length ≤ c ∧ c ≤ 9223372036854775807

theorem VarsOf.below {zs : List Int} {v : Value} {w w' : World} (h : VarsOf zs v w) (hB : Below w.heap.size w w') : VarsOf zs v w' := by
  obtain ⟨p, c, h1, h2, h3⟩ := h
  exact ⟨p, c, h1, h2.below hB, h3⟩

/-- a slice of a block of terms -/
def ListOf (ts : Ts) (v : Value) (w : World) : Prop := ∃ b, v = .slice (some ⟨b, 0, none⟩) ts.len ts.len ∧ Ts.At w (some ⟨b, 0, none⟩) ts

theorem ListOf.below {ts : Ts} {v : Value} {w w' : World} (h : ListOf ts v w) (hB : Below w.heap.size w w') : ListOf ts v w' := by
  obtain ⟨b, h1, h2⟩ := h
  exact ⟨b, h1, h2.below hB⟩

theorem ListOf.one {k : Int} {s : ByteArray} {n : Int} {p : Option Addr} {c : Nat} {t : Ts} {w : World} (h : Ts.At w p t) (ty : TypeId) :
    ListOf (.cons k s n p c t .nil) (.slice (some ⟨w.heap.size, 0, none⟩) 1 1) (w.alloc (.cells #[.int .u8 k, .string s, .int .i64 n, .slice p t.len c] ty)) := by
  obtain ⟨W, hW, _, hB, hc⟩ := box1 w #[.int .u8 k, .string s, .int .i64 n, .slice p t.len c] ty
  rw [← hW]
  exact ⟨_, rfl, lies_one rfl hc (h.below hB)⟩

theorem ListOf.two {k : Int} {s : ByteArray} {n : Int} {p : Option Addr} {c : Nat} {t : Ts} {k' : Int} {s' : ByteArray} {n' : Int} {p' : Option Addr} {c' : Nat} {t' : Ts} {w : World} (h : Ts.At w p t) (h' : Ts.At w p' t') (ty : TypeId) :
    ListOf (.cons k s n p c t (.cons k' s' n' p' c' t' .nil)) (.slice (some ⟨w.heap.size, 0, none⟩) 2 2) (w.alloc (.cells #[.int .u8 k, .string s, .int .i64 n, .slice p t.len c, .int .u8 k', .string s', .int .i64 n', .slice p' t'.len c'] ty)) := by
  obtain ⟨W, hW, _, hB, hc⟩ := box1 w #[.int .u8 k, .string s, .int .i64 n, .slice p t.len c, .int .u8 k', .string s', .int .i64 n', .slice p' t'.len c'] ty
  rw [← hW]
  exact ⟨_, rfl, lies_two rfl hc (h.below hB) (h'.below hB)⟩

theorem vars_of {ts : Ts} (hbig : ts.size ≤ 900000) (hok : ts.ok) {v : Value} {w : World} (h : ListOf ts v w) :
    Calls Try.prog 41 #[v] w fun e w' => ∃ u, e = .returned u ∧ VarsOf (numsOf ((nodesOf ts).map Ts.mark)) u w' ∧ Below w.heap.size w w' := by
  obtain ⟨b, rfl, hat⟩ := h
  have hl := Ts.len_size ts
  refine (tvars_any ts hbig hok w _ _ ⟨Nat.le_refl _, by omega⟩ hat).mono ?_
  rintro e w' ⟨v, rfl, hrow, hB⟩
  obtain ⟨p, c, rfl, h1, h2⟩ := ints_of_row hrow
  exact ⟨_, rfl, ⟨p, c, rfl, h1, h2⟩, hB⟩

end Go.Proofs.Ytnmhnaanpjlniaa
