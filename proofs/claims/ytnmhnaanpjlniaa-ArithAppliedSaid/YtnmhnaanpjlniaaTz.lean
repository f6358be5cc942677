import Derived.Test.YtnmhnaanpjlniaaTw
/-
  The law TermParts: plain facts of lists.
-/
namespace Go.Proofs.Ytnmhnaanpjlniaa
open Go.RowKit

theorem alike_symm : ∀ (ts us : Ts), alike ts us = alike us ts
  | .nil, .nil => rfl
  | .cons k s n _ _ kids rest, .cons k' s' n' _ _ kids' rest' => by
    simp only [alike, alike_symm kids kids', alike_symm rest rest']
    rw [Bool.beq_comm (a := k), Bool.beq_comm (a := n)]
    have : (s.toList == s'.toList) = (s'.toList == s.toList) := Bool.beq_comm
    rw [this]
  | .nil, .cons .. => by simp [alike]
  | .cons .., .nil => by simp [alike]

theorem twin_alike_both {us ts vs ws : Ts} (h : Ts.twin us ts) (h' : Ts.twin vs ws) : alike us vs = alike ts ws := by
  rw [Ts.twin_alike us ts vs h, alike_symm, Ts.twin_alike vs ws ts h', alike_symm]

theorem goodL_step (d : Nat) (k : Int) (s : ByteArray) (n : Int) (p : Option Addr) (c : Nat) (kids rest : Ts) : goodL d (.cons k s n p c kids rest) = (goodB d k s n kids && goodL d rest) := goodL_cons d k s n p c kids rest

theorem good_parts (name : ByteArray) (ts : Ts) (h0 : 0 < ts.len) :
    goodB 64 4 name 0 ts = (((decide (ts.len ≤ 16) && nameB name) && goodL 64 ts) && decide (depthL ts + 1 ≤ 64)) := by
  simp only [goodB, goodL, headB]
  have e1 : decide (0 < ts.len) = true := decide_eq_true h0
  rw [e1]
  by_cases h1 : depthL ts + 1 ≤ 64
  · have h2 : depthL ts ≤ 64 := by omega
    simp only [h1, h2, decide_true, Bool.true_and, Bool.and_true]
    simp
    cases shapeL ts <;> cases nameB name <;> simp
  · simp [h1]

theorem good_name (name : ByteArray) : goodB 64 3 name 0 .nil = nameB name := by
  simp [goodB, headB, depthL, shapeL, Ts.len]

theorem nodes_str {name : ByteArray} {p : Option Addr} {c : Nat} {us ts : Ts} (h : Ts.twin us ts) : numsOf ((nodesOf (.cons 4 name 0 p c us .nil)).map Ts.mark) = numsOf ((nodesOf ts).map Ts.mark) := by
  simp only [nodesOf, List.append_nil, List.map_cons, Ts.twin_marks us ts h]
  rw [numsOf, List.foldl_cons]
  rfl

theorem noVar_str {name : ByteArray} {p : Option Addr} {c : Nat} {us ts : Ts} (h : Ts.twin us ts) : noVar (nodesOf (.cons 4 name 0 p c us .nil)) = noVar (nodesOf ts) := by
  rw [noVar_marks, noVar_marks]
  simp only [nodesOf, List.append_nil, List.map_cons, Ts.twin_marks us ts h, List.all_cons, Ts.mark]
  rfl

theorem noVar_two (k : Int) (s : ByteArray) (n : Int) (p : Option Addr) (c : Nat) (kids rest : Ts) : noVar (nodesOf (.cons k s n p c kids rest)) = (noVar (nodesOf (.cons k s n p c kids .nil)) && noVar (nodesOf rest)) := by
  rw [nodesOf_two, noVar, List.all_append]
  rfl

/-- an element of a list, where it lies -/
structure El (b o : Nat) (k : Int) (s : ByteArray) (n : Int) (p : Option Addr) (c : Nat) (us : Ts) (W : World) : Prop where
  lt : b < W.heap.size
  c0 : W.cell? ⟨b, o, none⟩ = some (.int .u8 k)
  c1 : W.cell? ⟨b, o + 1, none⟩ = some (.string s)
  c2 : W.cell? ⟨b, o + 2, none⟩ = some (.int .i64 n)
  c3 : W.cell? ⟨b, o + 3, none⟩ = some (.slice p us.len c)
  tat : Ts.At W p us

theorem El.below {b o : Nat} {k : Int} {s : ByteArray} {n : Int} {p : Option Addr} {c : Nat} {us : Ts} {W W' : World} (h : El b o k s n p c us W) (hB : Below W.heap.size W W') : El b o k s n p c us W' :=
  ⟨Nat.lt_of_lt_of_le h.lt hB.size, ((stays hB).1 _ _ h.lt).trans h.c0, ((stays hB).1 _ _ h.lt).trans h.c1, ((stays hB).1 _ _ h.lt).trans h.c2, ((stays hB).1 _ _ h.lt).trans h.c3, h.tat.below hB⟩

theorem Ts.elem {W wr : World} {ts : Ts} {b o j : Nat} (hl : ts.lies W b o) (hB : Below W.heap.size W wr) (hok : ts.ok) (h : j < ts.len) :
    ∃ (k : Int) (s : ByteArray) (n : Int) (p : Option Addr) (c : Nat) (kids rest : Ts), Hid (ts.drop j = .cons k s n p c kids rest) ∧ El b (o + j * 4) k s n p c kids wr ∧ kids.size + rest.size + 1 ≤ ts.size ∧ Ts.ok (.cons k s n p c kids .nil) := by
  obtain ⟨k, s, n, p, c, kids, rest, hd, c0, c1, c2, c3, hat, hok', hc, hsz, hk, hs, hn⟩ := Ts.open_at hl hB hok h
  have hokd := Ts.ok_drop j ts hok
  rw [hd.out] at hokd
  exact ⟨k, s, n, p, c, kids, rest, hd, ⟨World.block_lt_of_cell? _ _ c0, c0, c1, c2, c3, hat.out⟩, hsz, hokd.1, hokd.2.1, hokd.2.2.1, hokd.2.2.2.1, hokd.2.2.2.2.1, hokd.2.2.2.2.2.1, trivial⟩

end Go.Proofs.Ytnmhnaanpjlniaa
