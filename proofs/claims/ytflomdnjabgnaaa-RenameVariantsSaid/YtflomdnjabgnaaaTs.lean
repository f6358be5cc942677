import Derived.Test.YtflomdnjabgnaaaTp
import Derived.Test.YtflomdnjabgnaaaTf
import Derived.Deep.QuietTactic
import Derived.BigQuiet
/-
  Plain facts of lists of terms: how many nodes the law lets in; twins are alike in all that is asked.
-/
namespace Go.Proofs.Ytflomdnjabgnaaa
open Go.RowKit

theorem manyP_size : ∀ (ts : Ts) (n : Int), 0 ≤ n → manyP ts n < 2000 → n + (ts.size : Int) ≤ manyP ts n
  | .nil, n, _, _ => by simp [manyP, Ts.size]
  | .cons _ s _ _ _ kids rest, n, h0, h => by
    unfold manyP at h ⊢
    by_cases hn : n < 2000
    · rw [if_pos hn] at h ⊢
      have hd : 0 ≤ (s.size : Int) / 200 * 2000 := by omega
      have h1 := manyP_ge rest (manyP kids (n + 1 + (s.size : Int) / 200 * 2000))
      have h2 := manyP_ge kids (n + 1 + (s.size : Int) / 200 * 2000)
      have h3 := manyP_size kids (n + 1 + (s.size : Int) / 200 * 2000) (by omega) (by omega)
      have h4 := manyP_size rest _ (by omega) h
      simp only [Ts.size]
      omega
    · rw [if_neg hn] at h
      omega

theorem small_of_many {ts : Ts} (h : decide (1000 < manyP ts 0) = false) : ts.size ≤ 1000 := by
  have h1 : ¬ 1000 < manyP ts 0 := by simpa using h
  have h2 := manyP_size ts 0 (by omega) (by omega)
  omega

theorem alike_refl : ∀ ts : Ts, alike ts ts = true
  | .nil => rfl
  | .cons _ s _ _ _ kids rest => by
    have : (s.toList == s.toList) = true := by simp
    simp only [alike, alike_refl kids, alike_refl rest, this, beq_self_eq_true, Bool.and_self]

namespace Ts
theorem twin_symm : ∀ (us ts : Ts), twin us ts → twin ts us
  | .nil, .nil, _ => trivial
  | .cons _ _ _ _ _ k r, .cons _ _ _ _ _ k' r', h => ⟨h.1.symm, h.2.1.symm, h.2.2.1.symm, twin_symm k k' h.2.2.2.1, twin_symm r r' h.2.2.2.2⟩
  | .nil, .cons .., h => h.elim
  | .cons .., .nil, h => h.elim

theorem twin_alike : ∀ (us ts vs : Ts), twin us ts → alike us vs = alike ts vs
  | .nil, .nil, _, _ => rfl
  | .cons _ _ _ _ _ k r, .cons _ _ _ _ _ k' r', .cons _ _ _ _ _ k2 r2, h => by
    obtain ⟨rfl, rfl, rfl, h1, h2⟩ := h
    simp only [alike, twin_alike k k' k2 h1, twin_alike r r' r2 h2]
  | .cons .., .cons .., .nil, _ => by simp [alike]
  | .nil, .cons .., _, h => h.elim
  | .cons .., .nil, _, h => h.elim

theorem twin_depth : ∀ (us ts : Ts), twin us ts → depthL us = depthL ts
  | .nil, .nil, _ => rfl
  | .cons _ _ _ _ _ k r, .cons _ _ _ _ _ k' r', h => by simp only [depthL, twin_depth k k' h.2.2.2.1, twin_depth r r' h.2.2.2.2]
  | .nil, .cons .., h => h.elim
  | .cons .., .nil, h => h.elim

theorem twin_shape : ∀ (us ts : Ts), twin us ts → shapeL us = shapeL ts
  | .nil, .nil, _ => rfl
  | .cons _ _ _ _ _ k r, .cons _ _ _ _ _ k' r', h => by
    obtain ⟨rfl, rfl, rfl, h1, h2⟩ := h
    simp only [shapeL, twin_shape k k' h1, twin_shape r r' h2, twin_len k k' h1]
  | .nil, .cons .., h => h.elim
  | .cons .., .nil, h => h.elim

/-- of a node, what stays the same in a twin -/
def mark (x : Nd) : Int × Int := (x.k, x.n)

theorem twin_marks : ∀ (us ts : Ts), twin us ts → (nodesOf us).map mark = (nodesOf ts).map mark
  | .nil, .nil, _ => rfl
  | .cons _ _ _ _ _ k r, .cons _ _ _ _ _ k' r', h => by
    obtain ⟨rfl, rfl, rfl, h1, h2⟩ := h
    simp only [nodesOf, List.map_cons, List.map_append, twin_marks k k' h1, twin_marks r r' h2, mark]
  | .nil, .cons .., h => h.elim
  | .cons .., .nil, h => h.elim
end Ts

theorem noVar_marks (l : List Nd) : noVar l = (l.map Ts.mark).all fun x => !(x.1 == 1) := by
  simp only [noVar, List.all_map]
  rfl

/-- the numbers of the variables, each once -/
def newNum (acc : List Int) (x : Int × Int) : List Int := if x.1 == 1 then (if acc.contains x.2 then acc else acc ++ [x.2]) else acc
def numsOf (l : List (Int × Int)) : List Int := l.foldl newNum []

/-- each number is within 64 bits -/
theorem nodes_wf : ∀ (ts : Ts), ts.ok → ∀ x ∈ nodesOf ts, -9223372036854775808 ≤ x.n ∧ x.n ≤ 9223372036854775807
  | .nil, _, x, hx => by cases hx
  | .cons k s n p c kids rest, h, x, hx => by
    rcases List.mem_cons.1 hx with rfl | hx
    · exact h.2.2.1
    · rcases List.mem_append.1 hx with hx | hx
      · exact nodes_wf kids h.2.2.2.2.2.1 x hx
      · exact nodes_wf rest h.2.2.2.2.2.2 x hx

end Go.Proofs.Ytflomdnjabgnaaa
/-
  Lists of numbers: In, Numbers.
-/
namespace Go.Proofs.Ytflomdnjabgnaaa
open Go.RowKit

/-- a list of numbers lies where a slice leads -/
def IsInts (w : World) (p : Option Addr) (zs : List Int) : Prop := ∃ b o, (zs = [] ∨ p = some ⟨b, o, none⟩) ∧ ∀ (i : Nat) (h : i < zs.length), w.cell? ⟨b, o + i, none⟩ = some (.int .i64 zs[i])

theorem some_of_ints {zs : List Int} {p : Option Addr} {b o j : Nat} (h : zs = [] ∨ p = some ⟨b, o, none⟩) (hj : j < zs.length) : p = some ⟨b, o, none⟩ := by
  rcases h with rfl | h
  · simp at hj
  · exact h

set_option maxRecDepth 100000 in
set_option maxHeartbeats 1000000 in
theorem in_any (zs : List Int) (n : Int) (w : World) (p : Option Addr) (c : Nat) (hlen : zs.length ≤ 1000000) (hi : IsInts w p zs) :
    Calls Try.prog 55 #[.slice p zs.length c, .int .i64 n] w fun e w' => e = .returned (.bool (decide (n ∈ zs))) ∧ w' = w := by
  obtain ⟨b, o, hp, hz⟩ := hi
  have HZ := Lib.hid hz
  clear hz
  go_enter Try.func55, Try.ntmps55
  go_wp2
  go_loop [5] (fun i => ∃ (j : Nat), j ≤ zs.length ∧ i = .int .i64 j ∧ (∀ x ∈ zs.take j, ¬ x = n)) (fun i => zs.length - (intOf i).toNat)
  case atStart => exact ⟨0, Nat.zero_le _, rfl, by simp⟩
  case round =>
    obtain ⟨j, hj, rfl, hno⟩ := hrel
    have NO := Lib.hid hno
    clear hno
    by_cases hlt : j < zs.length
    · obtain rfl := some_of_ints hp hlt
      obtain ⟨z, hz⟩ : ∃ z, z = zs[j] := ⟨_, rfl⟩
      have hc : w.cell? ⟨b, o + j, none⟩ = some (.int .i64 z) := by rw [hz]; exact HZ.out j hlt
      have ZE := Lib.hid hz
      clear hz hp
      by_cases he : (z == n) = true
      · have HE := Lib.hid he
        go_wp2
        go_ret
        refine ⟨?_, rfl⟩
        have h1 := HE.out
        have hzn : z = n := by simpa using h1
        have : n ∈ zs := by rw [← hzn, ZE.out]; exact List.getElem_mem hlt
        rw [decide_eq_true this]
        rfl
      · rw [Bool.not_eq_true] at he
        have HE := Lib.hid he
        go_wp2
        go_round
        case rel =>
          refine ⟨j + 1, by omega, by go_num, ?_⟩
          intro x hx
          rw [List.take_succ_eq_append_getElem hlt] at hx
          rcases List.mem_append.1 hx with hx | hx
          · exact NO.out x hx
          · have h1 := HE.out
            have h2 : x = z := by rw [ZE.out]; simpa using hx
            rw [h2]; simpa using h1
        case measure => simp [intOf]; omega
    · go_wp2
      go_ret
      refine ⟨?_, rfl⟩
      have : ¬ n ∈ zs := fun hm => NO.out n (by rw [List.take_of_length_le (by omega)]; exact hm) rfl
      rw [decide_eq_false this]
      rfl

set_option maxRecDepth 100000 in
set_option maxHeartbeats 1000000 in
theorem numbers_any (zs ys : List Int) (w : World) (p p' : Option Addr) (c c' : Nat) (hlen : zs.length ≤ 1000000) (hlen' : ys.length ≤ 1000000) (hi : IsInts w p zs) (hi' : IsInts w p' ys) :
    Calls Try.prog 51 #[.slice p zs.length c, .slice p' ys.length c'] w fun e w' => e = .returned (.bool (decide (zs = ys))) ∧ ∃ q, w' = w.drewN q := by
  obtain ⟨b, o, hp, hz⟩ := hi
  obtain ⟨b', o', hp', hz'⟩ := hi'
  have HZ := Lib.hid hz
  have HZ' := Lib.hid hz'
  clear hz hz'
  by_cases hl : zs.length = ys.length
  · have HL := Lib.hid hl
    have el : ((zs.length : Int) != (ys.length : Int)) = false := by rw [hl]; simp
    clear hl
    go_enter Try.func51, Try.ntmps51
    go_wp2
    go_loopw [5] (fun i wr => ∃ (j : Nat), j ≤ zs.length ∧ i = .int .i64 j ∧ (∀ (m : Nat) (h : m < zs.length) (h' : m < ys.length), m < j → zs[m] = ys[m]) ∧ ∃ q, wr = w.drewN q) (fun i _ => zs.length - (intOf i).toNat)
    case atStart => exact ⟨0, Nat.zero_le _, rfl, fun m _ _ h => by omega, 0, rfl⟩
    case round =>
      rename_i wr _
      obtain ⟨j, hj, rfl, hno, q, hq⟩ := hrel
      have NO := Lib.hid hno
      have Q := Lib.hid hq
      clear hno
      by_cases hlt : j < zs.length
      · have hlt' : j < ys.length := by have := HL.out; omega
        obtain rfl := some_of_ints hp hlt
        obtain rfl := some_of_ints hp' hlt'
        obtain ⟨z, hz⟩ : ∃ z, z = zs[j] := ⟨_, rfl⟩
        obtain ⟨y, hy⟩ : ∃ y, y = ys[j] := ⟨_, rfl⟩
        have hc : wr.cell? ⟨b, o + j, none⟩ = some (.int .i64 z) := by rw [hq, hz]; exact HZ.out j hlt
        have hc' : wr.cell? ⟨b', o' + j, none⟩ = some (.int .i64 y) := by rw [hq, hy]; exact HZ'.out j hlt'
        have ZE := Lib.hid hz
        have YE := Lib.hid hy
        clear hz hy hp hp' hq
        by_cases he : (z != y) = true
        · have HE := Lib.hid he
          go_wp2
          go_quiet (fail)
          go_wp2
          go_ret
          refine ⟨?_, q + nq, by rw [Q.out, World.drewN_drewN]⟩
          have h1 := HE.out
          rw [decide_eq_false (fun h => by subst h; rw [ZE.out, YE.out] at h1; simp at h1)]
          rfl
        · rw [Bool.not_eq_true] at he
          have HE := Lib.hid he
          go_wp2
          go_quiet (fail)
          go_wp2
          go_roundw
          case rel =>
            refine ⟨j + 1, by omega, by go_num, ?_, q + nq, by rw [Q.out, World.drewN_drewN]⟩
            intro m h h' hm
            by_cases e : m = j
            · subst e
              have h1 := HE.out
              rw [← ZE.out, ← YE.out]
              simpa using h1
            · exact NO.out m h h' (by omega)
          case measure => simp [intOf]; omega
      · have hzy : zs = ys := List.ext_getElem HL.out fun m h h' => NO.out m h h' (by omega)
        have HH := Lib.hid hzy
        clear hzy hq
        go_wp2
        go_ret
        refine ⟨?_, q, Q.out⟩
        rw [decide_eq_true HH.out]
        rfl
  · have el : ((zs.length : Int) != (ys.length : Int)) = true := by simp; omega
    have NE := Lib.hid hl
    clear hl
    go_enter Try.func51, Try.ntmps51
    go_wp2
    go_ret
    refine ⟨?_, 0, rfl⟩
    rw [decide_eq_false (fun h => NE.out (by rw [h]))]
    rfl

end Go.Proofs.Ytflomdnjabgnaaa
/-
  Vars, by the iterator.
-/
namespace Go.Proofs.Ytflomdnjabgnaaa
open Go.RowKit Go.Maps
attribute [local go_sem] Oper.semAt_some

/-- the map's keys -/
def Sd (acc : List Int) : DataW Unit := setOf (.agg []) (acc.map (Lit.int .i64))

theorem has_Sd (acc : List Int) (n : Int) : has (Sd acc) (.int .i64 n) = acc.contains n := by
  unfold Sd
  rw [has_setOf _ _ _ (by intro x hx; obtain ⟨y, _, rfl⟩ := List.mem_map.1 hx; trivial), List.any_map]
  induction acc with
  | nil => rfl
  | cons a l ih =>
    simp only [List.any_cons, List.contains_cons, ih, Function.comp]
    congr 1
    have h : (n == a) = decide (n = a) := by by_cases h : n = a <;> simp [h]
    simp [Lit.sameKey, eq_comm]
    exact h

theorem Sd_new (acc : List Int) (n : Int) : Sd (acc ++ [n]) = (Sd acc).put (.int .i64 n) (.agg []) := by
  simp [Sd, setOf, List.foldl_append]

theorem infoI64 : (Try.prog.info? 2).map (fun i => (i.zero, i.size, i.bytes)) = some (some (.int .i64 0), 1, 8) := by kernel_rfl

theorem numsOf_length (l : List (Int × Int)) : (numsOf l).length ≤ l.length := by
  have key : ∀ (l : List (Int × Int)) (acc : List Int), (l.foldl newNum acc).length ≤ acc.length + l.length := by
    intro l
    induction l with
    | nil => intro acc; simp
    | cons x l ih =>
      intro acc
      have h := ih (newNum acc x)
      have h2 : (newNum acc x).length ≤ acc.length + 1 := by
        unfold newNum
        split
        · split
          · omega
          · simp
        · omega
      simp only [List.foldl_cons, List.length_cons]
      omega
  have := key l []
  simpa [numsOf] using this

theorem zeroUnit (w : World) : (zeroValue 93).run Try.prog w = .ok (.agg #[]) w := by kernel_rfl

/-- the body's own blocks -/
def ours (R : Nat) (W : World) (k : Nat) : Prop := k = R ∨ k = R + 1 ∨ (R + 4 ≤ k ∧ (W.heap.size < R + 4 ∨ ∃ off len cap, W.cell? ⟨R, 0, none⟩ = some (.slice (some ⟨k, off, none⟩) len cap)))

/-- between two rounds -/
def Has (w : World) (pre : List Nd) (W : World) : Prop :=
  ∃ v, W.cell? ⟨w.heap.size, 0, none⟩ = some v ∧ W.frozen? ⟨w.heap.size, 0, none⟩ = false ∧ W.cell? ⟨w.heap.size + 1 + 1, 0, none⟩ = some (.map (some (w.heap.size + 1))) ∧
    W.ownsMap Try.prog 2 unitElem (w.heap.size + 1) pre.length (Sd (numsOf (pre.map Ts.mark))) ∧ W.ownsRow (w.heap.size + 4) 2 1 v (numsOf (pre.map Ts.mark)).length ((numsOf (pre.map Ts.mark)).map (Value.int .i64)) ∧
    w.heap.size + 4 ≤ W.heap.size ∧ Below w.heap.size w W

theorem ours_grown {R : Nat} {W W' : World} {row : Option Nat} {k' : Nat} (hg : W.grownBy W' row) (hr : ∀ r, row = some r → R + 4 ≤ r) (hk : ¬ ours R W k') : ¬ ours R W' k' := by
  intro h
  apply hk
  rcases h with h | h | ⟨h1, h2⟩
  · exact .inl h
  · exact .inr (.inl h)
  · refine .inr (.inr ⟨h1, ?_⟩)
    by_cases hs : W.heap.size < R + 4
    · exact .inl hs
    · rcases h2 with h2 | ⟨o, l, cp, h2⟩
      · have := hg.size; omega
      · refine .inr ⟨o, l, cp, ?_⟩
        rw [← h2]
        exact (World.cell?_of_block (a := ⟨R, 0, none⟩) (hg.block _ (by simp; omega) (fun e => by have := hr _ e.symm; simp at this; omega))).symm

theorem Has.grown {w : World} {pre : List Nd} {W W' : World} {row : Option Nat} (h : Has w pre W) (hg : W.grownBy W' row) (hr : ∀ r, row = some r → w.heap.size + 4 ≤ r ∧ ((∃ o : Obj, W.heap[r]? = some o ∧ o.isCells = false) ∨ ¬ ours w.heap.size W r)) : Has w pre W' := by
  obtain ⟨v, h1, h2, h3, h4, h5, h6, h7⟩ := h
  have hb : ∀ q, q < w.heap.size + 4 → q < W.heap.size → W'.heap[q]? = W.heap[q]? := fun q hq hlt => hg.block q hlt (fun e => by have := (hr _ e.symm).1; omega)
  refine ⟨v, (World.cell?_of_block (a := ⟨w.heap.size, 0, none⟩) (hb _ (by simp) (by simp; omega))).trans h1, (World.frozen?_of_block (a := ⟨w.heap.size, 0, none⟩) (hb _ (by simp) (by simp; omega))).trans h2, (World.cell?_of_block (a := ⟨w.heap.size + 1 + 1, 0, none⟩) (hb _ (by simp) (by simp; omega))).trans h3, h4.kept hg (fun e => by have := (hr _ e.symm).1; omega), h5.kept hg ?_, Nat.le_trans h6 hg.size, h7.grown hg (by omega) (fun r e => by have := (hr r e).1; omega)⟩
  rcases h5.2 with ⟨rfl, _⟩ | ⟨g, cap, cur, rfl, hge, hh, _⟩
  · exact .inl rfl
  · refine .inr fun e => ?_
    rcases (hr g e.symm).2 with ⟨o, ho, hno⟩ | hnm
    · rw [hh] at ho; cases ho; cases hno
    · exact hnm (.inr (.inr ⟨hge, .inr ⟨0, _, _, h1⟩⟩))

theorem Has.same {w : World} {pre pre' : List Nd} {W : World} (h : Has w pre W) (hn : numsOf (pre'.map Ts.mark) = numsOf (pre.map Ts.mark)) (hl : pre.length ≤ pre'.length) : Has w pre' W := by
  obtain ⟨v, h1, h2, h3, h4, h5, h6, h7⟩ := h
  exact ⟨v, h1, h2, h3, by rw [hn]; exact h4.mono hl, by rw [hn]; exact h5, h6, h7⟩

set_option maxRecDepth 100000 in
set_option maxHeartbeats 2000000 in
theorem tvars_any (ts : Ts) (hbig : ts.size ≤ 900000) (hok : ts.ok) (w : World) (p : Option Addr) (c : Nat) (hc : ts.len ≤ c ∧ c ≤ 9223372036854775807) (hat : Ts.At w p ts) :
    Calls Try.prog 30 #[.slice p ts.len c] w fun e w' => ∃ v, e = .returned v ∧ w'.ownsRow (w.heap.size + 4) 2 1 v (numsOf ((nodesOf ts).map Ts.mark)).length ((numsOf ((nodesOf ts).map Ts.mark)).map (Value.int .i64)) ∧ Below w.heap.size w w' := by
  refine (callsIn_wide (n := 8)).1 ?_
  refine callsIn_of_wp_marks Try.func30 rfl trivial ?_ rfl
  simp only [Try.ntmps30, List.size_toArray, List.length_cons, List.length_nil, Nat.reduceAdd, Nat.reduceSub, Array.replicate_succ, Array.replicate_zero, List.push_toArray, List.append_toArray, List.nil_append, List.cons_append]
  have hmm := @run_makeMap Try.prog
  gi_wp2_with (refine ⟨trivial, ?_⟩; gi_at_call 66; refine (nodes_any _ _ trivial rfl _ _ _ _).mono ?_; rintro e w' ⟨rfl, rfl⟩)
  clear hmm
  obtain ⟨W0, hW0⟩ : ∃ W0, W0 = (((w.alloc (.cells #[.slice none 0 0] 48)).alloc (.map #[] 0)).alloc (.cells #[.map (some (w.heap.size + 1))] 89)).alloc (.cells #[.slice p ts.len c] 22) := ⟨_, rfl⟩
  rw [← hW0]
  have hs0 : W0.heap.size = w.heap.size + 4 := by rw [hW0]; simp
  have hB0 : Below w.heap.size w W0 := by rw [hW0]; exact ((((Below.refl _ _).alloc (Nat.le_refl _) _).alloc (by simp) _).alloc (by simp; omega) _).alloc (by simp; omega) _
  have hlist : W0.cell? ⟨w.heap.size + 1 + 1 + 1, 0, none⟩ = some (.slice p ts.len c) := by
    rw [hW0, _root_.Go.Joins.cell_alloc_mark_at _ _ _ _ _ 0 (by simp)]; rfl
  have h00 : Has w [] W0 := by
    refine ⟨.slice none 0 0, ?_, ?_, ?_, ?_, World.ownsRow_nil _ _ _ _, by omega, hB0⟩
    · rw [hW0]
      refine cell_alloc_old _ (cell_alloc_old _ (cell_alloc_old _ ?_))
      rw [_root_.Go.Joins.cell_alloc_mark_at _ _ _ _ _ 0 rfl]; rfl
    · rw [hW0, World.frozen?_alloc_past _ _ _ (by simp only [World.size_alloc]; omega), World.frozen?_alloc_past _ _ _ (by simp only [World.size_alloc]; omega), World.frozen?_alloc_past _ _ _ (by simp only [World.size_alloc]; omega)]
      exact World.frozen?_alloc_new _ _ _ 0
    · rw [hW0]
      refine cell_alloc_old _ ?_
      rw [_root_.Go.Joins.cell_alloc_mark_at _ _ _ _ _ 0 (by simp)]; rfl
    · rw [hW0]
      have := World.ownsMap_made (H := Unit) (w.alloc (.cells #[.slice none 0 0] 48)) Try.prog 2 unitElem
      rw [World.size_alloc] at this
      exact (this.alloc _).alloc _
  have Z := Lib.hid hW0
  clear hW0
  have hatP : Ts.AtP (fun x => x < w.heap.size) W0 p ts := hat.atP.stay fun b hb _ => hB0.block b hb
  have hseq := nodes_seq Fence.wide 7 trivial rfl (by omega) (w.heap.size + 1 + 1 + 1) p c ts hok hc (by omega) (fun x => x < w.heap.size) (ours w.heap.size) W0 (fun b hb => ⟨by omega, fun W h => by rcases h with h | h | ⟨h, _⟩ <;> omega⟩) hlist hatP
  refine range_law rfl (by omega) (gf := 81) (lb := #[.pointer (some ⟨w.heap.size + 1 + 1 + 1, 0, none⟩)]) rfl trivial (enters_of Try.func81 (by kernel_rfl) rfl) hseq
    ?hmine ?hnew (Below.refl _ _) (fun _ => rfl) (Has w) (fun _ _ _ => False) ?hI (fun _ _ _ _ _ h _ _ => h) h00
    (fun x W a' => ∃ Bx, w.heap.size + 4 ≤ Bx ∧ W.cell? ⟨Bx, 0, none⟩ = some (.int .u8 x.k) ∧ W.cell? ⟨Bx, 2, none⟩ = some (.int .i64 x.n) ∧ a' = { tmps := #[.slice p ts.len c, undef, .slice none 0 0, .pointer (some ⟨w.heap.size, 0, none⟩), .pointer (some ⟨w.heap.size + 1 + 1, 0, none⟩), .pointer (some ⟨Bx, 0, none⟩), undef, undef, .map (some (w.heap.size + 1)), .slice p ts.len c, .func (.func 81) #[] #[.pointer (some ⟨w.heap.size + 1 + 1 + 1, 0, none⟩)], x.val, undef, undef, undef, undef, undef, undef, undef, undef, undef, undef, undef, undef, undef, undef, undef, undef, undef, undef, undef, undef, undef, undef], defers := [] })
    ?assign ?ha ?body ?done (fun _ _ _ _ _ _ h _ => h.elim)
  case hmine =>
    intro W W' row k' hg hr hk
    exact ours_grown hg (fun r e => by have := (hr r e).1; omega) hk
  case hnew =>
    rintro k' hk' h
    obtain ⟨v, hv0, _, _, _, hrow, _⟩ := h00
    rcases h with h | h | ⟨_, h | ⟨o, l, cp, h⟩⟩
    · omega
    · omega
    · omega
    · rw [hv0] at h
      cases h
      have := (hrow.lt k' rfl).2
      omega
  case hI =>
    intro pre W W' row h hg hr
    exact h.grown hg (fun r e => ⟨by have := (hr r e).1; omega, (hr r e).2⟩)
  case assign =>
    intro l pre x W K hi hK
    have hsW : w.heap.size + 4 ≤ W.heap.size := by obtain ⟨_, _, _, _, _, _, h6, _⟩ := hi; exact h6
    obtain ⟨xk, xs, xn, xp, xc, xt⟩ := x
    simp only [Nd.val] at hK ⊢
    gi_wp2
    have hgr : ∀ o : Obj, W.grownBy (W.alloc o) none := fun o => World.grownBy_alloc _ _ none
    exact hK _ _ ⟨W.heap.size, hsW, by rw [_root_.Go.Joins.cell_alloc_mark_at _ _ _ _ _ 0 rfl]; rfl, by rw [_root_.Go.Joins.cell_alloc_mark_at _ _ _ _ _ 2 rfl]; rfl, rfl⟩ ((KeepsOthers.alloc _ _).from _)
      ⟨by simp, fun k' _ hlt hm => ⟨Below.heap_alloc _ _ _ hlt, ours_grown (hgr _) (fun r e => by cases e) hm⟩, fun h k' hk' => ours_grown (hgr _) (fun r e => by cases e) (h k' (by simp at hk'; omega))⟩
      (hi.grown (hgr _) (fun r e => by cases e))
  case ha =>
    rintro x a' W W' row ⟨Bx, h0, h1, h2, rfl⟩ hg hr
    exact ⟨Bx, h0, cell_kept h1 hg (fun r e => (hr r e).2), cell_kept h2 hg (fun r e => (hr r e).2), rfl⟩
  case done =>
    rintro D xs W hD rfl ⟨v, h1, h2, h3, h4, h5, h6, h7⟩ hdef
    gi_wp2
    refine ⟨by simp, .inl ⟨_, _, rfl, run_takeDeferred hdef, ?_⟩⟩
    exact ⟨_, results_tmp rfl _ _ _, v, rfl, ownsRow_putObj h5 _ hdef rfl, h7.grown (grownBy_putObj' W D _) (by omega) (fun r e => by cases e; omega)⟩
  case body =>
    rintro l pre x a' W hH ⟨Bx, hBx, hx0, hx2, rfl⟩ hpre
    have hmem : x ∈ nodesOf ts := by
      obtain ⟨tl, htl⟩ := hpre
      rw [← htl]; simp
    have hwf := nodes_wf ts hok x hmem
    have hplen : pre.length < 1000000 := by have := hpre.length_le; rw [nodesOf_length, List.length_append] at this; simp at this; omega
    have HH := Lib.hid hH
    obtain ⟨v, h1, h2, h3, h4, h5, h6, h7⟩ := hH
    by_cases hk1 : (x.k != 1) = true
    · have hnum : numsOf ((pre ++ [x]).map Ts.mark) = numsOf (pre.map Ts.mark) := by
        have hk0 : (x.k == 1) = false := by simpa using hk1
        rw [List.map_append, numsOf, List.foldl_append]
        simp [numsOf, newNum, Ts.mark, hk0]
      have NUM := Lib.hid hnum
      clear hnum
      gi_wp2
      exact ⟨KeepsFrom.refl _ _, ⟨Nat.le_refl _, fun _ _ _ hm => ⟨rfl, hm⟩, fun h => h⟩, v, h1, h2, h3, by rw [NUM.out]; exact h4.mono (by simp), by rw [NUM.out]; exact h5, h6, h7⟩
    · rw [Bool.not_eq_true] at hk1
      have hkey : keyOf Try.prog 2 (.int .i64 x.n) = some (.int .i64 x.n) := Maps.keyOf_int_mk Try.underlying2 (by
        have hmin : IntKind.i64.min = -9223372036854775808 := rfl
        have hmax : IntKind.i64.max = 9223372036854775807 := rfl
        simp only [Lit.wf, Bool.and_eq_true, decide_eq_true_eq, hmin, hmax]; exact hwf)
      by_cases hin : (numsOf (pre.map Ts.mark)).contains x.n = true
      · have hhas : Maps.has (Sd (numsOf (pre.map Ts.mark))) (.int .i64 x.n) = true := by rw [has_Sd]; exact hin
        have hnum : numsOf ((pre ++ [x]).map Ts.mark) = numsOf (pre.map Ts.mark) := by
          have hk0 : (x.k == 1) = true := by simpa using hk1
          rw [List.map_append, numsOf, List.foldl_append]
          show newNum (numsOf (pre.map Ts.mark)) (x.k, x.n) = _
          simp only [newNum, hk0, if_true, hin]
        have NUM := Lib.hid hnum
        clear hnum
        gi_wp2_with (gi_at_lookup; refine wpListIn_lookup_own_unit _ rfl _ _ 89 rfl 2 93 (Maps.int_keyed Try.underlying2) Try.underlying89 (zeroUnit _) (w.heap.size + 1) pre.length _ rfl h4 _ _ rfl hkey ?_)
        have hgr : ∀ o : Obj, W.grownBy (W.alloc o) none := fun o => World.grownBy_alloc _ _ none
        exact ⟨(KeepsOthers.alloc _ _).from _, ⟨by simp, fun k' _ hlt hm => ⟨Below.heap_alloc _ _ _ hlt, ours_grown (hgr _) (fun r e => by cases e) hm⟩, fun h k' hk' => ours_grown (hgr _) (fun r e => by cases e) (h k' (by simp at hk'; omega))⟩,
          (HH.out.grown (hgr _) (fun r e => by cases e)).same NUM.out (by simp)⟩
      · rw [Bool.not_eq_true] at hin
        have hhas : Maps.has (Sd (numsOf (pre.map Ts.mark))) (.int .i64 x.n) = false := by rw [has_Sd]; exact hin
        have hnum : numsOf ((pre ++ [x]).map Ts.mark) = numsOf (pre.map Ts.mark) ++ [x.n] := by
          have hk0 : (x.k == 1) = true := by simpa using hk1
          rw [List.map_append, numsOf, List.foldl_append]
          show newNum (numsOf (pre.map Ts.mark)) (x.k, x.n) = _
          simp only [newNum, hk0, if_true, hin]
          rfl
        have hnl : (numsOf (pre.map Ts.mark)).length ≤ 1000000 := by have := numsOf_length (pre.map Ts.mark); rw [List.length_map] at this; omega
        have NUM := Lib.hid hnum
        clear hnum
        obtain ⟨i0, hi, hz0, hz1, hz2⟩ := info_parts infoI64
        have a3 : ∀ o, (W.alloc o).cell? ⟨w.heap.size + 1 + 1, 0, none⟩ = some (.map (some (w.heap.size + 1))) := fun o => cell_alloc_old o h3
        have a1 : ∀ o, (W.alloc o).cell? ⟨w.heap.size, 0, none⟩ = some v := fun o => cell_alloc_old o h1
        have ax : ∀ o, (W.alloc o).cell? ⟨Bx, 2, none⟩ = some (.int .i64 x.n) := fun o => cell_alloc_old o hx2
        obtain ⟨mo, hmo, hmc⟩ : ∃ o : Obj, W.heap[w.heap.size + 1]? = some o ∧ o.isCells = false := by
          obtain ⟨es, ck, hh, _⟩ := h4
          exact ⟨_, hh, rfl⟩
        have hne1 : v.ownBlock = none ∨ v.ownBlock ≠ some (w.heap.size + 1) := by
          cases hob : v.ownBlock with
          | none => exact .inl rfl
          | some g => exact .inr (fun e => by cases e; have := (h5.lt _ hob).1; omega)
        have hneR : some w.heap.size ≠ v.ownBlock := fun e => by have := (h5.lt _ e.symm).1; omega
        have hW1 : w.heap.size < W.heap.size := by omega
        have hmo' : ∀ o, (W.alloc o).heap[w.heap.size + 1]? = some mo := fun o => (Below.heap_alloc _ _ _ (by omega)).trans hmo
        gi_wp2_with (first
          | (gi_at_lookup; refine wpListIn_lookup_own_unit _ rfl _ _ 89 rfl 2 93 (Maps.int_keyed Try.underlying2) Try.underlying89 (zeroUnit _) (w.heap.size + 1) pre.length _ rfl h4 _ _ rfl hkey ?_)
          | (gi_at_mapUpdate; refine wpListIn_mapUpdate_own _ rfl _ _ _ 89 rfl 2 93 (Maps.int_keyed Try.underlying2) Try.underlying89 (unitElem (H := Unit)) (w.heap.size + 1) pre.length _ rfl (h4.alloc _) (by unfold maxLen; omega) _ _ _ rfl rfl hkey _ [] unitElem_mk ?_; intro w1 hown1 hgrow1; have b1 := cell_kept (a1 _) hgrow1 (fun r e => by cases e; exact ⟨mo, hmo' _, hmc⟩); have bx := cell_kept (ax _) hgrow1 (fun r e => by cases e; exact ⟨mo, hmo' _, hmc⟩); have d1 := fun o => cell_alloc_old o b1)
          | (gi_at_builtin; refine wpListIn_append_own_at _ rfl _ _ 48 rfl (w.heap.size + 4) 2 i0 (.int .i64 0) 1 8 Try.underlying48 hi hz0 hz1 hz2 rfl (by decide) _ _ _ rfl (((h5.alloc _).kept hgrow1 hne1).alloc _) ⟨w1.heap.size, 0, none⟩ 1 1 [.int .i64 x.n] rfl rfl (cell_one_new _ _ _) (by simp [Value.oneCell']) (by unfold maxLen; omega) (by omega) (by have := hgrow1.size; simp at this ⊢; omega) ?_; intro v' w2 hown2 hgrow2 hnil hob; obtain ⟨g', cap', rfl⟩ := ownsRow_succ hown2; have e1 : w2.cell? ⟨w.heap.size, 0, none⟩ = some v := (World.cell?_of_block (a := ⟨w.heap.size, 0, none⟩) (hgrow2.block _ (by have := hgrow1.size; simp at this ⊢; omega) hneR)).trans (d1 _); have e2 : w2.frozen? ⟨w.heap.size, 0, none⟩ = false := (World.frozen?_of_block (a := ⟨w.heap.size, 0, none⟩) (by rw [hgrow2.block _ (by have := hgrow1.size; simp at this ⊢; omega) hneR, Below.heap_alloc _ _ _ (by have := hgrow1.size; simp at this ⊢; omega), hgrow1.block _ (by simp; omega) (by simp), Below.heap_alloc _ _ _ hW1])).trans h2))
        have hob : (some g' : Option Nat) = v.ownBlock ∨ (some g' : Option Nat) = some (w1.alloc (.cells #[.int .i64 x.n] 2)).heap.size := hob
        have hgrow2 : (w1.alloc (.cells #[.int .i64 x.n] 2)).grownBy w2 v.ownBlock := hgrow2
        have s1 : W.heap.size + 1 ≤ w1.heap.size := by have := hgrow1.size; simp at this; omega
        have s2 : w1.heap.size + 1 ≤ w2.heap.size := by have := hgrow2.size; simp at this; omega
        have far2 : ∀ q, q < W.heap.size → q ≠ w.heap.size + 1 → some q ≠ v.ownBlock → w2.heap[q]? = W.heap[q]? := fun q hq hq1 hq2 => by
          rw [hgrow2.block q (by simp; omega) hq2, Below.heap_alloc _ _ _ (by omega), hgrow1.block q (by simp; omega) (by simpa using hq1), Below.heap_alloc _ _ _ hq]
        have hown : ∀ q, v.ownBlock = some q → w.heap.size + 4 ≤ q ∧ (∃ cs t fz, W.heap[q]? = some (.cells cs t fz)) ∧ ours w.heap.size W q := fun q hq => by
          rcases h5.2 with ⟨rfl, _⟩ | ⟨g, cap, cur, rfl, hge, hh, _⟩
          · cases hq
          · cases hq
            exact ⟨hge, ⟨_, _, _, hh⟩, .inr (.inr ⟨hge, .inr ⟨0, _, _, h1⟩⟩)⟩
        have hg'lt := hown2.lt g' rfl
        obtain ⟨W5, hW5⟩ : ∃ W5, W5 = w2.setCell ⟨w.heap.size, 0, none⟩ (.slice (some ⟨g', 0, none⟩) ((numsOf (pre.map Ts.mark)).length + 1) cap') := ⟨_, rfl⟩
        have hg5 : w2.grownBy W5 (some w.heap.size) := by rw [hW5]; exact ⟨rfl, rfl, rfl, by simp, fun k hk hne => Below.heap_setCell _ _ _ _ (fun e => hne (by rw [e]))⟩
        have hs5 : W5.heap.size = w2.heap.size := by rw [hW5]; simp
        have hc5 : W5.cell? ⟨w.heap.size, 0, none⟩ = some (.slice (some ⟨g', 0, none⟩) ((numsOf (pre.map Ts.mark)).length + 1) cap') := by rw [hW5]; exact World.cell?_setCell_same _ _ _ e1
        have hf5 : W5.frozen? ⟨w.heap.size, 0, none⟩ = false := by rw [hW5, World.frozen?_setCell]; exact e2
        have hB5 : Below w.heap.size w W5 := by rw [hW5]; exact ((((h7.alloc (by omega) _).grown hgrow1 (by simp; omega) (fun r e => by cases e; omega)).alloc (by omega) _).grown hgrow2 (by simp; omega) (fun r e => by have := (hown r e).1; omega)).setCell (p := ⟨w.heap.size, 0, none⟩) (Nat.le_refl _) _
        have far5 : ∀ q, q < W.heap.size → q ≠ w.heap.size → q ≠ w.heap.size + 1 → some q ≠ v.ownBlock → W5.heap[q]? = W.heap[q]? := fun q hq h0 hq1 hq2 => by
          rw [hg5.block q (by omega) (by simpa using h0), far2 q hq hq1 hq2]
        have hno5 : ∀ q, q < W.heap.size → ¬ ours w.heap.size W q → ¬ ours w.heap.size W5 q := fun q hq hn h => by
          rcases h with h | h | ⟨h, h' | ⟨o, ln, cp, h'⟩⟩
          · exact hn (.inl h)
          · exact hn (.inr (.inl h))
          · omega
          · rw [hc5] at h'
            cases h'
            rcases hob with h | h
            · exact hn (hown _ h.symm).2.2
            · simp at h; omega
        rw [← hW5]
        refine ⟨⟨by omega, fun q o hq hqo hno => ?_⟩, ⟨by omega, fun q _ hlt hn => ⟨far5 q hlt (fun e => hn (.inl e)) (fun e => hn (.inr (.inl e))) (fun e => hn (hown q e.symm).2.2), hno5 q hlt hn⟩, fun _ q hq h => ?_⟩, _, hc5, hf5, ?_, ?_, ?_, by omega, hB5⟩
        · have hlt := (Array.getElem?_eq_some_iff.1 hqo).1
          rw [far5 q hlt (by omega) (by omega) (fun e => by obtain ⟨_, ⟨cs, t, fz, hh⟩, _⟩ := hown q e.symm; rw [hh] at hqo; cases hqo; cases hno)]
          exact hqo
        · rcases h with h | h | ⟨h, h' | ⟨o, ln, cp, h'⟩⟩
          · omega
          · omega
          · omega
          · rw [hc5] at h'
            cases h'
            omega
        · exact (World.cell?_of_block (a := ⟨w.heap.size + 1 + 1, 0, none⟩) (far5 _ (by simp; omega) (by simp; omega) (by simp) (fun e => by have := (hown _ e.symm).1; simp at this; omega))).trans h3
        · rw [NUM.out, Sd_new]
          have := (hown1.alloc (.cells #[.int .i64 x.n] 2)).kept hgrow2 (fun e => by have := (hown _ e.symm).1; omega)
          simpa using this.kept hg5 (fun e => by simp at e)
        · rw [NUM.out]
          have := hown2.kept hg5 (.inr (fun e => by simp [Value.ownBlock] at e; omega))
          simpa using this

end Go.Proofs.Ytflomdnjabgnaaa
