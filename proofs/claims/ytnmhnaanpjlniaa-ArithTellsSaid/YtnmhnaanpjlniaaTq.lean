import Derived.Test.YtnmhnaanpjlniaaTp
import Derived.Test.YtnmhnaanpjlniaaTf
import Derived.Deep.QuietTactic
import Derived.BigQuiet
/-
  Plain facts of lists of terms: how many nodes the law lets in; twins are alike in all that is asked.
-/
namespace Go.Proofs.Ytnmhnaanpjlniaa
open Go.RowKit

theorem manyP_size : ∀ (ts : Ts) (n : Int), 0 ≤ n → manyP ts n < 2000 → n + (ts.size : Int) ≤ manyP ts n
  | .nil, n, _, _ => by simp [manyP, Ts.size]
  | .cons _ s _ _ _ kids rest, n, h0, h => by
    unfold manyP at h ⊢
    by_cases hn : n < 2000
    · rw [if_pos hn] at h ⊢
      have hd : 0 ≤ (s.size : Int) / 200 * 2000 := by omega
      have h1 := manyP_ge rest (manyP kids (n + 1 + (s.size : Int) / 200 * 2000))
      have h2 := manyP_ge kids (n + 1 + (s.size : Int) / 200 * 2000)
      have h3 := manyP_size kids (n + 1 + (s.size : Int) / 200 * 2000) (by omega) (by omega)
      have h4 := manyP_size rest _ (by omega) h
      simp only [Ts.size]
      omega
    · rw [if_neg hn] at h
      omega

theorem small_of_many {ts : Ts} (h : decide (1000 < manyP ts 0) = false) : ts.size ≤ 1000 := by
  have h1 : ¬ 1000 < manyP ts 0 := by simpa using h
  have h2 := manyP_size ts 0 (by omega) (by omega)
  omega

theorem alike_refl : ∀ ts : Ts, alike ts ts = true
  | .nil => rfl
  | .cons _ s _ _ _ kids rest => by
    have : (s.toList == s.toList) = true := by simp
    simp only [alike, alike_refl kids, alike_refl rest, this, beq_self_eq_true, Bool.and_self]

namespace Ts
theorem twin_symm : ∀ (us ts : Ts), twin us ts → twin ts us
  | .nil, .nil, _ => trivial
  | .cons _ _ _ _ _ k r, .cons _ _ _ _ _ k' r', h => ⟨h.1.symm, h.2.1.symm, h.2.2.1.symm, twin_symm k k' h.2.2.2.1, twin_symm r r' h.2.2.2.2⟩
  | .nil, .cons .., h => h.elim
  | .cons .., .nil, h => h.elim

theorem twin_alike : ∀ (us ts vs : Ts), twin us ts → alike us vs = alike ts vs
  | .nil, .nil, _, _ => rfl
  | .cons _ _ _ _ _ k r, .cons _ _ _ _ _ k' r', .cons _ _ _ _ _ k2 r2, h => by
    obtain ⟨rfl, rfl, rfl, h1, h2⟩ := h
    simp only [alike, twin_alike k k' k2 h1, twin_alike r r' r2 h2]
  | .cons .., .cons .., .nil, _ => by simp [alike]
  | .nil, .cons .., _, h => h.elim
  | .cons .., .nil, _, h => h.elim

theorem twin_depth : ∀ (us ts : Ts), twin us ts → depthL us = depthL ts
  | .nil, .nil, _ => rfl
  | .cons _ _ _ _ _ k r, .cons _ _ _ _ _ k' r', h => by simp only [depthL, twin_depth k k' h.2.2.2.1, twin_depth r r' h.2.2.2.2]
  | .nil, .cons .., h => h.elim
  | .cons .., .nil, h => h.elim

theorem twin_shape : ∀ (us ts : Ts), twin us ts → shapeL us = shapeL ts
  | .nil, .nil, _ => rfl
  | .cons _ _ _ _ _ k r, .cons _ _ _ _ _ k' r', h => by
    obtain ⟨rfl, rfl, rfl, h1, h2⟩ := h
    simp only [shapeL, twin_shape k k' h1, twin_shape r r' h2, twin_len k k' h1]
  | .nil, .cons .., h => h.elim
  | .cons .., .nil, h => h.elim

/-- of a node, what stays the same in a twin -/
def mark (x : Nd) : Int × Int := (x.k, x.n)

theorem twin_marks : ∀ (us ts : Ts), twin us ts → (nodesOf us).map mark = (nodesOf ts).map mark
  | .nil, .nil, _ => rfl
  | .cons _ _ _ _ _ k r, .cons _ _ _ _ _ k' r', h => by
    obtain ⟨rfl, rfl, rfl, h1, h2⟩ := h
    simp only [nodesOf, List.map_cons, List.map_append, twin_marks k k' h1, twin_marks r r' h2, mark]
  | .nil, .cons .., h => h.elim
  | .cons .., .nil, h => h.elim
end Ts

theorem noVar_marks (l : List Nd) : noVar l = (l.map Ts.mark).all fun x => !(x.1 == 1) := by
  simp only [noVar, List.all_map]
  rfl

/-- the numbers of the variables, each once -/
def newNum (acc : List Int) (x : Int × Int) : List Int := if x.1 == 1 then (if acc.contains x.2 then acc else acc ++ [x.2]) else acc
def numsOf (l : List (Int × Int)) : List Int := l.foldl newNum []

/-- each number is within 64 bits -/
theorem nodes_wf : ∀ (ts : Ts), ts.ok → ∀ x ∈ nodesOf ts, -9223372036854775808 ≤ x.n ∧ x.n ≤ 9223372036854775807
  | .nil, _, x, hx => by cases hx
  | .cons k s n p c kids rest, h, x, hx => by
    rcases List.mem_cons.1 hx with rfl | hx
    · exact h.2.2.1
    · rcases List.mem_append.1 hx with hx | hx
      · exact nodes_wf kids h.2.2.2.2.2.1 x hx
      · exact nodes_wf rest h.2.2.2.2.2.2 x hx

end Go.Proofs.Ytnmhnaanpjlniaa
/-
  Lists of numbers: In, Numbers.
-/
namespace Go.Proofs.Ytnmhnaanpjlniaa
open Go.RowKit

/-- a list of numbers lies where a slice leads -/
def IsInts (w : World) (p : Option Addr) (zs : List Int) : Prop := ∃ b o, (zs = [] ∨ p = some ⟨b, o, none⟩) ∧ ∀ (i : Nat) (h : i < zs.length), w.cell? ⟨b, o + i, none⟩ = some (.int .i64 zs[i])

theorem some_of_ints {zs : List Int} {p : Option Addr} {b o j : Nat} (h : zs = [] ∨ p = some ⟨b, o, none⟩) (hj : j < zs.length) : p = some ⟨b, o, none⟩ := by
  rcases h with rfl | h
  · simp at hj
  · exact h

set_option maxRecDepth 100000 in
set_option maxHeartbeats 1000000 in
theorem in_any (zs : List Int) (n : Int) (w : World) (p : Option Addr) (c : Nat) (hlen : zs.length ≤ 1000000) (hi : IsInts w p zs) :
    Calls Try.prog 45 #[.slice p zs.length c, .int .i64 n] w fun e w' => e = .returned (.bool (decide (n ∈ zs))) ∧ w' = w := by
  obtain ⟨b, o, hp, hz⟩ := hi
  have HZ := Lib.hid hz
  clear hz
  go_enter Try.func45, Try.ntmps45
  go_wp2
  go_loop [5] (fun i => ∃ (j : Nat), j ≤ zs.length ∧ i = .int .i64 j ∧ (∀ x ∈ zs.take j, ¬ x = n)) (fun i => zs.length - (intOf i).toNat)
  case atStart => exact ⟨0, Nat.zero_le _, rfl, by simp⟩
  case round =>
    obtain ⟨j, hj, rfl, hno⟩ := hrel
    have NO := Lib.hid hno
    clear hno
    by_cases hlt : j < zs.length
    · obtain rfl := some_of_ints hp hlt
      obtain ⟨z, hz⟩ : ∃ z, z = zs[j] := ⟨_, rfl⟩
      have hc : w.cell? ⟨b, o + j, none⟩ = some (.int .i64 z) := by rw [hz]; exact HZ.out j hlt
      have ZE := Lib.hid hz
      clear hz hp
      by_cases he : (z == n) = true
      · have HE := Lib.hid he
        go_wp2
        go_ret
        refine ⟨?_, rfl⟩
        have h1 := HE.out
        have hzn : z = n := by simpa using h1
        have : n ∈ zs := by rw [← hzn, ZE.out]; exact List.getElem_mem hlt
        rw [decide_eq_true this]
        rfl
      · rw [Bool.not_eq_true] at he
        have HE := Lib.hid he
        go_wp2
        go_round
        case rel =>
          refine ⟨j + 1, by omega, by go_num, ?_⟩
          intro x hx
          rw [List.take_succ_eq_append_getElem hlt] at hx
          rcases List.mem_append.1 hx with hx | hx
          · exact NO.out x hx
          · have h1 := HE.out
            have h2 : x = z := by rw [ZE.out]; simpa using hx
            rw [h2]; simpa using h1
        case measure => simp [intOf]; omega
    · go_wp2
      go_ret
      refine ⟨?_, rfl⟩
      have : ¬ n ∈ zs := fun hm => NO.out n (by rw [List.take_of_length_le (by omega)]; exact hm) rfl
      rw [decide_eq_false this]
      rfl

set_option maxRecDepth 100000 in
set_option maxHeartbeats 1000000 in
theorem numbers_any (zs ys : List Int) (w : World) (p p' : Option Addr) (c c' : Nat) (hlen : zs.length ≤ 1000000) (hlen' : ys.length ≤ 1000000) (hi : IsInts w p zs) (hi' : IsInts w p' ys) :
    Calls Try.prog 40 #[.slice p zs.length c, .slice p' ys.length c'] w fun e w' => e = .returned (.bool (decide (zs = ys))) ∧ ∃ q, w' = w.drewN q := by
  obtain ⟨b, o, hp, hz⟩ := hi
  obtain ⟨b', o', hp', hz'⟩ := hi'
  have HZ := Lib.hid hz
  have HZ' := Lib.hid hz'
  clear hz hz'
  by_cases hl : zs.length = ys.length
  · have HL := Lib.hid hl
    have el : ((zs.length : Int) != (ys.length : Int)) = false := by rw [hl]; simp
    clear hl
    go_enter Try.func40, Try.ntmps40
    go_wp2
    go_loopw [5] (fun i wr => ∃ (j : Nat), j ≤ zs.length ∧ i = .int .i64 j ∧ (∀ (m : Nat) (h : m < zs.length) (h' : m < ys.length), m < j → zs[m] = ys[m]) ∧ ∃ q, wr = w.drewN q) (fun i _ => zs.length - (intOf i).toNat)
    case atStart => exact ⟨0, Nat.zero_le _, rfl, fun m _ _ h => by omega, 0, rfl⟩
    case round =>
      rename_i wr _
      obtain ⟨j, hj, rfl, hno, q, hq⟩ := hrel
      have NO := Lib.hid hno
      have Q := Lib.hid hq
      clear hno
      by_cases hlt : j < zs.length
      · have hlt' : j < ys.length := by have := HL.out; omega
        obtain rfl := some_of_ints hp hlt
        obtain rfl := some_of_ints hp' hlt'
        obtain ⟨z, hz⟩ : ∃ z, z = zs[j] := ⟨_, rfl⟩
        obtain ⟨y, hy⟩ : ∃ y, y = ys[j] := ⟨_, rfl⟩
        have hc : wr.cell? ⟨b, o + j, none⟩ = some (.int .i64 z) := by rw [hq, hz]; exact HZ.out j hlt
        have hc' : wr.cell? ⟨b', o' + j, none⟩ = some (.int .i64 y) := by rw [hq, hy]; exact HZ'.out j hlt'
        have ZE := Lib.hid hz
        have YE := Lib.hid hy
        clear hz hy hp hp' hq
        by_cases he : (z != y) = true
        · have HE := Lib.hid he
          go_wp2
          go_quiet (fail)
          go_wp2
          go_ret
          refine ⟨?_, q + nq, by rw [Q.out, World.drewN_drewN]⟩
          have h1 := HE.out
          rw [decide_eq_false (fun h => by subst h; rw [ZE.out, YE.out] at h1; simp at h1)]
          rfl
        · rw [Bool.not_eq_true] at he
          have HE := Lib.hid he
          go_wp2
          go_quiet (fail)
          go_wp2
          go_roundw
          case rel =>
            refine ⟨j + 1, by omega, by go_num, ?_, q + nq, by rw [Q.out, World.drewN_drewN]⟩
            intro m h h' hm
            by_cases e : m = j
            · subst e
              have h1 := HE.out
              rw [← ZE.out, ← YE.out]
              simpa using h1
            · exact NO.out m h h' (by omega)
          case measure => simp [intOf]; omega
      · have hzy : zs = ys := List.ext_getElem HL.out fun m h h' => NO.out m h h' (by omega)
        have HH := Lib.hid hzy
        clear hzy hq
        go_wp2
        go_ret
        refine ⟨?_, q, Q.out⟩
        rw [decide_eq_true HH.out]
        rfl
  · have el : ((zs.length : Int) != (ys.length : Int)) = true := by simp; omega
    have NE := Lib.hid hl
    clear hl
    go_enter Try.func40, Try.ntmps40
    go_wp2
    go_ret
    refine ⟨?_, 0, rfl⟩
    rw [decide_eq_false (fun h => NE.out (by rw [h]))]
    rfl

end Go.Proofs.Ytnmhnaanpjlniaa
