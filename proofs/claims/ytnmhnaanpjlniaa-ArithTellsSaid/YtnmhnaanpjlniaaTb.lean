import Derived.Test.YtnmhnaanpjlniaaRows
import Derived.ProofKit
import Derived.WalkKit
import Derived.WalkSpells
import Derived.WalkLawsBesides
import Derived.WalkSmall
import Derived.Lib.Hide
import Derived.Deep.QuietTactic
import Derived.BigQuiet
/-
  Lists of terms as they lie in memory: a list is a first term, its parts, and the rest; and whatever reads as a list of terms, or as a term, lies so.
-/
namespace Go.Proofs.Ytnmhnaanpjlniaa
open Go.RowKit Go.WideShapes

/-- a list of terms, with the places where their parts lie -/
inductive Ts where
  | nil
  | cons (k : Int) (s : ByteArray) (n : Int) (p : Option Addr) (cap : Nat) (kids rest : Ts)

namespace Ts
def len : Ts → Nat
  | .nil => 0
  | .cons _ _ _ _ _ _ r => r.len + 1

/-- how many nodes -/
def size : Ts → Nat
  | .nil => 0
  | .cons _ _ _ _ _ k r => k.size + r.size + 1

/-- the cells lie from a place on, and those of the parts where the pointers lead -/
def lies (w : World) : Nat → Nat → Ts → Prop
  | _, _, .nil => True
  | b, o, .cons k s n p cap kids rest =>
    w.cell? ⟨b, o, none⟩ = some (.int .u8 k) ∧ w.cell? ⟨b, o + 1, none⟩ = some (.string s) ∧ w.cell? ⟨b, o + 2, none⟩ = some (.int .i64 n) ∧ w.cell? ⟨b, o + 3, none⟩ = some (.slice p kids.len cap) ∧
    (∃ b' o', (kids = .nil ∨ p = some ⟨b', o', none⟩) ∧ lies w b' o' kids) ∧ lies w b (o + 4) rest

/-- a slice's value leads to a list -/
def At (w : World) (p : Option Addr) (ts : Ts) : Prop := ∃ b o, (ts = .nil ∨ p = some ⟨b, o, none⟩) ∧ ts.lies w b o

/-- numbers are of their kinds, names and lists not too long -/
def ok : Ts → Prop
  | .nil => True
  | .cons k s n p cap kids rest => (0 ≤ k ∧ k ≤ 255) ∧ s.size ≤ 140737488351232 ∧ (-9223372036854775808 ≤ n ∧ n ≤ 9223372036854775807) ∧ (kids.len ≤ cap ∧ cap ≤ 9223372036854775807) ∧ (p = none → cap = 0) ∧ kids.ok ∧ rest.ok

def drop : Nat → Ts → Ts
  | 0, ts => ts
  | _ + 1, .nil => .nil
  | i + 1, .cons _ _ _ _ _ _ r => r.drop i

theorem len_zero {ts : Ts} (h : ts.len = 0) : ts = .nil := by
  cases ts with
  | nil => rfl
  | cons => simp [len] at h

theorem drop_len : ∀ (i : Nat) (ts : Ts), (ts.drop i).len = ts.len - i
  | 0, _ => rfl
  | _ + 1, .nil => by simp [drop, len]
  | i + 1, .cons _ _ _ _ _ _ r => by simp only [drop, len]; rw [drop_len i r]; omega

theorem drop_succ : ∀ (i : Nat) (ts : Ts) {k s n p cap kids rest}, ts.drop i = .cons k s n p cap kids rest → ts.drop (i + 1) = rest
  | 0, .cons _ _ _ _ _ _ r, _, _, _, _, _, _, _, h => by cases h; cases r <;> rfl
  | _ + 1, .nil, _, _, _, _, _, _, _, h => by simp [drop] at h
  | i + 1, .cons _ _ _ _ _ _ r, _, _, _, _, _, _, _, h => drop_succ i r h

theorem drop_cons {i : Nat} {ts : Ts} (h : i < ts.len) : ∃ k s n p cap kids rest, ts.drop i = .cons k s n p cap kids rest := by
  have h1 := drop_len i ts
  cases hd : ts.drop i with
  | nil => rw [hd] at h1; simp [len] at h1; omega
  | cons k s n p cap kids rest => exact ⟨_, _, _, _, _, _, _, rfl⟩

theorem drop_size : ∀ (i : Nat) (ts : Ts), (ts.drop i).size ≤ ts.size
  | 0, _ => Nat.le_refl _
  | _ + 1, .nil => Nat.le_refl _
  | i + 1, .cons _ _ _ _ _ _ r => by have := drop_size i r; simp only [drop, size]; omega

theorem lies_drop {w : World} : ∀ (i : Nat) (ts : Ts) {b o : Nat}, ts.lies w b o → (ts.drop i).lies w b (o + 4 * i)
  | 0, _, _, _, h => h
  | _ + 1, .nil, _, _, _ => trivial
  | i + 1, .cons _ _ _ _ _ _ r, b, o, h => by
    have := lies_drop i r h.2.2.2.2.2
    rw [show o + 4 * (i + 1) = o + 4 + 4 * i from by omega]
    exact this

theorem ok_drop : ∀ (i : Nat) (ts : Ts), ts.ok → (ts.drop i).ok
  | 0, _, h => h
  | _ + 1, .nil, h => h
  | i + 1, .cons _ _ _ _ _ _ r, h => ok_drop i r h.2.2.2.2.2.2

/-- it lies there while old cells stay -/
theorem lies_stay {w w' : World} (hc : ∀ b o, b < w.heap.size → w'.cell? ⟨b, o, none⟩ = w.cell? ⟨b, o, none⟩) : ∀ (ts : Ts) {b o : Nat}, ts.lies w b o → ts.lies w' b o
  | .nil, _, _, _ => trivial
  | .cons k s n p cap kids rest, b, o, ⟨h0, h1, h2, h3, ⟨b', o', h4, h5⟩, h6⟩ => by
    have hb : b < w.heap.size := World.block_lt_of_cell? _ _ h0
    exact ⟨(hc _ _ hb).trans h0, (hc _ _ hb).trans h1, (hc _ _ hb).trans h2, (hc _ _ hb).trans h3, ⟨b', o', h4, lies_stay hc kids h5⟩, lies_stay hc rest h6⟩

theorem At.stay {w w' : World} {p : Option Addr} {ts : Ts} (h : At w p ts) (hc : ∀ b o, b < w.heap.size → w'.cell? ⟨b, o, none⟩ = w.cell? ⟨b, o, none⟩) : At w' p ts := by
  obtain ⟨b, o, h1, h2⟩ := h
  exact ⟨b, o, h1, lies_stay hc ts h2⟩

theorem At.below {w w' : World} {p : Option Addr} {ts : Ts} (h : At w p ts) (hB : Below w.heap.size w w') : At w' p ts :=
  h.stay fun b o hb => hB.cell (p := ⟨b, o, none⟩) hb
end Ts

theorem u8_of_wf {n : Int} (h : (Lit.int .u8 n).wf = true) : 0 ≤ n ∧ n ≤ 255 := by
  have hmin : IntKind.u8.min = 0 := rfl
  have hmax : IntKind.u8.max = 255 := rfl
  simp only [Lit.wf, Bool.and_eq_true, decide_eq_true_eq, hmin, hmax] at h
  exact h
theorem i64_of_wf {n : Int} (h : (Lit.int .i64 n).wf = true) : -9223372036854775808 ≤ n ∧ n ≤ 9223372036854775807 := by
  have hmin : IntKind.i64.min = -9223372036854775808 := rfl
  have hmax : IntKind.i64.max = 9223372036854775807 := rfl
  simp only [Lit.wf, Bool.and_eq_true, decide_eq_true_eq, hmin, hmax] at h
  exact h

section
variable {H : Type} {enc : TypeId × Value → H} {base : Nat} {sp : Nat → Bool} {hd : Bool}

theorem cellsTerm : Try.prog.cellsOf 25 = 4 := by kernel_rfl
theorem cellsU8 : Try.prog.cellsOf 5 = 1 := by kernel_rfl
theorem cellsStr : Try.prog.cellsOf 9 = 1 := by kernel_rfl
theorem cellsI64 : Try.prog.cellsOf 2 = 1 := by kernel_rfl
theorem cellsTerms : Try.prog.cellsOf 23 = 1 := by kernel_rfl

theorem bytesTerm : Try.prog.bytesOf 25 = 56 := by kernel_rfl

theorem reach_eq : reachBytes = 140737488351232 := rfl

theorem weights_all {P : Program} {e : TypeId} : ∀ {ds : List (DataW H)} {d : DataW H}, d ∈ ds → ∀ n ∈ d.weights P e, n ∈ DataW.weightsAll P e ds
  | d0 :: ds, d, hd, n, hn => by
    simp only [DataW.weightsAll, List.mem_append]
    rcases List.mem_cons.1 hd with rfl | h
    · exact .inl hn
    · exact .inr (weights_all h n hn)

set_option maxRecDepth 4000 in
/-- a term's cells, as they read -/
theorem open_term_cells {w : World} {fuel : Nat} {cs : List Value} {x : DataW H × List MemPlace} (h : DataW.trod enc Try.prog w base sp hd fuel 25 cs = some x)
    (hw : ∀ m ∈ x.1.weights Try.prog 25, m ≤ reachBytes) :
    ∃ (k : Int) (s : ByteArray) (n : Int) (v : Value) (y : DataW H × List MemPlace) (m : Nat), m < fuel ∧ cs = [.int .u8 k, .string s, .int .i64 n, v] ∧ (0 ≤ k ∧ k ≤ 255) ∧ s.size ≤ 140737488351232 ∧ (-9223372036854775808 ≤ n ∧ n ≤ 9223372036854775807) ∧
      DataW.trod enc Try.prog w base sp hd m 23 [v] = some y ∧ (∀ m ∈ y.1.weights Try.prog 23, m ≤ reachBytes) := by
  obtain ⟨xs, m, rfl, rfl, hl, hlen, hf⟩ := DataW.trod_struct Try.underlying25 h
  rw [cellsTerm] at hl
  match cs, hl with
  | [c0, c1, c2, c3], _ =>
    match xs, hlen with
    | [x0, x1, x2, x3], _ =>
      have f0 : DataW.trod enc Try.prog w base sp hd m 5 [c0] = some x0 := by have := hf 0 _ rfl; simpa [cellsU8] using this
      have f1 : DataW.trod enc Try.prog w base sp hd m 9 [c1] = some x1 := by have := hf 1 _ rfl; simpa [cellsStr] using this
      have f2 : DataW.trod enc Try.prog w base sp hd m 2 [c2] = some x2 := by have := hf 2 _ rfl; simpa [cellsI64] using this
      have f3 : DataW.trod enc Try.prog w base sp hd m 23 [c3] = some x3 := by have := hf 3 _ rfl; simpa [cellsTerms] using this
      obtain ⟨k, e0, _, w0⟩ := DataW.trod_int Try.underlying5 f0
      obtain ⟨s, e1, rfl, w1⟩ := DataW.trod_string Try.underlying9 f1
      obtain ⟨n, e2, _, w2⟩ := DataW.trod_int Try.underlying2 f2
      simp only [List.cons.injEq, and_true] at e0 e1 e2
      subst e0 e1 e2
      have hin : ∀ q, q ∈ DataW.weightsEach Try.prog [5, 9, 2, 23] [x0.1, .lit (.string s.data.toList), x2.1, x3.1] → q ≤ reachBytes := fun q hq => by
        refine hw q ?_
        simp only [List.map_cons, List.map_nil, DataW.weights, Try.underlying25]
        exact hq
      have hs : s.size ≤ 140737488351232 := by
        have := hin s.data.toList.length (DataW.weights_mem_each (j := 1) rfl rfl _ (by simp [DataW.weights]))
        rw [reach_eq] at this
        simpa using this
      exact ⟨k, s, n, c3, x3, m, Nat.lt_succ_self _, rfl, u8_of_wf w0, hs, i64_of_wf w2, f3, fun q hq => hin q (DataW.weights_mem_each (j := 3) rfl rfl q hq)⟩

set_option maxRecDepth 100000 in
/-- whatever reads as a list of terms lies as one -/
theorem open_terms {w : World} : ∀ (fuel : Nat) {v : Value} {x : DataW H × List MemPlace}, DataW.trod enc Try.prog w base (fun _ => true) hd fuel 23 [v] = some x →
    (∀ m ∈ x.1.weights Try.prog 23, m ≤ reachBytes) →
    ∃ (p : Option Addr) (ts : Ts) (cap : Nat), v = .slice p ts.len cap ∧ Ts.At w p ts ∧ ts.ok ∧ ts.len ≤ cap ∧ cap * 56 ≤ 140737488351232 ∧ (p = none → cap = 0) := by
  intro fuel
  induction fuel using Nat.strongRecOn with
  | ind fuel ih =>
    intro v x h hw
    rcases DataW.trod_slice Try.underlying23 h with ⟨hcs, rfl⟩ | ⟨a, len, cap, elems, rest, n, rfl, hcs, rfl, hb, hl, hm, hlen, hel, hsp, _⟩
    · simp only [List.cons.injEq, and_true] at hcs
      subst hcs
      exact ⟨none, .nil, 0, rfl, ⟨0, 0, .inl rfl, trivial⟩, trivial, Nat.le_refl _, by omega, fun _ => rfl⟩
    · simp only [List.cons.injEq, and_true] at hcs
      subst hcs
      have hrest := (hsp rfl).1
      have hW : ∀ q, q ∈ ((elems.map (·.1)).length + (rest.map (·.1)).length) * 56 :: (DataW.weightsAll Try.prog 25 (elems.map (·.1)) ++ DataW.weightsAll Try.prog 25 (rest.map (·.1))) → q ≤ reachBytes := fun q hq => by
        refine hw q ?_
        simp only [DataW.weights, Try.underlying23, bytesTerm]
        exact hq
      have hcap : cap * 56 ≤ 140737488351232 := by
        have h1 := hW _ (List.mem_cons_self ..)
        simp only [List.length_map, hlen, hrest] at h1
        rw [reach_eq] at h1
        rw [show len + (cap - len) = cap from by omega] at h1
        exact h1
      have hspot0 : 0 < len → a.spot = none := fun h0 => by
        have hi := hel 0 h0
        have hlt : 0 < elems.length := by omega
        rw [List.getElem?_eq_getElem hlt] at hi
        obtain ⟨cs, hcs, _⟩ := Option.bind_eq_some_iff.1 hi
        rw [cellsTerm] at hcs
        obtain ⟨_, hcl, hcell⟩ := World.cells?_some hcs
        have h1 := hcell 0 (by omega)
        rw [List.getElem?_eq_getElem (by omega)] at h1
        have h2 := World.cell?_spot h1
        simpa [Addr.add] using h2
      have build : ∀ j, j ≤ len → ∃ ts : Ts, ts.len = j ∧ ts.lies w a.block (a.off + 4 * (len - j)) ∧ ts.ok ∧ (ts = .nil ∨ a.spot = none) := by
        intro j
        induction j with
        | zero => exact fun _ => ⟨.nil, rfl, trivial, trivial, .inl rfl⟩
        | succ j ihj =>
          intro hj
          obtain ⟨ts, h1, h2, h3, _⟩ := ihj (by omega)
          have hi := hel (len - (j + 1)) (by omega)
          have hget : ∃ y, elems[len - (j + 1)]? = some y ∧ y ∈ elems := by
            have hlt : len - (j + 1) < elems.length := by omega
            exact ⟨elems[len - (j + 1)], List.getElem?_eq_getElem hlt, List.getElem_mem hlt⟩
          obtain ⟨y, hy, hmem⟩ := hget
          rw [hy] at hi
          obtain ⟨cs, hcs, hread⟩ := Option.bind_eq_some_iff.1 hi
          rw [cellsTerm] at hcs
          obtain ⟨_, hcl, hcell⟩ := World.cells?_some hcs
          obtain ⟨k, s, m', v', y', f, hf, rfl, hk, hs, hm', hkid, hkw⟩ := open_term_cells hread (fun q hq => hW q (List.mem_cons_of_mem _ (List.mem_append_left _ (weights_all (List.mem_map.2 ⟨y, hmem, rfl⟩) q hq))))
          obtain ⟨p, ks, kc, rfl, hat, hok, hkl, hkc, hpn⟩ := ih f (by omega) hkid hkw
          have hspot := hspot0 (by omega)
          obtain ⟨b, off, spot⟩ := a
          simp only at hspot
          subst hspot
          have c0 := hcell 0 (by omega)
          have c1 := hcell 1 (by omega)
          have c2 := hcell 2 (by omega)
          have c3 := hcell 3 (by omega)
          simp only [add_plain, List.getElem?_cons_zero, List.getElem?_cons_succ] at c0 c1 c2 c3
          have eo : off + (len - (j + 1)) * 4 = off + 4 * (len - (j + 1)) := by omega
          rw [eo] at c0 c1 c2 c3
          refine ⟨.cons k s m' p kc ks ts, by simp [Ts.len, h1], ⟨c0, c1, c2, c3, hat, ?_⟩, ⟨hk, hs, hm', ⟨hkl, by omega⟩, hpn, hok, h3⟩, .inr rfl⟩
          rw [show off + 4 * (len - (j + 1)) + 4 = off + 4 * (len - j) from by omega]
          exact h2
      obtain ⟨ts, h1, h2, h3, h4⟩ := build len (Nat.le_refl _)
      refine ⟨some a, ts, cap, by rw [h1], ?_, h3, by omega, hcap, fun h => by cases h⟩
      rcases h4 with rfl | h4
      · exact ⟨0, 0, .inl rfl, trivial⟩
      · obtain ⟨b, off, spot⟩ := a
        simp only at h4
        subst h4
        rw [show off + 4 * (len - len) = off from by omega] at h2
        exact ⟨b, off, .inr rfl, h2⟩
end

end Go.Proofs.Ytnmhnaanpjlniaa
/-
  How many nodes the law counts; whether two lists are alike.
-/
namespace Go.Proofs.Ytnmhnaanpjlniaa
open Go.RowKit

/-- the law's own count -/
def manyP : Ts → Int → Int
  | .nil, n => n
  | .cons _ s _ _ _ kids rest, n => if n < 2000 then manyP rest (manyP kids (n + 1 + (s.size : Int) / 200 * 2000)) else n

theorem manyP_ge : ∀ (ts : Ts) (n : Int), n ≤ manyP ts n
  | .nil, _ => Int.le_refl _
  | .cons _ s _ _ _ kids rest, n => by
    unfold manyP
    split
    · have h1 := manyP_ge kids (n + 1 + (s.size : Int) / 200 * 2000)
      have h2 := manyP_ge rest (manyP kids (n + 1 + (s.size : Int) / 200 * 2000))
      omega
    · omega

theorem manyP_stop {ts : Ts} {n : Int} (h : ¬ n < 2000) : manyP ts n = n := by
  cases ts with
  | nil => rfl
  | cons => unfold manyP; rw [if_neg h]

theorem manyP_go {k : Int} {s : ByteArray} {m : Int} {p : Option Addr} {c : Nat} {kids rest : Ts} {n : Int} (h : n < 2000) : manyP (.cons k s m p c kids rest) n = manyP rest (manyP kids (n + 1 + (s.size : Int) / 200 * 2000)) := by
  rw [manyP, if_pos h]

theorem manyP_le : ∀ (ts : Ts) (n : Int), ts.ok → n ≤ 1500000000000000 → manyP ts n ≤ 1500000000000000
  | .nil, _, _, h => h
  | .cons _ s _ _ _ kids rest, n, hok, h => by
    unfold manyP
    obtain ⟨_, hs, _, _, _, hk, hr⟩ := hok
    split
    · exact manyP_le rest _ hr (manyP_le kids _ hk (by omega))
    · exact h

theorem Ts.lies_drewN {w wr : World} {b o : Nat} {ts : Ts} {q : Nat} (h : ts.lies w b o) (e : wr = w.drewN q) : ts.lies wr b o := by
  subst e
  exact Ts.lies_stay (w := w) (w' := w.drewN q) (fun _ _ _ => rfl) ts h

set_option maxHeartbeats 1000000 in
theorem many_any : ∀ (sz : Nat) (ts : Ts), ts.size ≤ sz → ∀ (w : World) (p : Option Addr) (cap : Nat) (n : Int), Ts.At w p ts → ts.ok → ts.len ≤ 9223372036854775807 → 0 ≤ n → n ≤ 1500000000000000 →
    Calls Try.prog 62 #[.slice p ts.len cap, .int .i64 n] w fun e w' => e = .returned (.int .i64 (manyP ts n)) ∧ ∃ q, w' = w.drewN q := by
  intro sz
  induction sz with
  | zero =>
    intro ts hsz w p cap n hat hok hlen hn0 hn
    cases ts with
    | cons => simp [Ts.size] at hsz
    | nil =>
      go_enter Try.func62, Try.ntmps62
      have h0 : Ts.nil.len = 0 := rfl
      go_wp2
      refine wp_loop_rounds 1 ?_
      rw [rounds_succ]
      go_wp2
      go_ret
      exact ⟨rfl, 0, rfl⟩
  | succ sz ih =>
    intro ts hsz w p cap n hat hok hlen hn0 hn
    obtain ⟨b, o, hp, hlies⟩ := hat
    go_enter Try.func62, Try.ntmps62
    go_wp2
    go_loopw [1, 5] (fun m i wr => ∃ (k : Nat) (m' : Int), k ≤ ts.len ∧ i = .int .i64 k ∧ m = .int .i64 m' ∧ 0 ≤ m' ∧ m' ≤ 1500000000000000 ∧ manyP (ts.drop k) m' = manyP ts n ∧ ∃ q, wr = w.drewN q) (fun _ i _ => ts.len - (intOf i).toNat)
    case atStart => exact ⟨0, n, Nat.zero_le _, rfl, rfl, hn0, hn, rfl, 0, rfl⟩
    case round =>
      rename_i wr _
      obtain ⟨k, m', hk, rfl, rfl, hm0, hm, hrel, q, hq⟩ := hrel
      have R := Lib.hid hrel
      have Q := Lib.hid hq
      clear hrel
      by_cases hlt : k < ts.len
      · obtain ⟨kk, s, nn, pp, cc, kids, rest, hd⟩ := Ts.drop_cons hlt
        have hl := Ts.lies_drewN (Ts.lies_drop k ts hlies) hq
        have hokd := Ts.ok_drop k ts hok
        rw [hd] at hl hokd
        obtain ⟨l0, l1, l2, l3, ⟨b', o', hp', hlk⟩, _⟩ := hl
        obtain ⟨_, hs, _, ⟨hkl, hkc⟩, _, hok1, hok2⟩ := hokd
        have hp2 : p = some ⟨b, o, none⟩ := by
          rcases hp with rfl | rfl
          · simp [Ts.len] at hlt
          · rfl
        subst hp2
        have D := Lib.hid hd
        clear hd hq
        rw [Nat.mul_comm 4 k] at l0 l1 l2 l3
        by_cases hm2 : m' < 2000
        · have hsz2 := Ts.drop_size k ts
          rw [D.out] at hsz2
          simp only [Ts.size] at hsz2
          have hks := manyP_le kids (m' + 1 + (s.size : Int) / 200 * 2000) hok1 (by omega)
          have hkg := manyP_ge kids (m' + 1 + (s.size : Int) / 200 * 2000)
          go_wp2
          go_quiet ((go_at_call 62; refine Calls.quiet_of (ih kids (by omega) _ _ _ _ ⟨b', o', hp', Ts.lies_drewN hlk rfl⟩ hok1 (by omega) (by omega) (by omega))))
          go_wp2
          go_roundw
          case rel =>
            refine ⟨k + 1, _, by omega, by go_num, rfl, by omega, by omega, ?_, q + nq, by rw [Q.out, World.drewN_drewN]⟩
            have hR := R.out
            rw [D.out, manyP_go hm2] at hR
            rw [Ts.drop_succ k ts D.out]
            exact hR
          case measure => simp [intOf]; omega
        · have hm3 : 2000 ≤ m' := by omega
          go_wp2
          go_ret
          exact ⟨by have hR := R.out; rw [manyP_stop (by omega)] at hR; rw [← hR]; rfl, q, Q.out⟩
      · have hke : k = ts.len := by omega
        have hd : ts.drop k = .nil := Ts.len_zero (by rw [Ts.drop_len]; omega)
        have hR := R.out
        rw [hd] at hR
        have HR := Lib.hid hR
        clear hd hR hke hq
        go_wp2
        go_ret
        exact ⟨by rw [← HR.out]; rfl, q, Q.out⟩

theorem great_any (ts : Ts) (w : World) (p : Option Addr) (cap : Nat) (hat : Ts.At w p ts) (hok : ts.ok) (hlen : ts.len ≤ 9223372036854775807) :
    Calls Try.prog 25 #[.slice p ts.len cap] w fun e w' => e = .returned (.bool (decide (1000 < manyP ts 0))) ∧ ∃ q, w' = w.drewN q := by
  go_enter Try.func25, Try.ntmps25
  go_wp2_with fail
  refine (many_any ts.size ts (Nat.le_refl _) w p cap 0 hat hok hlen (by omega) (by omega)).mono ?_
  rintro e w' ⟨rfl, q, rfl⟩
  obtain ⟨m, hm⟩ : ∃ m, m = manyP ts 0 := ⟨_, rfl⟩
  rw [← hm]
  have HM := Lib.hid hm
  clear hm
  go_wp2
  go_ret
  exact ⟨by rw [← HM.out]; rfl, q, rfl⟩

end Go.Proofs.Ytnmhnaanpjlniaa
