import Derived.Test.YtnmhnaanpjlniaaGreatRows
import Derived.ProofKit
import Derived.WalkKit
import Derived.WalkSpells
import Derived.WalkLawsBesides
import Derived.WalkSmall
import Derived.Lib.Hide
import Derived.Deep.QuietTactic
import Derived.BigQuiet
import Derived.Deep.RegionWith
import Derived.StillTailTactics
import Derived.Lib.SmallJoins
/-
  Lists of terms as they lie in memory: a list is a first term, its parts, and the rest; and whatever reads as a list of terms, or as a term, lies so.
-/
namespace Go.Proofs.YtnmhnaanpjlniaaGreat
open Go.RowKit Go.WideShapes

/-- a list of terms, with the places where their parts lie -/
inductive Ts where
  | nil
  | cons (k : Int) (s : ByteArray) (n : Int) (p : Option Addr) (cap : Nat) (kids rest : Ts)

namespace Ts
def len : Ts → Nat
  | .nil => 0
  | .cons _ _ _ _ _ _ r => r.len + 1

/-- how many nodes -/
def size : Ts → Nat
  | .nil => 0
  | .cons _ _ _ _ _ k r => k.size + r.size + 1

/-- the cells lie from a place on, and those of the parts where the pointers lead -/
def lies (w : World) : Nat → Nat → Ts → Prop
  | _, _, .nil => True
  | b, o, .cons k s n p cap kids rest =>
    w.cell? ⟨b, o, none⟩ = some (.int .u8 k) ∧ w.cell? ⟨b, o + 1, none⟩ = some (.string s) ∧ w.cell? ⟨b, o + 2, none⟩ = some (.int .i64 n) ∧ w.cell? ⟨b, o + 3, none⟩ = some (.slice p kids.len cap) ∧
    (∃ b' o', (kids = .nil ∨ p = some ⟨b', o', none⟩) ∧ lies w b' o' kids) ∧ lies w b (o + 4) rest

/-- a slice's value leads to a list -/
def At (w : World) (p : Option Addr) (ts : Ts) : Prop := ∃ b o, (ts = .nil ∨ p = some ⟨b, o, none⟩) ∧ ts.lies w b o

/-- numbers are of their kinds, names and lists not too long -/
def ok : Ts → Prop
  | .nil => True
  | .cons k s n p cap kids rest => (0 ≤ k ∧ k ≤ 255) ∧ s.size ≤ 140737488351232 ∧ (-9223372036854775808 ≤ n ∧ n ≤ 9223372036854775807) ∧ (kids.len ≤ cap ∧ cap ≤ 9223372036854775807) ∧ (p = none → cap = 0) ∧ kids.ok ∧ rest.ok

def drop : Nat → Ts → Ts
  | 0, ts => ts
  | _ + 1, .nil => .nil
  | i + 1, .cons _ _ _ _ _ _ r => r.drop i

theorem len_zero {ts : Ts} (h : ts.len = 0) : ts = .nil := by
  cases ts with
  | nil => rfl
  | cons => simp [len] at h

theorem drop_len : ∀ (i : Nat) (ts : Ts), (ts.drop i).len = ts.len - i
  | 0, _ => rfl
  | _ + 1, .nil => by simp [drop, len]
  | i + 1, .cons _ _ _ _ _ _ r => by simp only [drop, len]; rw [drop_len i r]; omega

theorem drop_succ : ∀ (i : Nat) (ts : Ts) {k s n p cap kids rest}, ts.drop i = .cons k s n p cap kids rest → ts.drop (i + 1) = rest
  | 0, .cons _ _ _ _ _ _ r, _, _, _, _, _, _, _, h => by cases h; cases r <;> rfl
  | _ + 1, .nil, _, _, _, _, _, _, _, h => by simp [drop] at h
  | i + 1, .cons _ _ _ _ _ _ r, _, _, _, _, _, _, _, h => drop_succ i r h

theorem drop_cons {i : Nat} {ts : Ts} (h : i < ts.len) : ∃ k s n p cap kids rest, ts.drop i = .cons k s n p cap kids rest := by
  have h1 := drop_len i ts
  cases hd : ts.drop i with
  | nil => rw [hd] at h1; simp [len] at h1; omega
  | cons k s n p cap kids rest => exact ⟨_, _, _, _, _, _, _, rfl⟩

theorem drop_size : ∀ (i : Nat) (ts : Ts), (ts.drop i).size ≤ ts.size
  | 0, _ => Nat.le_refl _
  | _ + 1, .nil => Nat.le_refl _
  | i + 1, .cons _ _ _ _ _ _ r => by have := drop_size i r; simp only [drop, size]; omega

theorem lies_drop {w : World} : ∀ (i : Nat) (ts : Ts) {b o : Nat}, ts.lies w b o → (ts.drop i).lies w b (o + 4 * i)
  | 0, _, _, _, h => h
  | _ + 1, .nil, _, _, _ => trivial
  | i + 1, .cons _ _ _ _ _ _ r, b, o, h => by
    have := lies_drop i r h.2.2.2.2.2
    rw [show o + 4 * (i + 1) = o + 4 + 4 * i from by omega]
    exact this

theorem ok_drop : ∀ (i : Nat) (ts : Ts), ts.ok → (ts.drop i).ok
  | 0, _, h => h
  | _ + 1, .nil, h => h
  | i + 1, .cons _ _ _ _ _ _ r, h => ok_drop i r h.2.2.2.2.2.2

/-- it lies there while old cells stay -/
theorem lies_stay {w w' : World} (hc : ∀ b o, b < w.heap.size → w'.cell? ⟨b, o, none⟩ = w.cell? ⟨b, o, none⟩) : ∀ (ts : Ts) {b o : Nat}, ts.lies w b o → ts.lies w' b o
  | .nil, _, _, _ => trivial
  | .cons k s n p cap kids rest, b, o, ⟨h0, h1, h2, h3, ⟨b', o', h4, h5⟩, h6⟩ => by
    have hb : b < w.heap.size := World.block_lt_of_cell? _ _ h0
    exact ⟨(hc _ _ hb).trans h0, (hc _ _ hb).trans h1, (hc _ _ hb).trans h2, (hc _ _ hb).trans h3, ⟨b', o', h4, lies_stay hc kids h5⟩, lies_stay hc rest h6⟩

theorem At.stay {w w' : World} {p : Option Addr} {ts : Ts} (h : At w p ts) (hc : ∀ b o, b < w.heap.size → w'.cell? ⟨b, o, none⟩ = w.cell? ⟨b, o, none⟩) : At w' p ts := by
  obtain ⟨b, o, h1, h2⟩ := h
  exact ⟨b, o, h1, lies_stay hc ts h2⟩

theorem At.below {w w' : World} {p : Option Addr} {ts : Ts} (h : At w p ts) (hB : Below w.heap.size w w') : At w' p ts :=
  h.stay fun b o hb => hB.cell (p := ⟨b, o, none⟩) hb
end Ts

theorem u8_of_wf {n : Int} (h : (Lit.int .u8 n).wf = true) : 0 ≤ n ∧ n ≤ 255 := by
  have hmin : IntKind.u8.min = 0 := rfl
  have hmax : IntKind.u8.max = 255 := rfl
  simp only [Lit.wf, Bool.and_eq_true, decide_eq_true_eq, hmin, hmax] at h
  exact h
theorem i64_of_wf {n : Int} (h : (Lit.int .i64 n).wf = true) : -9223372036854775808 ≤ n ∧ n ≤ 9223372036854775807 := by
  have hmin : IntKind.i64.min = -9223372036854775808 := rfl
  have hmax : IntKind.i64.max = 9223372036854775807 := rfl
  simp only [Lit.wf, Bool.and_eq_true, decide_eq_true_eq, hmin, hmax] at h
  exact h

section
variable {H : Type} {enc : TypeId × Value → H} {base : Nat} {sp : Nat → Bool} {hd : Bool}

theorem cellsTerm : Tryz.prog.cellsOf 25 = 4 := by kernel_rfl
theorem cellsU8 : Tryz.prog.cellsOf 5 = 1 := by kernel_rfl
theorem cellsStr : Tryz.prog.cellsOf 9 = 1 := by kernel_rfl
theorem cellsI64 : Tryz.prog.cellsOf 2 = 1 := by kernel_rfl
theorem cellsTerms : Tryz.prog.cellsOf 23 = 1 := by kernel_rfl

theorem bytesTerm : Tryz.prog.bytesOf 25 = 56 := by kernel_rfl

theorem reach_eq : reachBytes = 140737488351232 := rfl

theorem weights_all {P : Program} {e : TypeId} : ∀ {ds : List (DataW H)} {d : DataW H}, d ∈ ds → ∀ n ∈ d.weights P e, n ∈ DataW.weightsAll P e ds
  | d0 :: ds, d, hd, n, hn => by
    simp only [DataW.weightsAll, List.mem_append]
    rcases List.mem_cons.1 hd with rfl | h
    · exact .inl hn
    · exact .inr (weights_all h n hn)

set_option maxRecDepth 4000 in
/-- a term's cells, as they read -/
theorem open_term_cells {w : World} {fuel : Nat} {cs : List Value} {x : DataW H × List MemPlace} (h : DataW.trod enc Tryz.prog w base sp hd fuel 25 cs = some x)
    (hw : ∀ m ∈ x.1.weights Tryz.prog 25, m ≤ reachBytes) :
    ∃ (k : Int) (s : ByteArray) (n : Int) (v : Value) (y : DataW H × List MemPlace) (m : Nat), m < fuel ∧ cs = [.int .u8 k, .string s, .int .i64 n, v] ∧ (0 ≤ k ∧ k ≤ 255) ∧ s.size ≤ 140737488351232 ∧ (-9223372036854775808 ≤ n ∧ n ≤ 9223372036854775807) ∧
      DataW.trod enc Tryz.prog w base sp hd m 23 [v] = some y ∧ (∀ m ∈ y.1.weights Tryz.prog 23, m ≤ reachBytes) := by
  obtain ⟨xs, m, rfl, rfl, hl, hlen, hf⟩ := DataW.trod_struct Tryz.underlying25 h
  rw [cellsTerm] at hl
  match cs, hl with
  | [c0, c1, c2, c3], _ =>
    match xs, hlen with
    | [x0, x1, x2, x3], _ =>
      have f0 : DataW.trod enc Tryz.prog w base sp hd m 5 [c0] = some x0 := by have := hf 0 _ rfl; simpa [cellsU8] using this
      have f1 : DataW.trod enc Tryz.prog w base sp hd m 9 [c1] = some x1 := by have := hf 1 _ rfl; simpa [cellsStr] using this
      have f2 : DataW.trod enc Tryz.prog w base sp hd m 2 [c2] = some x2 := by have := hf 2 _ rfl; simpa [cellsI64] using this
      have f3 : DataW.trod enc Tryz.prog w base sp hd m 23 [c3] = some x3 := by have := hf 3 _ rfl; simpa [cellsTerms] using this
      obtain ⟨k, e0, _, w0⟩ := DataW.trod_int Tryz.underlying5 f0
      obtain ⟨s, e1, rfl, w1⟩ := DataW.trod_string Tryz.underlying9 f1
      obtain ⟨n, e2, _, w2⟩ := DataW.trod_int Tryz.underlying2 f2
      simp only [List.cons.injEq, and_true] at e0 e1 e2
      subst e0 e1 e2
      have hin : ∀ q, q ∈ DataW.weightsEach Tryz.prog [5, 9, 2, 23] [x0.1, .lit (.string s.data.toList), x2.1, x3.1] → q ≤ reachBytes := fun q hq => by
        refine hw q ?_
        simp only [List.map_cons, List.map_nil, DataW.weights, Tryz.underlying25]
        exact hq
      have hs : s.size ≤ 140737488351232 := by
        have := hin s.data.toList.length (DataW.weights_mem_each (j := 1) rfl rfl _ (by simp [DataW.weights]))
        rw [reach_eq] at this
        simpa using this
      exact ⟨k, s, n, c3, x3, m, Nat.lt_succ_self _, rfl, u8_of_wf w0, hs, i64_of_wf w2, f3, fun q hq => hin q (DataW.weights_mem_each (j := 3) rfl rfl q hq)⟩

set_option maxRecDepth 100000 in
/-- whatever reads as a list of terms lies as one -/
theorem open_terms {w : World} : ∀ (fuel : Nat) {v : Value} {x : DataW H × List MemPlace}, DataW.trod enc Tryz.prog w base (fun _ => true) hd fuel 23 [v] = some x →
    (∀ m ∈ x.1.weights Tryz.prog 23, m ≤ reachBytes) →
    ∃ (p : Option Addr) (ts : Ts) (cap : Nat), v = .slice p ts.len cap ∧ Ts.At w p ts ∧ ts.ok ∧ ts.len ≤ cap ∧ cap * 56 ≤ 140737488351232 ∧ (p = none → cap = 0) := by
  intro fuel
  induction fuel using Nat.strongRecOn with
  | ind fuel ih =>
    intro v x h hw
    rcases DataW.trod_slice Tryz.underlying23 h with ⟨hcs, rfl⟩ | ⟨a, len, cap, elems, rest, n, rfl, hcs, rfl, hb, hl, hm, hlen, hel, hsp, _⟩
    · simp only [List.cons.injEq, and_true] at hcs
      subst hcs
      exact ⟨none, .nil, 0, rfl, ⟨0, 0, .inl rfl, trivial⟩, trivial, Nat.le_refl _, by omega, fun _ => rfl⟩
    · simp only [List.cons.injEq, and_true] at hcs
      subst hcs
      have hrest := (hsp rfl).1
      have hW : ∀ q, q ∈ ((elems.map (·.1)).length + (rest.map (·.1)).length) * 56 :: (DataW.weightsAll Tryz.prog 25 (elems.map (·.1)) ++ DataW.weightsAll Tryz.prog 25 (rest.map (·.1))) → q ≤ reachBytes := fun q hq => by
        refine hw q ?_
        simp only [DataW.weights, Tryz.underlying23, bytesTerm]
        exact hq
      have hcap : cap * 56 ≤ 140737488351232 := by
        have h1 := hW _ (List.mem_cons_self ..)
        simp only [List.length_map, hlen, hrest] at h1
        rw [reach_eq] at h1
        rw [show len + (cap - len) = cap from by omega] at h1
        exact h1
      have hspot0 : 0 < len → a.spot = none := fun h0 => by
        have hi := hel 0 h0
        have hlt : 0 < elems.length := by omega
        rw [List.getElem?_eq_getElem hlt] at hi
        obtain ⟨cs, hcs, _⟩ := Option.bind_eq_some_iff.1 hi
        rw [cellsTerm] at hcs
        obtain ⟨_, hcl, hcell⟩ := World.cells?_some hcs
        have h1 := hcell 0 (by omega)
        rw [List.getElem?_eq_getElem (by omega)] at h1
        have h2 := World.cell?_spot h1
        simpa [Addr.add] using h2
      have build : ∀ j, j ≤ len → ∃ ts : Ts, ts.len = j ∧ ts.lies w a.block (a.off + 4 * (len - j)) ∧ ts.ok ∧ (ts = .nil ∨ a.spot = none) := by
        intro j
        induction j with
        | zero => exact fun _ => ⟨.nil, rfl, trivial, trivial, .inl rfl⟩
        | succ j ihj =>
          intro hj
          obtain ⟨ts, h1, h2, h3, _⟩ := ihj (by omega)
          have hi := hel (len - (j + 1)) (by omega)
          have hget : ∃ y, elems[len - (j + 1)]? = some y ∧ y ∈ elems := by
            have hlt : len - (j + 1) < elems.length := by omega
            exact ⟨elems[len - (j + 1)], List.getElem?_eq_getElem hlt, List.getElem_mem hlt⟩
          obtain ⟨y, hy, hmem⟩ := hget
          rw [hy] at hi
          obtain ⟨cs, hcs, hread⟩ := Option.bind_eq_some_iff.1 hi
          rw [cellsTerm] at hcs
          obtain ⟨_, hcl, hcell⟩ := World.cells?_some hcs
          obtain ⟨k, s, m', v', y', f, hf, rfl, hk, hs, hm', hkid, hkw⟩ := open_term_cells hread (fun q hq => hW q (List.mem_cons_of_mem _ (List.mem_append_left _ (weights_all (List.mem_map.2 ⟨y, hmem, rfl⟩) q hq))))
          obtain ⟨p, ks, kc, rfl, hat, hok, hkl, hkc, hpn⟩ := ih f (by omega) hkid hkw
          have hspot := hspot0 (by omega)
          obtain ⟨b, off, spot⟩ := a
          simp only at hspot
          subst hspot
          have c0 := hcell 0 (by omega)
          have c1 := hcell 1 (by omega)
          have c2 := hcell 2 (by omega)
          have c3 := hcell 3 (by omega)
          simp only [add_plain, List.getElem?_cons_zero, List.getElem?_cons_succ] at c0 c1 c2 c3
          have eo : off + (len - (j + 1)) * 4 = off + 4 * (len - (j + 1)) := by omega
          rw [eo] at c0 c1 c2 c3
          refine ⟨.cons k s m' p kc ks ts, by simp [Ts.len, h1], ⟨c0, c1, c2, c3, hat, ?_⟩, ⟨hk, hs, hm', ⟨hkl, by omega⟩, hpn, hok, h3⟩, .inr rfl⟩
          rw [show off + 4 * (len - (j + 1)) + 4 = off + 4 * (len - j) from by omega]
          exact h2
      obtain ⟨ts, h1, h2, h3, h4⟩ := build len (Nat.le_refl _)
      refine ⟨some a, ts, cap, by rw [h1], ?_, h3, by omega, hcap, fun h => by cases h⟩
      rcases h4 with rfl | h4
      · exact ⟨0, 0, .inl rfl, trivial⟩
      · obtain ⟨b, off, spot⟩ := a
        simp only at h4
        subst h4
        rw [show off + 4 * (len - len) = off from by omega] at h2
        exact ⟨b, off, .inr rfl, h2⟩
end

end Go.Proofs.YtnmhnaanpjlniaaGreat
/-
  How many nodes the law counts; whether two lists are alike.
-/
namespace Go.Proofs.YtnmhnaanpjlniaaGreat
open Go.RowKit

/-- the law's own count -/
def manyP : Ts → Int → Int
  | .nil, n => n
  | .cons _ s _ _ _ kids rest, n => if n < 2000 then manyP rest (manyP kids (n + 1 + (s.size : Int) / 200 * 2000)) else n

theorem manyP_ge : ∀ (ts : Ts) (n : Int), n ≤ manyP ts n
  | .nil, _ => Int.le_refl _
  | .cons _ s _ _ _ kids rest, n => by
    unfold manyP
    split
    · have h1 := manyP_ge kids (n + 1 + (s.size : Int) / 200 * 2000)
      have h2 := manyP_ge rest (manyP kids (n + 1 + (s.size : Int) / 200 * 2000))
      omega
    · omega

theorem manyP_stop {ts : Ts} {n : Int} (h : ¬ n < 2000) : manyP ts n = n := by
  cases ts with
  | nil => rfl
  | cons => unfold manyP; rw [if_neg h]

theorem manyP_go {k : Int} {s : ByteArray} {m : Int} {p : Option Addr} {c : Nat} {kids rest : Ts} {n : Int} (h : n < 2000) : manyP (.cons k s m p c kids rest) n = manyP rest (manyP kids (n + 1 + (s.size : Int) / 200 * 2000)) := by
  rw [manyP, if_pos h]

theorem manyP_le : ∀ (ts : Ts) (n : Int), ts.ok → n ≤ 1500000000000000 → manyP ts n ≤ 1500000000000000
  | .nil, _, _, h => h
  | .cons _ s _ _ _ kids rest, n, hok, h => by
    unfold manyP
    obtain ⟨_, hs, _, _, _, hk, hr⟩ := hok
    split
    · exact manyP_le rest _ hr (manyP_le kids _ hk (by omega))
    · exact h

theorem Ts.lies_drewN {w wr : World} {b o : Nat} {ts : Ts} {q : Nat} (h : ts.lies w b o) (e : wr = w.drewN q) : ts.lies wr b o := by
  subst e
  exact Ts.lies_stay (w := w) (w' := w.drewN q) (fun _ _ _ => rfl) ts h

set_option maxHeartbeats 1000000 in
theorem many_any : ∀ (sz : Nat) (ts : Ts), ts.size ≤ sz → ∀ (w : World) (p : Option Addr) (cap : Nat) (n : Int), Ts.At w p ts → ts.ok → ts.len ≤ 9223372036854775807 → 0 ≤ n → n ≤ 1500000000000000 →
    Calls Tryz.prog 56 #[.slice p ts.len cap, .int .i64 n] w fun e w' => e = .returned (.int .i64 (manyP ts n)) ∧ ∃ q, w' = w.drewN q := by
  intro sz
  induction sz with
  | zero =>
    intro ts hsz w p cap n hat hok hlen hn0 hn
    cases ts with
    | cons => simp [Ts.size] at hsz
    | nil =>
      go_enter Tryz.func56, Tryz.ntmps56
      have h0 : Ts.nil.len = 0 := rfl
      go_wp2
      refine wp_loop_rounds 1 ?_
      rw [rounds_succ]
      go_wp2
      go_ret
      exact ⟨rfl, 0, rfl⟩
  | succ sz ih =>
    intro ts hsz w p cap n hat hok hlen hn0 hn
    obtain ⟨b, o, hp, hlies⟩ := hat
    go_enter Tryz.func56, Tryz.ntmps56
    go_wp2
    go_loopw [1, 5] (fun m i wr => ∃ (k : Nat) (m' : Int), k ≤ ts.len ∧ i = .int .i64 k ∧ m = .int .i64 m' ∧ 0 ≤ m' ∧ m' ≤ 1500000000000000 ∧ manyP (ts.drop k) m' = manyP ts n ∧ ∃ q, wr = w.drewN q) (fun _ i _ => ts.len - (intOf i).toNat)
    case atStart => exact ⟨0, n, Nat.zero_le _, rfl, rfl, hn0, hn, rfl, 0, rfl⟩
    case round =>
      rename_i wr _
      obtain ⟨k, m', hk, rfl, rfl, hm0, hm, hrel, q, hq⟩ := hrel
      have R := Lib.hid hrel
      have Q := Lib.hid hq
      clear hrel
      by_cases hlt : k < ts.len
      · obtain ⟨kk, s, nn, pp, cc, kids, rest, hd⟩ := Ts.drop_cons hlt
        have hl := Ts.lies_drewN (Ts.lies_drop k ts hlies) hq
        have hokd := Ts.ok_drop k ts hok
        rw [hd] at hl hokd
        obtain ⟨l0, l1, l2, l3, ⟨b', o', hp', hlk⟩, _⟩ := hl
        obtain ⟨_, hs, _, ⟨hkl, hkc⟩, _, hok1, hok2⟩ := hokd
        have hp2 : p = some ⟨b, o, none⟩ := by
          rcases hp with rfl | rfl
          · simp [Ts.len] at hlt
          · rfl
        subst hp2
        have D := Lib.hid hd
        clear hd hq
        rw [Nat.mul_comm 4 k] at l0 l1 l2 l3
        by_cases hm2 : m' < 2000
        · have hsz2 := Ts.drop_size k ts
          rw [D.out] at hsz2
          simp only [Ts.size] at hsz2
          have hks := manyP_le kids (m' + 1 + (s.size : Int) / 200 * 2000) hok1 (by omega)
          have hkg := manyP_ge kids (m' + 1 + (s.size : Int) / 200 * 2000)
          go_wp2
          go_quiet ((go_at_call 56; refine Calls.quiet_of (ih kids (by omega) _ _ _ _ ⟨b', o', hp', Ts.lies_drewN hlk rfl⟩ hok1 (by omega) (by omega) (by omega))))
          go_wp2
          go_roundw
          case rel =>
            refine ⟨k + 1, _, by omega, by go_num, rfl, by omega, by omega, ?_, q + nq, by rw [Q.out, World.drewN_drewN]⟩
            have hR := R.out
            rw [D.out, manyP_go hm2] at hR
            rw [Ts.drop_succ k ts D.out]
            exact hR
          case measure => simp [intOf]; omega
        · have hm3 : 2000 ≤ m' := by omega
          go_wp2
          go_ret
          exact ⟨by have hR := R.out; rw [manyP_stop (by omega)] at hR; rw [← hR]; rfl, q, Q.out⟩
      · have hke : k = ts.len := by omega
        have hd : ts.drop k = .nil := Ts.len_zero (by rw [Ts.drop_len]; omega)
        have hR := R.out
        rw [hd] at hR
        have HR := Lib.hid hR
        clear hd hR hke hq
        go_wp2
        go_ret
        exact ⟨by rw [← HR.out]; rfl, q, Q.out⟩

theorem great_any (ts : Ts) (w : World) (p : Option Addr) (cap : Nat) (hat : Ts.At w p ts) (hok : ts.ok) (hlen : ts.len ≤ 9223372036854775807) :
    Calls Tryz.prog 22 #[.slice p ts.len cap] w fun e w' => e = .returned (.bool (decide (1000 < manyP ts 0))) ∧ ∃ q, w' = w.drewN q := by
  go_enter Tryz.func22, Tryz.ntmps22
  go_wp2_with fail
  refine (many_any ts.size ts (Nat.le_refl _) w p cap 0 hat hok hlen (by omega) (by omega)).mono ?_
  rintro e w' ⟨rfl, q, rfl⟩
  obtain ⟨m, hm⟩ : ∃ m, m = manyP ts 0 := ⟨_, rfl⟩
  rw [← hm]
  have HM := Lib.hid hm
  clear hm
  go_wp2
  go_ret
  exact ⟨by rw [← HM.out]; rfl, q, rfl⟩

end Go.Proofs.YtnmhnaanpjlniaaGreat
/-
  Whether two lists of terms, or two terms, are alike: the document's own answer.
-/
namespace Go.Proofs.YtnmhnaanpjlniaaGreat
open Go.RowKit

def alike : Ts → Ts → Bool
  | .nil, .nil => true
  | .cons k s n _ _ kids rest, .cons k' s' n' _ _ kids' rest' => (k == k') && ((s.toList == s'.toList) && ((n == n') && (alike kids kids' && alike rest rest')))
  | _, _ => false

theorem alike_len : ∀ (ts us : Ts), alike ts us = true → ts.len = us.len
  | .nil, .nil, _ => rfl
  | .cons _ _ _ _ _ _ r, .cons _ _ _ _ _ _ r', h => by
    simp only [alike, Bool.and_eq_true] at h
    simp only [Ts.len]
    rw [alike_len r r' h.2.2.2.2]
  | .nil, .cons .., h => by simp [alike] at h
  | .cons .., .nil, h => by simp [alike] at h

theorem stays {W w1 : World} (hb : Below W.heap.size W w1) : (∀ b o, b < W.heap.size → w1.cell? ⟨b, o, none⟩ = W.cell? ⟨b, o, none⟩) ∧ (∀ b o, b < W.heap.size → w1.frozen? ⟨b, o, none⟩ = W.frozen? ⟨b, o, none⟩) :=
  ⟨fun b o h => hb.cell (p := ⟨b, o, none⟩) h, fun b o h => hb.frozen (p := ⟨b, o, none⟩) h⟩

/-- a term's value -/
def tv (k : Int) (s : ByteArray) (n : Int) (p : Option Addr) (len cap : Nat) : Value := .agg #[.int .u8 k, .string s, .int .i64 n, .slice p len cap]

theorem below2 (w : World) (o1 o2 : Obj) : Below w.heap.size w ((w.alloc o1).alloc o2) := ((Below.refl _ _).alloc (Nat.le_refl _) _).alloc (by simp) _

def headAlike (k k' : Int) (s s' : ByteArray) (n n' : Int) : Bool := (k == k') && ((s.toList == s'.toList) && (n == n'))



end Go.Proofs.YtnmhnaanpjlniaaGreat
/-
  Whether two terms are alike, by the code under proof.
-/
namespace Go.Proofs.YtnmhnaanpjlniaaGreat
open Go.RowKit

theorem cell_alloc_old {w : World} {a : Addr} {v : Value} (o : Obj) (h : w.cell? a = some v) : (w.alloc o).cell? a = some v := by
  have hlt : a.block < w.heap.size := World.block_lt_of_cell? _ _ h
  rw [← h]
  exact World.cell?_of_block (Below.heap_alloc w o a.block hlt)

theorem box2 (w : World) (A B : Array Value) (t u : TypeId) : ∃ W, W = (w.alloc (.cells A t)).alloc (.cells B u) ∧ W.heap.size = w.heap.size + 2 ∧ Below w.heap.size w W ∧ (∀ i v, A[i]? = some v → W.cell? ⟨w.heap.size, i, none⟩ = some v) ∧ (∀ i v, B[i]? = some v → W.cell? ⟨w.heap.size + 1, i, none⟩ = some v) := by
  refine ⟨_, rfl, by simp, below2 _ _ _, fun i v h => cell_alloc_old _ ?_, fun i v h => ?_⟩
  · rw [_root_.Go.Joins.cell_alloc_mark_at w A t _ _ i rfl]; exact h
  · rw [_root_.Go.Joins.cell_alloc_mark_at _ B u _ _ i (by simp)]; exact h


end Go.Proofs.YtnmhnaanpjlniaaGreat
/-
  How deep, how many nodes.
-/
namespace Go.Proofs.YtnmhnaanpjlniaaGreat
open Go.RowKit

def depthL : Ts → Nat
  | .nil => 0
  | .cons _ _ _ _ _ kids rest => max (depthL kids + 1) (depthL rest)

theorem depthL_size : ∀ ts : Ts, depthL ts ≤ ts.size
  | .nil => Nat.le_refl _
  | .cons _ _ _ _ _ kids rest => by
    have h1 := depthL_size kids
    have h2 := depthL_size rest
    simp only [depthL, Ts.size]; omega

theorem Ts.len_size : ∀ ts : Ts, ts.len ≤ ts.size
  | .nil => Nat.le_refl _
  | .cons _ _ _ _ _ _ r => by have := Ts.len_size r; simp only [Ts.len, Ts.size]; omega

theorem box1 (w : World) (A : Array Value) (t : TypeId) : ∃ W, W = w.alloc (.cells A t) ∧ W.heap.size = w.heap.size + 1 ∧ Below w.heap.size w W ∧ (∀ i v, A[i]? = some v → W.cell? ⟨w.heap.size, i, none⟩ = some v) := by
  refine ⟨_, rfl, by simp, (Below.refl _ _).alloc (Nat.le_refl _) _, fun i v h => ?_⟩
  rw [_root_.Go.Joins.cell_alloc_mark_at w A t _ _ i rfl]; exact h

/-- an element of a list, in a later world -/
theorem Ts.open_at {W wr : World} {ts : Ts} {b o j : Nat} (hl : ts.lies W b o) (hB : Below W.heap.size W wr) (hok : ts.ok) (h : j < ts.len) :
    ∃ (k : Int) (s : ByteArray) (n : Int) (p : Option Addr) (c : Nat) (kids rest : Ts), Hid (ts.drop j = .cons k s n p c kids rest) ∧
      wr.cell? ⟨b, o + j * 4, none⟩ = some (.int .u8 k) ∧ wr.cell? ⟨b, o + j * 4 + 1, none⟩ = some (.string s) ∧ wr.cell? ⟨b, o + j * 4 + 2, none⟩ = some (.int .i64 n) ∧ wr.cell? ⟨b, o + j * 4 + 3, none⟩ = some (.slice p kids.len c) ∧
      Hid (Ts.At wr p kids) ∧ Hid kids.ok ∧ (kids.len ≤ c ∧ c ≤ 9223372036854775807) ∧ kids.size + rest.size + 1 ≤ ts.size ∧ (0 ≤ k ∧ k ≤ 255) ∧ s.size ≤ 140737488351232 ∧ (-9223372036854775808 ≤ n ∧ n ≤ 9223372036854775807) := by
  obtain ⟨k, s, n, p, c, kids, rest, hd⟩ := Ts.drop_cons h
  have hl2 := Ts.lies_stay (stays hB).1 _ (Ts.lies_drop j ts hl)
  have hokd := Ts.ok_drop j ts hok
  have hsz := Ts.drop_size j ts
  rw [hd] at hl2 hokd hsz
  simp only [Ts.size] at hsz
  obtain ⟨l0, l1, l2, l3, ⟨bb, oo, hpp, hlk⟩, _⟩ := hl2
  rw [Nat.mul_comm 4 j] at l0 l1 l2 l3
  exact ⟨k, s, n, p, c, kids, rest, Lib.hid hd, l0, l1, l2, l3, Lib.hid ⟨bb, oo, hpp, hlk⟩, Lib.hid hokd.2.2.2.2.2.1, hokd.2.2.2.1, hsz, hokd.1, hokd.2.1, hokd.2.2.1⟩

/-- where a list that has elements lies -/
theorem Ts.some_of {ts : Ts} {p : Option Addr} {b o j : Nat} (h : ts = .nil ∨ p = some ⟨b, o, none⟩) (hj : j < ts.len) : p = some ⟨b, o, none⟩ := by
  rcases h with rfl | h
  · simp [Ts.len] at hj
  · exact h

theorem Ts.drop_end {ts : Ts} {j : Nat} (h : ¬ j < ts.len) : ts.drop j = .nil := Ts.len_zero (by rw [Ts.drop_len]; omega)

set_option maxRecDepth 100000 in
set_option maxHeartbeats 1000000 in
theorem rdepth_any : ∀ (sz : Nat) (ts : Ts), ts.size < sz → ts.size ≤ 1000000 → ts.ok → ∀ (k : Int) (s : ByteArray) (n : Int) (w : World) (p : Option Addr) (c : Nat), Ts.At w p ts →
    Calls Tryz.prog 31 #[.agg #[.int .u8 k, .string s, .int .i64 n, .slice p ts.len c]] w fun e w' =>
      e = .returned (.int .i64 ((depthL ts + 1 : Nat) : Int)) ∧ Below w.heap.size w w' := by
  intro sz
  induction sz with
  | zero => intro ts h; omega
  | succ sz ih =>
    intro ts hsz hbig hok k s n w p c hat
    have hds := depthL_size ts
    have hls := Ts.len_size ts
    obtain ⟨W2, hW2, hsz2, hB2, hc1⟩ := box1 w #[.int .u8 k, .string s, .int .i64 n, .slice p ts.len c] 25
    have a3 : W2.cell? ⟨w.heap.size, 3, none⟩ = some (.slice p ts.len c) := hc1 3 _ rfl
    obtain ⟨b, o, hp, hlies⟩ := hat.below hB2
    go_enter Tryz.func31, Tryz.ntmps31
    go_wp2
    rw [← hW2]
    have Z := Lib.hid hW2
    have BW := Lib.hid hB2
    clear hB2 hc1 hW2
    go_loopw [3, 4] (fun m i wr => ∃ (j m' : Nat), j ≤ ts.len ∧ i = .int .i64 j ∧ m = .int .i64 m' ∧ m' ≤ depthL ts ∧ max m' (depthL (ts.drop j)) = depthL ts ∧ Below W2.heap.size W2 wr) (fun _ i _ => ts.len - (intOf i).toNat)
    case atStart => exact ⟨0, 0, Nat.zero_le _, rfl, rfl, Nat.zero_le _, by simp [Ts.drop], Below.refl _ _⟩
    case round =>
      rename_i wr _
      obtain ⟨j, m', hk, rfl, rfl, hm', hrel, hB⟩ := hrel
      have R := Lib.hid hrel
      have B := Lib.hid hB
      clear hrel
      have a3' := (hB.cell (p := ⟨w.heap.size, 3, none⟩) (by rw [hsz2]; simp)).trans a3
      by_cases hlt : j < ts.len
      · obtain ⟨kk, s1, nn, pp, cc, kids, rest, D, l0, l1, l2, l3, A1, O1, hkl, hsz3, _, _, _⟩ := Ts.open_at hlies hB hok hlt
        obtain rfl := Ts.some_of hp hlt
        clear hB hp
        go_wp2_with fail
        refine (ih kids (by omega) (by omega) O1.out kk s1 nn wr pp cc A1.out).mono ?_
        rintro e w' ⟨rfl, hB3⟩
        have B3 := Lib.hid (B.out.trans (hB3.mono B.out.size))
        clear hB3 l0 l1 l2 l3 a3'
        have hdk := depthL_size kids
        go_wp2
        go_roundw
        case rel =>
          have h := R.out
          rw [D.out] at h
          simp only [depthL] at h
          have hd2 := Ts.drop_succ j ts D.out
          refine ⟨j + 1, max m' (depthL kids + 1), by omega, by go_num, ?_, by omega, by rw [hd2]; omega, B3.out⟩
          congr 1
          split <;> omega
        case measure => simp [intOf]; omega
      · have hd := Ts.drop_end hlt
        have h := R.out
        rw [hd] at h
        have H : Hid (m' = depthL ts) := Lib.hid (by simpa [depthL] using h)
        clear h hd hB
        go_wp2
        go_ret
        refine ⟨?_, BW.out.trans (B.out.mono BW.out.size)⟩
        rw [← H.out]
        go_num



end Go.Proofs.YtnmhnaanpjlniaaGreat
/-
  Whether a name may be one.
-/
namespace Go.Proofs.YtnmhnaanpjlniaaGreat
open Go.RowKit

/-- may a byte stand in a name? -/
def okB (x : Nat) : Prop := (32 ≤ x ∧ x ≤ 126) ∨ x = 9 ∨ x = 10
def nameOk (s : ByteArray) : Prop := s.size ≤ 32 ∧ ∀ (j : Nat) (h : j < s.size), okB s[j].toNat
open Classical in
noncomputable def nameB (s : ByteArray) : Bool := decide (nameOk s)

theorem nameB_true {s : ByteArray} (h : nameOk s) : nameB s = true := by simp [nameB, h]
theorem nameB_false {s : ByteArray} (h : ¬ nameOk s) : nameB s = false := by simp [nameB, h]

/-- the ways that a byte may be, as the walk asks -/
theorem byte_ways (x : Nat) :
    (okB x ∧ (((32 : Int) ≤ (x : Int) ∧ (x : Int) ≤ 126) ∨ ((x : Int) < 32 ∧ ((x : Int) != 9) = false) ∨ ((x : Int) < 32 ∧ ((x : Int) != 9) = true ∧ ((x : Int) != 10) = false))) ∨
    (¬ okB x ∧ (((x : Int) < 32 ∧ ((x : Int) != 9) = true ∧ ((x : Int) != 10) = true) ∨ (32 ≤ (x : Int) ∧ 126 < (x : Int) ∧ ((x : Int) != 9) = true ∧ ((x : Int) != 10) = true))) := by
  simp only [bne_iff_ne, bne_eq_false_iff_eq, ne_eq, okB]
  omega

set_option maxRecDepth 100000 in
set_option maxHeartbeats 1000000 in
theorem rname_any (s : ByteArray) (hs : s.size ≤ 140737488351232) (w : World) :
    Calls Tryz.prog 66 #[.string s] w fun e w' => e = .returned (.bool (nameB s)) ∧ w' = w := by
  go_enter Tryz.func66, Tryz.ntmps66
  go_wp2
  go_loop [3] (fun i => ∃ (j : Nat), j ≤ s.size ∧ i = .int .i64 j ∧ ∀ (m : Nat) (h : m < s.size), m < j → okB s[m].toNat) (fun i => s.size - (intOf i).toNat)
  case atStart => exact ⟨0, Nat.zero_le _, rfl, fun m h1 h2 => by omega⟩
  case round =>
    obtain ⟨j, hj, rfl, hr⟩ := hrel
    have R := Lib.hid hr
    clear hr
    by_cases hlt : j < s.size
    · rcases byte_ways s[j].toNat with ⟨hk, hw⟩ | ⟨hk, hw⟩
      · have RK : Hid (∀ (m : Nat) (h : m < s.size), m < j + 1 → okB s[m].toNat) := Lib.hid fun m h h1 => by
          by_cases e : m = j
          · subst e; exact hk
          · exact R.out m h (by omega)
        clear R hk
        rcases hw with ⟨h1, h2⟩ | ⟨h1, h2⟩ | ⟨h1, h2, h3⟩
        · go_wp2
          go_round
          case rel => exact ⟨j + 1, by omega, by go_num, RK.out⟩
          case measure => simp [intOf]; omega
        · go_wp2
          go_round
          case rel => exact ⟨j + 1, by omega, by go_num, RK.out⟩
          case measure => simp [intOf]; omega
        · go_wp2
          go_round
          case rel => exact ⟨j + 1, by omega, by go_num, RK.out⟩
          case measure => simp [intOf]; omega
      · have NB : Hid (nameB s = false) := Lib.hid (nameB_false fun h => hk (h.2 j hlt))
        clear R hk
        rcases hw with ⟨h1, h2, h3⟩ | ⟨h1, h2, h3, h4⟩
        · go_wp2
          go_ret
          exact ⟨by rw [NB.out]; rfl, rfl⟩
        · go_wp2
          go_ret
          exact ⟨by rw [NB.out]; rfl, rfl⟩
    · have hall : ∀ (m : Nat) (h : m < s.size), okB s[m].toNat := fun m h => R.out m h (by omega)
      have NB : Hid (nameB s = decide ((s.size : Int) ≤ 32)) := Lib.hid (by
        by_cases h : s.size ≤ 32
        · rw [nameB_true ⟨h, hall⟩]; simp; omega
        · rw [nameB_false (fun h' => h h'.1)]; simp; omega)
      clear R hall
      go_wp2
      go_ret
      exact ⟨by rw [NB.out]; rfl, rfl⟩

end Go.Proofs.YtnmhnaanpjlniaaGreat
