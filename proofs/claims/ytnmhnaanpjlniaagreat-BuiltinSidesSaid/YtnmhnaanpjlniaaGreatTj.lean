import Derived.Test.YtnmhnaanpjlniaaGreatTa
import Derived.Deep.QuietTactic
import Derived.BigQuiet
import Derived.Deep.RegionWith
import Derived.StillTailTactics
import Derived.Lib.SmallJoins
/-
  How many nodes the law counts; whether two lists are alike.
-/
namespace Go.Proofs.YtnmhnaanpjlniaaGreat
open Go.RowKit

/-- the law's own count -/
def manyP : Ts → Int → Int
  | .nil, n => n
  | .cons _ s _ _ _ kids rest, n => if n < 2000 then manyP rest (manyP kids (n + 1 + (s.size : Int) / 200 * 2000)) else n

theorem manyP_ge : ∀ (ts : Ts) (n : Int), n ≤ manyP ts n
  | .nil, _ => Int.le_refl _
  | .cons _ s _ _ _ kids rest, n => by
    unfold manyP
    split
    · have h1 := manyP_ge kids (n + 1 + (s.size : Int) / 200 * 2000)
      have h2 := manyP_ge rest (manyP kids (n + 1 + (s.size : Int) / 200 * 2000))
      omega
    · omega

theorem manyP_stop {ts : Ts} {n : Int} (h : ¬ n < 2000) : manyP ts n = n := by
  cases ts with
  | nil => rfl
  | cons => unfold manyP; rw [if_neg h]

theorem manyP_go {k : Int} {s : ByteArray} {m : Int} {p : Option Addr} {c : Nat} {kids rest : Ts} {n : Int} (h : n < 2000) : manyP (.cons k s m p c kids rest) n = manyP rest (manyP kids (n + 1 + (s.size : Int) / 200 * 2000)) := by
  rw [manyP, if_pos h]

theorem manyP_le : ∀ (ts : Ts) (n : Int), ts.ok → n ≤ 1500000000000000 → manyP ts n ≤ 1500000000000000
  | .nil, _, _, h => h
  | .cons _ s _ _ _ kids rest, n, hok, h => by
    unfold manyP
    obtain ⟨_, hs, _, _, _, hk, hr⟩ := hok
    split
    · exact manyP_le rest _ hr (manyP_le kids _ hk (by omega))
    · exact h

theorem Ts.lies_drewN {w wr : World} {b o : Nat} {ts : Ts} {q : Nat} (h : ts.lies w b o) (e : wr = w.drewN q) : ts.lies wr b o := by
  subst e
  exact Ts.lies_stay (w := w) (w' := w.drewN q) (fun _ _ _ => rfl) ts h

set_option maxHeartbeats 1000000 in
theorem many_any : ∀ (sz : Nat) (ts : Ts), ts.size ≤ sz → ∀ (w : World) (p : Option Addr) (cap : Nat) (n : Int), Ts.At w p ts → ts.ok → ts.len ≤ 9223372036854775807 → 0 ≤ n → n ≤ 1500000000000000 →
    Calls Tryz.prog 56 #[.slice p ts.len cap, .int .i64 n] w fun e w' => e = .returned (.int .i64 (manyP ts n)) ∧ ∃ q, w' = w.drewN q := by
  intro sz
  induction sz with
  | zero =>
    intro ts hsz w p cap n hat hok hlen hn0 hn
    cases ts with
    | cons => simp [Ts.size] at hsz
    | nil =>
      go_enter Tryz.func56, Tryz.ntmps56
      have h0 : Ts.nil.len = 0 := rfl
      go_wp2
      refine wp_loop_rounds 1 ?_
      rw [rounds_succ]
      go_wp2
      go_ret
      exact ⟨rfl, 0, rfl⟩
  | succ sz ih =>
    intro ts hsz w p cap n hat hok hlen hn0 hn
    obtain ⟨b, o, hp, hlies⟩ := hat
    go_enter Tryz.func56, Tryz.ntmps56
    go_wp2
    go_loopw [1, 5] (fun m i wr => ∃ (k : Nat) (m' : Int), k ≤ ts.len ∧ i = .int .i64 k ∧ m = .int .i64 m' ∧ 0 ≤ m' ∧ m' ≤ 1500000000000000 ∧ manyP (ts.drop k) m' = manyP ts n ∧ ∃ q, wr = w.drewN q) (fun _ i _ => ts.len - (intOf i).toNat)
    case atStart => exact ⟨0, n, Nat.zero_le _, rfl, rfl, hn0, hn, rfl, 0, rfl⟩
    case round =>
      rename_i wr _
      obtain ⟨k, m', hk, rfl, rfl, hm0, hm, hrel, q, hq⟩ := hrel
      have R := Lib.hid hrel
      have Q := Lib.hid hq
      clear hrel
      by_cases hlt : k < ts.len
      · obtain ⟨kk, s, nn, pp, cc, kids, rest, hd⟩ := Ts.drop_cons hlt
        have hl := Ts.lies_drewN (Ts.lies_drop k ts hlies) hq
        have hokd := Ts.ok_drop k ts hok
        rw [hd] at hl hokd
        obtain ⟨l0, l1, l2, l3, ⟨b', o', hp', hlk⟩, _⟩ := hl
        obtain ⟨_, hs, _, ⟨hkl, hkc⟩, _, hok1, hok2⟩ := hokd
        have hp2 : p = some ⟨b, o, none⟩ := by
          rcases hp with rfl | rfl
          · simp [Ts.len] at hlt
          · rfl
        subst hp2
        have D := Lib.hid hd
        clear hd hq
        rw [Nat.mul_comm 4 k] at l0 l1 l2 l3
        by_cases hm2 : m' < 2000
        · have hsz2 := Ts.drop_size k ts
          rw [D.out] at hsz2
          simp only [Ts.size] at hsz2
          have hks := manyP_le kids (m' + 1 + (s.size : Int) / 200 * 2000) hok1 (by omega)
          have hkg := manyP_ge kids (m' + 1 + (s.size : Int) / 200 * 2000)
          go_wp2
          go_quiet ((go_at_call 56; refine Calls.quiet_of (ih kids (by omega) _ _ _ _ ⟨b', o', hp', Ts.lies_drewN hlk rfl⟩ hok1 (by omega) (by omega) (by omega))))
          go_wp2
          go_roundw
          case rel =>
            refine ⟨k + 1, _, by omega, by go_num, rfl, by omega, by omega, ?_, q + nq, by rw [Q.out, World.drewN_drewN]⟩
            have hR := R.out
            rw [D.out, manyP_go hm2] at hR
            rw [Ts.drop_succ k ts D.out]
            exact hR
          case measure => simp [intOf]; omega
        · have hm3 : 2000 ≤ m' := by omega
          go_wp2
          go_ret
          exact ⟨by have hR := R.out; rw [manyP_stop (by omega)] at hR; rw [← hR]; rfl, q, Q.out⟩
      · have hke : k = ts.len := by omega
        have hd : ts.drop k = .nil := Ts.len_zero (by rw [Ts.drop_len]; omega)
        have hR := R.out
        rw [hd] at hR
        have HR := Lib.hid hR
        clear hd hR hke hq
        go_wp2
        go_ret
        exact ⟨by rw [← HR.out]; rfl, q, Q.out⟩

theorem great_any (ts : Ts) (w : World) (p : Option Addr) (cap : Nat) (hat : Ts.At w p ts) (hok : ts.ok) (hlen : ts.len ≤ 9223372036854775807) :
    Calls Tryz.prog 22 #[.slice p ts.len cap] w fun e w' => e = .returned (.bool (decide (1000 < manyP ts 0))) ∧ ∃ q, w' = w.drewN q := by
  go_enter Tryz.func22, Tryz.ntmps22
  go_wp2_with fail
  refine (many_any ts.size ts (Nat.le_refl _) w p cap 0 hat hok hlen (by omega) (by omega)).mono ?_
  rintro e w' ⟨rfl, q, rfl⟩
  obtain ⟨m, hm⟩ : ∃ m, m = manyP ts 0 := ⟨_, rfl⟩
  rw [← hm]
  have HM := Lib.hid hm
  clear hm
  go_wp2
  go_ret
  exact ⟨by rw [← HM.out]; rfl, q, rfl⟩

end Go.Proofs.YtnmhnaanpjlniaaGreat
/-
  Whether two lists of terms, or two terms, are alike: the document's own answer.
-/
namespace Go.Proofs.YtnmhnaanpjlniaaGreat
open Go.RowKit

def alike : Ts → Ts → Bool
  | .nil, .nil => true
  | .cons k s n _ _ kids rest, .cons k' s' n' _ _ kids' rest' => (k == k') && ((s.toList == s'.toList) && ((n == n') && (alike kids kids' && alike rest rest')))
  | _, _ => false

theorem alike_len : ∀ (ts us : Ts), alike ts us = true → ts.len = us.len
  | .nil, .nil, _ => rfl
  | .cons _ _ _ _ _ _ r, .cons _ _ _ _ _ _ r', h => by
    simp only [alike, Bool.and_eq_true] at h
    simp only [Ts.len]
    rw [alike_len r r' h.2.2.2.2]
  | .nil, .cons .., h => by simp [alike] at h
  | .cons .., .nil, h => by simp [alike] at h

theorem stays {W w1 : World} (hb : Below W.heap.size W w1) : (∀ b o, b < W.heap.size → w1.cell? ⟨b, o, none⟩ = W.cell? ⟨b, o, none⟩) ∧ (∀ b o, b < W.heap.size → w1.frozen? ⟨b, o, none⟩ = W.frozen? ⟨b, o, none⟩) :=
  ⟨fun b o h => hb.cell (p := ⟨b, o, none⟩) h, fun b o h => hb.frozen (p := ⟨b, o, none⟩) h⟩

/-- a term's value -/
def tv (k : Int) (s : ByteArray) (n : Int) (p : Option Addr) (len cap : Nat) : Value := .agg #[.int .u8 k, .string s, .int .i64 n, .slice p len cap]

theorem below2 (w : World) (o1 o2 : Obj) : Below w.heap.size w ((w.alloc o1).alloc o2) := ((Below.refl _ _).alloc (Nat.le_refl _) _).alloc (by simp) _

def headAlike (k k' : Int) (s s' : ByteArray) (n n' : Int) : Bool := (k == k') && ((s.toList == s'.toList) && (n == n'))



end Go.Proofs.YtnmhnaanpjlniaaGreat
/-
  Whether two terms are alike, by the code under proof.
-/
namespace Go.Proofs.YtnmhnaanpjlniaaGreat
open Go.RowKit

theorem cell_alloc_old {w : World} {a : Addr} {v : Value} (o : Obj) (h : w.cell? a = some v) : (w.alloc o).cell? a = some v := by
  have hlt : a.block < w.heap.size := World.block_lt_of_cell? _ _ h
  rw [← h]
  exact World.cell?_of_block (Below.heap_alloc w o a.block hlt)

theorem box2 (w : World) (A B : Array Value) (t u : TypeId) : ∃ W, W = (w.alloc (.cells A t)).alloc (.cells B u) ∧ W.heap.size = w.heap.size + 2 ∧ Below w.heap.size w W ∧ (∀ i v, A[i]? = some v → W.cell? ⟨w.heap.size, i, none⟩ = some v) ∧ (∀ i v, B[i]? = some v → W.cell? ⟨w.heap.size + 1, i, none⟩ = some v) := by
  refine ⟨_, rfl, by simp, below2 _ _ _, fun i v h => cell_alloc_old _ ?_, fun i v h => ?_⟩
  · rw [_root_.Go.Joins.cell_alloc_mark_at w A t _ _ i rfl]; exact h
  · rw [_root_.Go.Joins.cell_alloc_mark_at _ B u _ _ i (by simp)]; exact h

set_option maxRecDepth 100000 in
set_option maxHeartbeats 1000000 in
theorem tsame_any : ∀ (sz : Nat) (ts us : Ts), ts.size < sz → ts.ok → us.ok → ts.len ≤ 9223372036854775807 → us.len ≤ 9223372036854775807 → ∀ (k k' : Int) (s s' : ByteArray) (n n' : Int) (w : World) (p p' : Option Addr) (c c' : Nat), Ts.At w p ts → Ts.At w p' us →
    Calls Tryz.prog 109 #[.agg #[.int .u8 k, .string s, .int .i64 n, .slice p ts.len c], .agg #[.int .u8 k', .string s', .int .i64 n', .slice p' us.len c']] w fun e w' =>
      e = .returned (.bool (headAlike k k' s s' n n' && alike ts us)) ∧ Below w.heap.size w w' := by
  intro sz
  induction sz with
  | zero => intro ts us h; omega
  | succ sz ih =>
    intro ts us hsz hok hok' hlen hlen' k k' s s' n n' w p p' c c' hat hat'
    by_cases h1 : (k != k') = false
    · by_cases h2 : (s.toList == s'.toList) = true
      · by_cases h3 : (n != n') = false
        · by_cases h4 : ((ts.len : Int) != (us.len : Int)) = false
          · have HA : headAlike k k' s s' n n' = true := by
              simp only [headAlike, h2, Bool.true_and]
              rw [bne_eq_false_iff_eq] at h1 h3
              rw [h1, h3]; simp
            rw [HA, Bool.true_and]
            have HL : Hid (ts.len = us.len) := Lib.hid (by rw [bne_eq_false_iff_eq] at h4; omega)
            obtain ⟨W2, hW2, hsz2, hB2, hc1, hc2⟩ := box2 w #[.int .u8 k, .string s, .int .i64 n, .slice p ts.len c] #[.int .u8 k', .string s', .int .i64 n', .slice p' us.len c'] 25 25
            have a3 : W2.cell? ⟨w.heap.size, 3, none⟩ = some (.slice p ts.len c) := hc1 3 _ rfl
            have b3 : W2.cell? ⟨w.heap.size + 1, 3, none⟩ = some (.slice p' us.len c') := hc2 3 _ rfl
            obtain ⟨b, o, hp, hlies⟩ := hat.below hB2
            obtain ⟨b', o', hp', hlies'⟩ := hat'.below hB2
            go_enter Tryz.func109, Tryz.ntmps109
            go_wp2
            rw [← hW2]
            have Z := Lib.hid hW2
            have BW := Lib.hid hB2
            clear hB2 hc1 hc2 hW2 h1 h2 h3 h4 HA
            go_loopw [37] (fun i wr => ∃ k : Nat, k ≤ ts.len ∧ i = .int .i64 k ∧ alike (ts.drop k) (us.drop k) = alike ts us ∧ Below W2.heap.size W2 wr) (fun i _ => ts.len - (intOf i).toNat)
            case atStart => exact ⟨0, Nat.zero_le _, rfl, rfl, Below.refl _ _⟩
            case round =>
              rename_i wr _
              obtain ⟨j, hk, rfl, hrel, hB⟩ := hrel
              have R := Lib.hid hrel
              have B := Lib.hid hB
              clear hrel
              have a3' := (hB.cell (p := ⟨w.heap.size, 3, none⟩) (by rw [hsz2]; simp)).trans a3
              have b3' := (hB.cell (p := ⟨w.heap.size + 1, 3, none⟩) (by rw [hsz2]; simp)).trans b3
              by_cases hlt : j < ts.len
              · have hlt' : j < us.len := by have := HL.out; omega
                obtain ⟨kk, s1, nn, pp, cc, kids, rest, hd⟩ := Ts.drop_cons hlt
                obtain ⟨kk', s1', nn', pp', cc', kids', rest', hd'⟩ := Ts.drop_cons hlt'
                have hl := Ts.lies_stay (stays hB).1 _ (Ts.lies_drop j ts hlies)
                have hl' := Ts.lies_stay (stays hB).1 _ (Ts.lies_drop j us hlies')
                have hokd := Ts.ok_drop j ts hok
                have hokd' := Ts.ok_drop j us hok'
                rw [hd] at hl hokd
                rw [hd'] at hl' hokd'
                obtain ⟨l0, l1, l2, l3, ⟨bb, oo, hpp, hlk⟩, _⟩ := hl
                obtain ⟨m0, m1, m2, m3, ⟨bb', oo', hpp', hlk'⟩, _⟩ := hl'
                have hat1 : Ts.At wr pp kids := ⟨bb, oo, hpp, hlk⟩
                have hat2 : Ts.At wr pp' kids' := ⟨bb', oo', hpp', hlk'⟩
                have A1 := Lib.hid hat1
                have A2 := Lib.hid hat2
                have O1 := Lib.hid hokd
                have O2 := Lib.hid hokd'
                have hsz3 := Ts.drop_size j ts
                rw [hd] at hsz3
                simp only [Ts.size] at hsz3
                have hp2 : p = some ⟨b, o, none⟩ := by
                  rcases hp with rfl | rfl
                  · simp [Ts.len] at hlt
                  · rfl
                have hp2' : p' = some ⟨b', o', none⟩ := by
                  rcases hp' with rfl | rfl
                  · simp [Ts.len] at hlt'
                  · rfl
                subst hp2 hp2'
                have D := Lib.hid hd
                have D' := Lib.hid hd'
                rw [Nat.mul_comm 4 j] at l0 l1 l2 l3 m0 m1 m2 m3
                clear hd hd' hB hokd hokd' hlk hlk' hpp hpp' hat1 hat2 hp hp' a3 b3
                go_wp2
                go_still_tail 10, (by kernel_rfl)
                have hB2 : Below W2.heap.size W2 wr.drew := B.out.drew
                have A1' : Hid (Ts.At wr.drew pp kids) := Lib.hid (A1.out.stay fun _ _ _ => rfl)
                have A2' : Hid (Ts.At wr.drew pp' kids') := Lib.hid (A2.out.stay fun _ _ _ => rfl)
                change wpList _ _ _ _ _ wr.drew
                generalize wr.drew = w2 at hB2 A1' A2' ⊢
                have B2 := Lib.hid hB2
                clear hB2 l0 l1 l2 l3 m0 m1 m2 m3 a3' b3'
                go_wp2_with fail
                refine (ih kids kids' (by omega) O1.out.2.2.2.2.2.1 O2.out.2.2.2.2.2.1 (by have := O1.out.2.2.2.1; omega) (by have := O2.out.2.2.2.1; omega) kk kk' s1 s1' nn nn' w2 pp pp' cc cc' A1'.out A2'.out).mono ?_
                rintro e w' ⟨rfl, hB3⟩
                have B3 := Lib.hid (B2.out.trans (hB3.mono B2.out.size))
                clear hB3
                by_cases hq : (headAlike kk kk' s1 s1' nn nn' && alike kids kids') = true
                · rw [hq]
                  have Q := Lib.hid hq
                  clear hq
                  go_wp2
                  go_roundw
                  case rel =>
                    refine ⟨j + 1, by omega, by go_num, ?_, B3.out⟩
                    rw [Ts.drop_succ j ts D.out, Ts.drop_succ j us D'.out, ← R.out, D.out, D'.out]
                    have h := Q.out
                    simp only [headAlike, Bool.and_eq_true] at h
                    simp only [alike, h.1.1, h.1.2.1, h.1.2.2, h.2, Bool.true_and]
                  case measure => simp [intOf]; omega
                · rw [Bool.not_eq_true] at hq
                  rw [hq]
                  have Q := Lib.hid hq
                  clear hq
                  go_wp2
                  go_ret
                  refine ⟨?_, BW.out.trans (B3.out.mono BW.out.size)⟩
                  have h := R.out
                  rw [D.out, D'.out] at h
                  have h2 := Q.out
                  rw [← h]
                  simp only [headAlike] at h2
                  simp only [alike]
                  revert h2
                  cases (kk == kk') <;> cases (s1.toList == s1'.toList) <;> cases (nn == nn') <;> cases alike kids kids' <;> simp
              · have hke : j = ts.len := by omega
                have hd : ts.drop j = .nil := Ts.len_zero (by rw [Ts.drop_len]; omega)
                have hd' : us.drop j = .nil := Ts.len_zero (by rw [Ts.drop_len]; have := HL.out; omega)
                have h := R.out
                rw [hd, hd'] at h
                have H := Lib.hid h
                clear h hd hd' hke hB
                go_wp2
                go_ret
                exact ⟨by rw [← H.out]; rfl, BW.out.trans (B.out.mono BW.out.size)⟩
          · rw [Bool.not_eq_false] at h4
            have HA : Hid ((headAlike k k' s s' n n' && alike ts us) = false) := Lib.hid (by
              cases h : alike ts us with
              | false => simp
              | true => have := alike_len _ _ h; rw [this] at h4; simp at h4)
            rw [HA.out]
            go_enter Tryz.func109, Tryz.ntmps109
            go_wp2
            go_ret
            exact ⟨rfl, below2 _ _ _⟩
        · rw [Bool.not_eq_false] at h3
          have HA : Hid ((headAlike k k' s s' n n' && alike ts us) = false) := Lib.hid (by
            have : (n == n') = false := by rw [bne_iff_ne] at h3; simp [h3]
            simp [headAlike, this])
          rw [HA.out]
          go_enter Tryz.func109, Tryz.ntmps109
          go_wp2
          go_ret
          exact ⟨rfl, below2 _ _ _⟩
      · rw [Bool.not_eq_true] at h2
        have HA : Hid ((headAlike k k' s s' n n' && alike ts us) = false) := Lib.hid (by
          simp [headAlike, h2])
        rw [HA.out]
        go_enter Tryz.func109, Tryz.ntmps109
        go_wp2
        go_ret
        exact ⟨rfl, below2 _ _ _⟩
    · rw [Bool.not_eq_false] at h1
      have HA : Hid ((headAlike k k' s s' n n' && alike ts us) = false) := Lib.hid (by
        have : (k == k') = false := by rw [bne_iff_ne] at h1; simp [h1]
        simp [headAlike, this])
      rw [HA.out]
      go_enter Tryz.func109, Tryz.ntmps109
      go_wp2
      go_ret
      exact ⟨rfl, below2 _ _ _⟩

end Go.Proofs.YtnmhnaanpjlniaaGreat
/-
  How deep, how many nodes.
-/
namespace Go.Proofs.YtnmhnaanpjlniaaGreat
open Go.RowKit

def depthL : Ts → Nat
  | .nil => 0
  | .cons _ _ _ _ _ kids rest => max (depthL kids + 1) (depthL rest)

theorem depthL_size : ∀ ts : Ts, depthL ts ≤ ts.size
  | .nil => Nat.le_refl _
  | .cons _ _ _ _ _ kids rest => by
    have h1 := depthL_size kids
    have h2 := depthL_size rest
    simp only [depthL, Ts.size]; omega

theorem Ts.len_size : ∀ ts : Ts, ts.len ≤ ts.size
  | .nil => Nat.le_refl _
  | .cons _ _ _ _ _ _ r => by have := Ts.len_size r; simp only [Ts.len, Ts.size]; omega

theorem box1 (w : World) (A : Array Value) (t : TypeId) : ∃ W, W = w.alloc (.cells A t) ∧ W.heap.size = w.heap.size + 1 ∧ Below w.heap.size w W ∧ (∀ i v, A[i]? = some v → W.cell? ⟨w.heap.size, i, none⟩ = some v) := by
  refine ⟨_, rfl, by simp, (Below.refl _ _).alloc (Nat.le_refl _) _, fun i v h => ?_⟩
  rw [_root_.Go.Joins.cell_alloc_mark_at w A t _ _ i rfl]; exact h

/-- an element of a list, in a later world -/
theorem Ts.open_at {W wr : World} {ts : Ts} {b o j : Nat} (hl : ts.lies W b o) (hB : Below W.heap.size W wr) (hok : ts.ok) (h : j < ts.len) :
    ∃ (k : Int) (s : ByteArray) (n : Int) (p : Option Addr) (c : Nat) (kids rest : Ts), Hid (ts.drop j = .cons k s n p c kids rest) ∧
      wr.cell? ⟨b, o + j * 4, none⟩ = some (.int .u8 k) ∧ wr.cell? ⟨b, o + j * 4 + 1, none⟩ = some (.string s) ∧ wr.cell? ⟨b, o + j * 4 + 2, none⟩ = some (.int .i64 n) ∧ wr.cell? ⟨b, o + j * 4 + 3, none⟩ = some (.slice p kids.len c) ∧
      Hid (Ts.At wr p kids) ∧ Hid kids.ok ∧ (kids.len ≤ c ∧ c ≤ 9223372036854775807) ∧ kids.size + rest.size + 1 ≤ ts.size ∧ (0 ≤ k ∧ k ≤ 255) ∧ s.size ≤ 140737488351232 ∧ (-9223372036854775808 ≤ n ∧ n ≤ 9223372036854775807) := by
  obtain ⟨k, s, n, p, c, kids, rest, hd⟩ := Ts.drop_cons h
  have hl2 := Ts.lies_stay (stays hB).1 _ (Ts.lies_drop j ts hl)
  have hokd := Ts.ok_drop j ts hok
  have hsz := Ts.drop_size j ts
  rw [hd] at hl2 hokd hsz
  simp only [Ts.size] at hsz
  obtain ⟨l0, l1, l2, l3, ⟨bb, oo, hpp, hlk⟩, _⟩ := hl2
  rw [Nat.mul_comm 4 j] at l0 l1 l2 l3
  exact ⟨k, s, n, p, c, kids, rest, Lib.hid hd, l0, l1, l2, l3, Lib.hid ⟨bb, oo, hpp, hlk⟩, Lib.hid hokd.2.2.2.2.2.1, hokd.2.2.2.1, hsz, hokd.1, hokd.2.1, hokd.2.2.1⟩

/-- where a list that has elements lies -/
theorem Ts.some_of {ts : Ts} {p : Option Addr} {b o j : Nat} (h : ts = .nil ∨ p = some ⟨b, o, none⟩) (hj : j < ts.len) : p = some ⟨b, o, none⟩ := by
  rcases h with rfl | h
  · simp [Ts.len] at hj
  · exact h

theorem Ts.drop_end {ts : Ts} {j : Nat} (h : ¬ j < ts.len) : ts.drop j = .nil := Ts.len_zero (by rw [Ts.drop_len]; omega)

set_option maxRecDepth 100000 in
set_option maxHeartbeats 1000000 in
theorem rdepth_any : ∀ (sz : Nat) (ts : Ts), ts.size < sz → ts.size ≤ 1000000 → ts.ok → ∀ (k : Int) (s : ByteArray) (n : Int) (w : World) (p : Option Addr) (c : Nat), Ts.At w p ts →
    Calls Tryz.prog 31 #[.agg #[.int .u8 k, .string s, .int .i64 n, .slice p ts.len c]] w fun e w' =>
      e = .returned (.int .i64 ((depthL ts + 1 : Nat) : Int)) ∧ Below w.heap.size w w' := by
  intro sz
  induction sz with
  | zero => intro ts h; omega
  | succ sz ih =>
    intro ts hsz hbig hok k s n w p c hat
    have hds := depthL_size ts
    have hls := Ts.len_size ts
    obtain ⟨W2, hW2, hsz2, hB2, hc1⟩ := box1 w #[.int .u8 k, .string s, .int .i64 n, .slice p ts.len c] 25
    have a3 : W2.cell? ⟨w.heap.size, 3, none⟩ = some (.slice p ts.len c) := hc1 3 _ rfl
    obtain ⟨b, o, hp, hlies⟩ := hat.below hB2
    go_enter Tryz.func31, Tryz.ntmps31
    go_wp2
    rw [← hW2]
    have Z := Lib.hid hW2
    have BW := Lib.hid hB2
    clear hB2 hc1 hW2
    go_loopw [3, 4] (fun m i wr => ∃ (j m' : Nat), j ≤ ts.len ∧ i = .int .i64 j ∧ m = .int .i64 m' ∧ m' ≤ depthL ts ∧ max m' (depthL (ts.drop j)) = depthL ts ∧ Below W2.heap.size W2 wr) (fun _ i _ => ts.len - (intOf i).toNat)
    case atStart => exact ⟨0, 0, Nat.zero_le _, rfl, rfl, Nat.zero_le _, by simp [Ts.drop], Below.refl _ _⟩
    case round =>
      rename_i wr _
      obtain ⟨j, m', hk, rfl, rfl, hm', hrel, hB⟩ := hrel
      have R := Lib.hid hrel
      have B := Lib.hid hB
      clear hrel
      have a3' := (hB.cell (p := ⟨w.heap.size, 3, none⟩) (by rw [hsz2]; simp)).trans a3
      by_cases hlt : j < ts.len
      · obtain ⟨kk, s1, nn, pp, cc, kids, rest, D, l0, l1, l2, l3, A1, O1, hkl, hsz3, _, _, _⟩ := Ts.open_at hlies hB hok hlt
        obtain rfl := Ts.some_of hp hlt
        clear hB hp
        go_wp2_with fail
        refine (ih kids (by omega) (by omega) O1.out kk s1 nn wr pp cc A1.out).mono ?_
        rintro e w' ⟨rfl, hB3⟩
        have B3 := Lib.hid (B.out.trans (hB3.mono B.out.size))
        clear hB3 l0 l1 l2 l3 a3'
        have hdk := depthL_size kids
        go_wp2
        go_roundw
        case rel =>
          have h := R.out
          rw [D.out] at h
          simp only [depthL] at h
          have hd2 := Ts.drop_succ j ts D.out
          refine ⟨j + 1, max m' (depthL kids + 1), by omega, by go_num, ?_, by omega, by rw [hd2]; omega, B3.out⟩
          congr 1
          split <;> omega
        case measure => simp [intOf]; omega
      · have hd := Ts.drop_end hlt
        have h := R.out
        rw [hd] at h
        have H : Hid (m' = depthL ts) := Lib.hid (by simpa [depthL] using h)
        clear h hd hB
        go_wp2
        go_ret
        refine ⟨?_, BW.out.trans (B.out.mono BW.out.size)⟩
        rw [← H.out]
        go_num



end Go.Proofs.YtnmhnaanpjlniaaGreat
/-
  Whether a name may be one.
-/
namespace Go.Proofs.YtnmhnaanpjlniaaGreat
open Go.RowKit

/-- may a byte stand in a name? -/
def okB (x : Nat) : Prop := (32 ≤ x ∧ x ≤ 126) ∨ x = 9 ∨ x = 10
def nameOk (s : ByteArray) : Prop := s.size ≤ 32 ∧ ∀ (j : Nat) (h : j < s.size), okB s[j].toNat
open Classical in
noncomputable def nameB (s : ByteArray) : Bool := decide (nameOk s)

theorem nameB_true {s : ByteArray} (h : nameOk s) : nameB s = true := by simp [nameB, h]
theorem nameB_false {s : ByteArray} (h : ¬ nameOk s) : nameB s = false := by simp [nameB, h]

/-- the ways that a byte may be, as the walk asks -/
theorem byte_ways (x : Nat) :
    (okB x ∧ (((32 : Int) ≤ (x : Int) ∧ (x : Int) ≤ 126) ∨ ((x : Int) < 32 ∧ ((x : Int) != 9) = false) ∨ ((x : Int) < 32 ∧ ((x : Int) != 9) = true ∧ ((x : Int) != 10) = false))) ∨
    (¬ okB x ∧ (((x : Int) < 32 ∧ ((x : Int) != 9) = true ∧ ((x : Int) != 10) = true) ∨ (32 ≤ (x : Int) ∧ 126 < (x : Int) ∧ ((x : Int) != 9) = true ∧ ((x : Int) != 10) = true))) := by
  simp only [bne_iff_ne, bne_eq_false_iff_eq, ne_eq, okB]
  omega

set_option maxRecDepth 100000 in
set_option maxHeartbeats 1000000 in
theorem rname_any (s : ByteArray) (hs : s.size ≤ 140737488351232) (w : World) :
    Calls Tryz.prog 66 #[.string s] w fun e w' => e = .returned (.bool (nameB s)) ∧ w' = w := by
  go_enter Tryz.func66, Tryz.ntmps66
  go_wp2
  go_loop [3] (fun i => ∃ (j : Nat), j ≤ s.size ∧ i = .int .i64 j ∧ ∀ (m : Nat) (h : m < s.size), m < j → okB s[m].toNat) (fun i => s.size - (intOf i).toNat)
  case atStart => exact ⟨0, Nat.zero_le _, rfl, fun m h1 h2 => by omega⟩
  case round =>
    obtain ⟨j, hj, rfl, hr⟩ := hrel
    have R := Lib.hid hr
    clear hr
    by_cases hlt : j < s.size
    · rcases byte_ways s[j].toNat with ⟨hk, hw⟩ | ⟨hk, hw⟩
      · have RK : Hid (∀ (m : Nat) (h : m < s.size), m < j + 1 → okB s[m].toNat) := Lib.hid fun m h h1 => by
          by_cases e : m = j
          · subst e; exact hk
          · exact R.out m h (by omega)
        clear R hk
        rcases hw with ⟨h1, h2⟩ | ⟨h1, h2⟩ | ⟨h1, h2, h3⟩
        · go_wp2
          go_round
          case rel => exact ⟨j + 1, by omega, by go_num, RK.out⟩
          case measure => simp [intOf]; omega
        · go_wp2
          go_round
          case rel => exact ⟨j + 1, by omega, by go_num, RK.out⟩
          case measure => simp [intOf]; omega
        · go_wp2
          go_round
          case rel => exact ⟨j + 1, by omega, by go_num, RK.out⟩
          case measure => simp [intOf]; omega
      · have NB : Hid (nameB s = false) := Lib.hid (nameB_false fun h => hk (h.2 j hlt))
        clear R hk
        rcases hw with ⟨h1, h2, h3⟩ | ⟨h1, h2, h3, h4⟩
        · go_wp2
          go_ret
          exact ⟨by rw [NB.out]; rfl, rfl⟩
        · go_wp2
          go_ret
          exact ⟨by rw [NB.out]; rfl, rfl⟩
    · have hall : ∀ (m : Nat) (h : m < s.size), okB s[m].toNat := fun m h => R.out m h (by omega)
      have NB : Hid (nameB s = decide ((s.size : Int) ≤ 32)) := Lib.hid (by
        by_cases h : s.size ≤ 32
        · rw [nameB_true ⟨h, hall⟩]; simp; omega
        · rw [nameB_false (fun h' => h h'.1)]; simp; omega)
      clear R hall
      go_wp2
      go_ret
      exact ⟨by rw [NB.out]; rfl, rfl⟩

end Go.Proofs.YtnmhnaanpjlniaaGreat
/-
  Whether a term is good.
-/
namespace Go.Proofs.YtnmhnaanpjlniaaGreat
open Go.RowKit

/-- whether a node, without its parts, is as it should be -/
noncomputable def headB (k : Int) (s : ByteArray) (n : Int) (len : Nat) : Bool :=
  if k = 1 then decide (0 ≤ n) && ((s.toList == []) && ((len : Int) == 0))
  else if k = 2 then (s.toList == []) && ((len : Int) == 0)
  else if k = 3 then (n == 0) && (((len : Int) == 0) && nameB s)
  else (k == 4) && ((n == 0) && (decide (0 < len) && (decide (len ≤ 16) && nameB s)))

theorem head_ways (k : Int) (s : ByteArray) (n : Int) (len : Nat) :
    ((k == 1) = true ∧ n < 0 ∧ headB k s n len = false) ∨
    ((k == 1) = true ∧ 0 ≤ n ∧ (s.toList == []) = false ∧ headB k s n len = false) ∨
    ((k == 1) = true ∧ 0 ≤ n ∧ (s.toList == []) = true ∧ headB k s n len = ((len : Int) == 0)) ∨
    ((k == 1) = false ∧ (k == 2) = true ∧ (s.toList == []) = false ∧ headB k s n len = false) ∨
    ((k == 1) = false ∧ (k == 2) = true ∧ (s.toList == []) = true ∧ headB k s n len = ((len : Int) == 0)) ∨
    ((k == 1) = false ∧ (k == 2) = false ∧ (k == 3) = true ∧ (n == 0) = false ∧ headB k s n len = false) ∨
    ((k == 1) = false ∧ (k == 2) = false ∧ (k == 3) = true ∧ (n == 0) = true ∧ ((len : Int) == 0) = false ∧ headB k s n len = false) ∨
    ((k == 1) = false ∧ (k == 2) = false ∧ (k == 3) = true ∧ (n == 0) = true ∧ ((len : Int) == 0) = true ∧ headB k s n len = nameB s) ∨
    ((k == 1) = false ∧ (k == 2) = false ∧ (k == 3) = false ∧ (k == 4) = false ∧ headB k s n len = false) ∨
    ((k == 1) = false ∧ (k == 2) = false ∧ (k == 3) = false ∧ (k == 4) = true ∧ (n == 0) = false ∧ headB k s n len = false) ∨
    ((k == 1) = false ∧ (k == 2) = false ∧ (k == 3) = false ∧ (k == 4) = true ∧ (n == 0) = true ∧ (len : Int) ≤ 0 ∧ headB k s n len = false) ∨
    ((k == 1) = false ∧ (k == 2) = false ∧ (k == 3) = false ∧ (k == 4) = true ∧ (n == 0) = true ∧ 0 < (len : Int) ∧ 16 < (len : Int) ∧ headB k s n len = false) ∨
    ((k == 1) = false ∧ (k == 2) = false ∧ (k == 3) = false ∧ (k == 4) = true ∧ (n == 0) = true ∧ 0 < (len : Int) ∧ (len : Int) ≤ 16 ∧ headB k s n len = nameB s) := by
  by_cases e1 : k = 1
  · have hh : headB k s n len = (decide (0 ≤ n) && ((s.toList == []) && ((len : Int) == 0))) := by unfold headB; rw [if_pos e1]
    have f1 : (k == 1) = true := by simp [e1]
    rw [hh]
    by_cases a : n < 0
    · exact .inl ⟨f1, a, by rw [decide_eq_false (by omega)]; rfl⟩
    · cases b : (s.toList == []) with
      | false => exact .inr (.inl ⟨f1, by omega, rfl, by simp⟩)
      | true => exact .inr (.inr (.inl ⟨f1, by omega, rfl, by rw [decide_eq_true (by omega)]; rfl⟩))
  · have f1 : (k == 1) = false := by simp [e1]
    by_cases e2 : k = 2
    · have hh : headB k s n len = ((s.toList == []) && ((len : Int) == 0)) := by unfold headB; rw [if_neg e1, if_pos e2]
      have f2 : (k == 2) = true := by simp [e2]
      rw [hh]
      cases b : (s.toList == []) with
      | false => exact .inr (.inr (.inr (.inl ⟨f1, f2, rfl, rfl⟩)))
      | true => exact .inr (.inr (.inr (.inr (.inl ⟨f1, f2, rfl, rfl⟩))))
    · have f2 : (k == 2) = false := by simp [e2]
      by_cases e3 : k = 3
      · have hh : headB k s n len = ((n == 0) && (((len : Int) == 0) && nameB s)) := by unfold headB; rw [if_neg e1, if_neg e2, if_pos e3]
        have f3 : (k == 3) = true := by simp [e3]
        rw [hh]
        cases a : (n == 0) with
        | false => exact .inr (.inr (.inr (.inr (.inr (.inl ⟨f1, f2, f3, rfl, rfl⟩)))))
        | true =>
          cases b : ((len : Int) == 0) with
          | false => exact .inr (.inr (.inr (.inr (.inr (.inr (.inl ⟨f1, f2, f3, rfl, rfl, rfl⟩))))))
          | true => exact .inr (.inr (.inr (.inr (.inr (.inr (.inr (.inl ⟨f1, f2, f3, rfl, rfl, rfl⟩)))))))
      · have hh : headB k s n len = ((k == 4) && ((n == 0) && (decide (0 < len) && (decide (len ≤ 16) && nameB s)))) := by unfold headB; rw [if_neg e1, if_neg e2, if_neg e3]
        have f3 : (k == 3) = false := by simp [e3]
        rw [hh]
        cases f4 : (k == 4) with
        | false => exact .inr (.inr (.inr (.inr (.inr (.inr (.inr (.inr (.inl ⟨f1, f2, f3, rfl, rfl⟩))))))))
        | true =>
          cases a : (n == 0) with
          | false => exact .inr (.inr (.inr (.inr (.inr (.inr (.inr (.inr (.inr (.inl ⟨f1, f2, f3, rfl, rfl, rfl⟩)))))))))
          | true =>
            by_cases b : 0 < len
            · by_cases c : len ≤ 16
              · exact .inr (.inr (.inr (.inr (.inr (.inr (.inr (.inr (.inr (.inr (.inr (.inr ⟨f1, f2, f3, rfl, rfl, by omega, by omega, by rw [decide_eq_true b, decide_eq_true c]; rfl⟩)))))))))))
              · exact .inr (.inr (.inr (.inr (.inr (.inr (.inr (.inr (.inr (.inr (.inr (.inl ⟨f1, f2, f3, rfl, rfl, by omega, by omega, by rw [decide_eq_false c, decide_eq_true b]; rfl⟩)))))))))))
            · exact .inr (.inr (.inr (.inr (.inr (.inr (.inr (.inr (.inr (.inr (.inl ⟨f1, f2, f3, rfl, rfl, by omega, by rw [decide_eq_false b]; rfl⟩))))))))))

noncomputable def shapeL : Ts → Bool
  | .nil => true
  | .cons k s n _ _ kids rest => (shapeL kids && headB k s n kids.len) && shapeL rest

set_option maxRecDepth 100000 in
set_option maxHeartbeats 2000000 in
theorem rshape_any : ∀ (sz : Nat) (ts : Ts), ts.size < sz → ts.size ≤ 1000000 → ts.ok → ∀ (k : Int) (s : ByteArray) (n : Int) (w : World) (p : Option Addr) (c : Nat), s.size ≤ 140737488351232 → Ts.At w p ts →
    Calls Tryz.prog 32 #[.agg #[.int .u8 k, .string s, .int .i64 n, .slice p ts.len c]] w fun e w' =>
      e = .returned (.bool (shapeL ts && headB k s n ts.len)) ∧ Below w.heap.size w w' := by
  intro sz
  induction sz with
  | zero => intro ts h; omega
  | succ sz ih =>
    intro ts hsz hbig hok k s n w p c hs hat
    have hls := Ts.len_size ts
    obtain ⟨W2, hW2, hsz2, hB2, hc1⟩ := box1 w #[.int .u8 k, .string s, .int .i64 n, .slice p ts.len c] 25
    have a0 : W2.cell? ⟨w.heap.size, 0, none⟩ = some (.int .u8 k) := hc1 0 _ rfl
    have a1 : W2.cell? ⟨w.heap.size, 1, none⟩ = some (.string s) := hc1 1 _ rfl
    have a2 : W2.cell? ⟨w.heap.size, 2, none⟩ = some (.int .i64 n) := hc1 2 _ rfl
    have a3 : W2.cell? ⟨w.heap.size, 3, none⟩ = some (.slice p ts.len c) := hc1 3 _ rfl
    obtain ⟨b, o, hp, hlies⟩ := hat.below hB2
    go_enter Tryz.func32, Tryz.ntmps32
    go_wp2
    rw [← hW2]
    have Z := Lib.hid hW2
    have BW := Lib.hid hB2
    clear hB2 hc1 hW2
    go_loopw [3] (fun i wr => ∃ (j : Nat), j ≤ ts.len ∧ i = .int .i64 j ∧ shapeL (ts.drop j) = shapeL ts ∧ Below W2.heap.size W2 wr) (fun i _ => ts.len - (intOf i).toNat)
    case atStart => exact ⟨0, Nat.zero_le _, rfl, rfl, Below.refl _ _⟩
    case round =>
      rename_i wr _
      obtain ⟨j, hk, rfl, hrel, hB⟩ := hrel
      have B := Lib.hid hB
      have R := Lib.hid hrel
      clear hrel
      have a0' := (hB.cell (p := ⟨w.heap.size, 0, none⟩) (by rw [hsz2]; simp)).trans a0
      have a1' := (hB.cell (p := ⟨w.heap.size, 1, none⟩) (by rw [hsz2]; simp)).trans a1
      have a2' := (hB.cell (p := ⟨w.heap.size, 2, none⟩) (by rw [hsz2]; simp)).trans a2
      have a3' := (hB.cell (p := ⟨w.heap.size, 3, none⟩) (by rw [hsz2]; simp)).trans a3
      by_cases hlt : j < ts.len
      · obtain ⟨kk, s1, nn, pp, cc, kids, rest, D, l0, l1, l2, l3, A1, O1, hkl, hsz3, _, hs1, _⟩ := Ts.open_at hlies hB hok hlt
        obtain rfl := Ts.some_of hp hlt
        clear hB hp
        go_wp2_with fail
        refine (ih kids (by omega) (by omega) O1.out kk s1 nn wr pp cc hs1 A1.out).mono ?_
        rintro e w' ⟨rfl, hB3⟩
        have B3 := Lib.hid (B.out.trans (hB3.mono B.out.size))
        clear hB3 l0 l1 l2 l3 a3' a0' a1' a2'
        by_cases hq : (shapeL kids && headB kk s1 nn kids.len) = true
        · rw [hq]
          have Q := Lib.hid hq
          clear hq
          go_wp2
          go_roundw
          case rel =>
            refine ⟨j + 1, by omega, by go_num, ?_, B3.out⟩
            rw [Ts.drop_succ j ts D.out, ← R.out, D.out]
            simp only [shapeL, Q.out, Bool.true_and]
          case measure => simp [intOf]; omega
        · rw [Bool.not_eq_true] at hq
          rw [hq]
          have Q := Lib.hid hq
          clear hq
          go_wp2
          go_ret
          refine ⟨?_, BW.out.trans (B3.out.mono BW.out.size)⟩
          rw [← R.out, D.out]
          simp only [shapeL, Q.out, Bool.false_and]
          rfl
      · have hd := Ts.drop_end hlt
        have h := R.out
        rw [hd] at h
        have H : Hid ((shapeL ts && headB k s n ts.len) = headB k s n ts.len) := Lib.hid (by rw [← h]; rfl)
        have BB : Hid (Below w.heap.size w wr) := Lib.hid (BW.out.trans (B.out.mono BW.out.size))
        clear h hd hB R B Z BW hlies hp hat a0 a1 a2 a3
        rcases head_ways k s n ts.len with ⟨h1, h2, HB⟩ | ⟨h1, h2, h3, HB⟩ | ⟨h1, h2, h3, HB⟩ | ⟨h1, h2, h3, HB⟩ | ⟨h1, h2, h3, HB⟩ | ⟨h1, h2, h3, h4, HB⟩ | ⟨h1, h2, h3, h4, h5, HB⟩ | ⟨h1, h2, h3, h4, h5, HB⟩ | ⟨h1, h2, h3, h4, HB⟩ | ⟨h1, h2, h3, h4, h5, HB⟩ | ⟨h1, h2, h3, h4, h5, h6, HB⟩ | ⟨h1, h2, h3, h4, h5, h6, h7, HB⟩ | ⟨h1, h2, h3, h4, h5, h6, h7, HB⟩
        all_goals (have HB2 := Lib.hid HB; clear HB)
        all_goals go_wp2_with (go_at_call 66; refine (rname_any s hs _).mono ?_; rintro e w' ⟨rfl, rfl⟩)
        all_goals go_ret
        all_goals exact ⟨by rw [H.out, HB2.out]; rfl, BB.out⟩

end Go.Proofs.YtnmhnaanpjlniaaGreat
/-
  Whether a term is good, by the code under proof.
-/
namespace Go.Proofs.YtnmhnaanpjlniaaGreat
open Go.RowKit



noncomputable def goodB (d : Nat) (k : Int) (s : ByteArray) (n : Int) (ts : Ts) : Bool := decide (depthL ts + 1 ≤ d) && (shapeL ts && headB k s n ts.len)



end Go.Proofs.YtnmhnaanpjlniaaGreat
/-
  Good, of both.
-/
namespace Go.Proofs.YtnmhnaanpjlniaaGreat
open Go.RowKit


set_option maxHeartbeats 1000000 in
theorem rGood_any (ts : Ts) (hbig : ts.size ≤ 1000000) (hok : ts.ok) (k : Int) (s : ByteArray) (n : Int) (w : World) (p : Option Addr) (c : Nat) (hs : s.size ≤ 140737488351232) (hat : Ts.At w p ts) :
    Calls Tryz.prog 9 #[.agg #[.int .u8 k, .string s, .int .i64 n, .slice p ts.len c]] w fun e w' =>
      e = .returned (.bool (goodB 64 k s n ts)) ∧ Below w.heap.size w w' := by
  have hds := depthL_size ts
  obtain ⟨W2, hW2, hsz2, hB2, hc1⟩ := box1 w #[.int .u8 k, .string s, .int .i64 n, .slice p ts.len c] 25
  have a0 : W2.cell? ⟨w.heap.size, 0, none⟩ = some (.int .u8 k) := hc1 0 _ rfl
  have a1 : W2.cell? ⟨w.heap.size, 1, none⟩ = some (.string s) := hc1 1 _ rfl
  have a2 : W2.cell? ⟨w.heap.size, 2, none⟩ = some (.int .i64 n) := hc1 2 _ rfl
  have a3 : W2.cell? ⟨w.heap.size, 3, none⟩ = some (.slice p ts.len c) := hc1 3 _ rfl
  have A2 := Lib.hid (hat.below hB2)
  go_enter Tryz.func9, Tryz.ntmps9
  go_wp2_with fail
  rw [← hW2]
  have BW := Lib.hid hB2
  have Z := Lib.hid hW2
  clear hB2 hc1 hW2
  refine (rdepth_any _ ts (Nat.lt_succ_self _) hbig hok k s n _ p c A2.out).mono ?_
  rintro e w' ⟨rfl, hB⟩
  have a0' := (hB.cell (p := ⟨w.heap.size, 0, none⟩) (by rw [hsz2]; simp)).trans a0
  have a1' := (hB.cell (p := ⟨w.heap.size, 1, none⟩) (by rw [hsz2]; simp)).trans a1
  have a2' := (hB.cell (p := ⟨w.heap.size, 2, none⟩) (by rw [hsz2]; simp)).trans a2
  have a3' := (hB.cell (p := ⟨w.heap.size, 3, none⟩) (by rw [hsz2]; simp)).trans a3
  have A3 := Lib.hid (A2.out.below hB)
  have B := Lib.hid (BW.out.trans (hB.mono BW.out.size))
  clear hB a0 a1 a2 a3
  by_cases hd : ((depthL ts + 1 : Nat) : Int) ≤ 64
  · have G : Hid (goodB 64 k s n ts = (shapeL ts && headB k s n ts.len)) := Lib.hid (by
      have : decide (depthL ts + 1 ≤ 64) = true := decide_eq_true (by omega)
      rw [goodB, this, Bool.true_and])
    go_wp2_with fail
    refine (rshape_any _ ts (Nat.lt_succ_self _) hbig hok k s n _ p c hs A3.out).mono ?_
    rintro e w'' ⟨rfl, hB⟩
    have B' := Lib.hid (B.out.trans (hB.mono B.out.size))
    clear hB a0' a1' a2' a3'
    go_wp2
    go_ret
    exact ⟨by rw [G.out]; rfl, B'.out⟩
  · have G : Hid (goodB 64 k s n ts = false) := Lib.hid (by
      have : decide (depthL ts + 1 ≤ 64) = false := decide_eq_false (by omega)
      rw [goodB, this, Bool.false_and])
    go_wp2
    go_ret
    exact ⟨by rw [G.out]; rfl, B.out⟩

end Go.Proofs.YtnmhnaanpjlniaaGreat
/-
  Clones of terms.
-/
namespace Go.Proofs.YtnmhnaanpjlniaaGreat
open Go.RowKit

namespace Ts
/-- like lies, in blocks from one on -/
def liesB (B : Nat) (w : World) : Nat → Nat → Ts → Prop
  | _, _, .nil => True
  | b, o, .cons k s n p cap kids rest =>
    B ≤ b ∧ w.cell? ⟨b, o, none⟩ = some (.int .u8 k) ∧ w.cell? ⟨b, o + 1, none⟩ = some (.string s) ∧ w.cell? ⟨b, o + 2, none⟩ = some (.int .i64 n) ∧ w.cell? ⟨b, o + 3, none⟩ = some (.slice p kids.len cap) ∧
    (∃ b' o', (kids = .nil ∨ p = some ⟨b', o', none⟩) ∧ liesB B w b' o' kids) ∧ liesB B w b (o + 4) rest

def AtB (B : Nat) (w : World) (p : Option Addr) (ts : Ts) : Prop := ∃ b o, (ts = .nil ∨ p = some ⟨b, o, none⟩) ∧ ts.liesB B w b o

theorem liesB_lies {B : Nat} {w : World} : ∀ (ts : Ts) {b o : Nat}, ts.liesB B w b o → ts.lies w b o
  | .nil, _, _, _ => trivial
  | .cons _ _ _ _ _ kids rest, _, _, ⟨_, h0, h1, h2, h3, ⟨b', o', h4, h5⟩, h6⟩ => ⟨h0, h1, h2, h3, ⟨b', o', h4, liesB_lies kids h5⟩, liesB_lies rest h6⟩

theorem AtB.at {B : Nat} {w : World} {p : Option Addr} {ts : Ts} (h : AtB B w p ts) : At w p ts := by
  obtain ⟨b, o, h1, h2⟩ := h
  exact ⟨b, o, h1, liesB_lies ts h2⟩

theorem liesB_stay {B B' : Nat} {w w' : World} (hBB : B' ≤ B) (hc : ∀ b o, B ≤ b → b < w.heap.size → w'.cell? ⟨b, o, none⟩ = w.cell? ⟨b, o, none⟩) : ∀ (ts : Ts) {b o : Nat}, ts.liesB B w b o → ts.liesB B' w' b o
  | .nil, _, _, _ => trivial
  | .cons k s n p cap kids rest, b, o, ⟨hb, h0, h1, h2, h3, ⟨b', o', h4, h5⟩, h6⟩ => by
    have hlt : b < w.heap.size := World.block_lt_of_cell? _ _ h0
    exact ⟨Nat.le_trans hBB hb, (hc _ _ hb hlt).trans h0, (hc _ _ hb hlt).trans h1, (hc _ _ hb hlt).trans h2, (hc _ _ hb hlt).trans h3, ⟨b', o', h4, liesB_stay hBB hc kids h5⟩, liesB_stay hBB hc rest h6⟩

theorem AtB.stay {B B' : Nat} {w w' : World} {p : Option Addr} {ts : Ts} (h : AtB B w p ts) (hBB : B' ≤ B) (hc : ∀ b o, B ≤ b → b < w.heap.size → w'.cell? ⟨b, o, none⟩ = w.cell? ⟨b, o, none⟩) : AtB B' w' p ts := by
  obtain ⟨b, o, h1, h2⟩ := h
  exact ⟨b, o, h1, liesB_stay hBB hc ts h2⟩

/-- the same terms, lying elsewhere -/
def twin : Ts → Ts → Prop
  | .nil, .nil => True
  | .cons k s n _ _ kids rest, .cons k' s' n' _ _ kids' rest' => k = k' ∧ s = s' ∧ n = n' ∧ twin kids kids' ∧ twin rest rest'
  | _, _ => False

theorem twin_len : ∀ (us ts : Ts), twin us ts → us.len = ts.len
  | .nil, .nil, _ => rfl
  | .cons _ _ _ _ _ _ r, .cons _ _ _ _ _ _ r', h => by simp only [len]; rw [twin_len r r' h.2.2.2.2]
  | .nil, .cons .., h => h.elim
  | .cons .., .nil, h => h.elim

theorem twin_size : ∀ (us ts : Ts), twin us ts → us.size = ts.size
  | .nil, .nil, _ => rfl
  | .cons _ _ _ _ _ k r, .cons _ _ _ _ _ k' r', h => by simp only [size]; rw [twin_size k k' h.2.2.2.1, twin_size r r' h.2.2.2.2]
  | .nil, .cons .., h => h.elim
  | .cons .., .nil, h => h.elim

theorem twin_refl : ∀ ts : Ts, twin ts ts
  | .nil => trivial
  | .cons _ _ _ _ _ k r => ⟨rfl, rfl, rfl, twin_refl k, twin_refl r⟩

/-- the first elements have been copied -/
def Done (w : World) (R : Nat) (ts : Ts) (j : Nat) : Prop := ∀ m, m < j → ∀ k s n p c kids rest, ts.drop m = .cons k s n p c kids rest →
  ∃ p' c' kids', w.cell? ⟨R, m * 4, none⟩ = some (.int .u8 k) ∧ w.cell? ⟨R, m * 4 + 1, none⟩ = some (.string s) ∧ w.cell? ⟨R, m * 4 + 2, none⟩ = some (.int .i64 n) ∧ w.cell? ⟨R, m * 4 + 3, none⟩ = some (.slice p' kids'.len c') ∧
    AtB (R + 1) w p' kids' ∧ twin kids' kids ∧ kids'.ok ∧ (kids'.len ≤ c' ∧ c' ≤ 9223372036854775807) ∧ (p' = none → c' = 0)

theorem Done.made {w : World} {R : Nat} {ts : Ts} (h : Done w R ts ts.len) (hok : ts.ok) : ∃ us : Ts, us.liesB R w R 0 ∧ twin us ts ∧ us.ok := by
  have build : ∀ i, i ≤ ts.len → ∃ us : Ts, us.liesB R w R ((ts.len - i) * 4) ∧ twin us (ts.drop (ts.len - i)) ∧ us.ok := by
    intro i
    induction i with
    | zero =>
      intro _
      refine ⟨.nil, trivial, ?_, trivial⟩
      rw [Ts.len_zero (ts := ts.drop (ts.len - 0)) (by rw [Ts.drop_len]; omega)]
      trivial
    | succ i ih =>
      intro hi
      obtain ⟨us, h1, h2, h3⟩ := ih (by omega)
      have hlt : ts.len - (i + 1) < ts.len := by omega
      obtain ⟨k, s, n, p, c, kids, rest, hd⟩ := Ts.drop_cons hlt
      have hokd := Ts.ok_drop (ts.len - (i + 1)) ts hok
      rw [hd] at hokd
      obtain ⟨p', c', kids', c0, c1, c2, c3, hat, ht, hok', hl, hp⟩ := h _ hlt _ _ _ _ _ _ _ hd
      have hs := Ts.drop_succ _ ts hd
      rw [show ts.len - (i + 1) + 1 = ts.len - i from by omega] at hs
      rw [hs] at h2
      obtain ⟨b', o', e1, e2⟩ := hat
      refine ⟨.cons k s n p' c' kids' us, ⟨Nat.le_refl _, c0, c1, c2, c3, ⟨b', o', e1, liesB_stay (Nat.le_succ R) (fun _ _ _ _ => rfl) kids' e2⟩, ?_⟩, ?_, ⟨hokd.1, hokd.2.1, hokd.2.2.1, hl, hp, hok', h3⟩⟩
      · rw [show (ts.len - (i + 1)) * 4 + 4 = (ts.len - i) * 4 from by omega]; exact h1
      · rw [hd]; exact ⟨rfl, rfl, rfl, ht, h2⟩
  obtain ⟨us, h1, h2, h3⟩ := build ts.len (Nat.le_refl _)
  rw [Nat.sub_self] at h1 h2
  exact ⟨us, by simpa using h1, h2, h3⟩
end Ts

def zeroTerm : Value := .agg #[.int .u8 0, .string ByteArray.empty, .int .i64 0, .slice none 0 0]
def zeroCells (n : Nat) : Array Value := madeCells zeroTerm.cells (n * 4)
theorem size_zeroCells (n : Nat) : (zeroCells n).size = n * 4 := size_madeCells _ _
theorem infoTerm : (Tryz.prog.info? 25).map (fun i => (i.zero, i.size, i.bytes)) = some (some zeroTerm, 4, 56) := by kernel_rfl

theorem make_terms (n : Nat) (hn : n ≤ 1000000) (w : World) :
    (Instr.makeSlice 23 (.int .i64 (n : Int)) (.int .i64 (n : Int))).run Tryz.prog w = .ok (.slice (some ⟨w.heap.size, 0, none⟩) n n) (w.alloc (.cells (zeroCells n) 25)) := by
  obtain ⟨i, hi, hz, hs, hb⟩ := info_parts infoTerm
  have h := run_make (w := w) 23 25 i zeroTerm Tryz.underlying23 hi hz .i64 .i64 (n : Int) (n : Int) (by omega) (by omega) (by rw [hb]; omega) (by omega)
  rw [hs] at h
  exact h

end Go.Proofs.YtnmhnaanpjlniaaGreat
