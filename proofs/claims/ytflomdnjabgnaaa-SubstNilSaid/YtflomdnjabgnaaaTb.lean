/-
  How many nodes the law counts; whether two lists are alike.
-/
import Derived.Test.YtflomdnjabgnaaaTa
import Derived.Deep.QuietTactic
import Derived.BigQuiet
namespace Go.Proofs.Ytflomdnjabgnaaa
open Go.RowKit

/-- the law's own count -/
def manyP : Ts → Int → Int
  | .nil, n => n
  | .cons _ s _ _ _ kids rest, n => if n < 2000 then manyP rest (manyP kids (n + 1 + (s.size : Int) / 200 * 2000)) else n

theorem manyP_ge : ∀ (ts : Ts) (n : Int), n ≤ manyP ts n
  | .nil, _ => Int.le_refl _
  | .cons _ s _ _ _ kids rest, n => by
    unfold manyP
    split
    · have h1 := manyP_ge kids (n + 1 + (s.size : Int) / 200 * 2000)
      have h2 := manyP_ge rest (manyP kids (n + 1 + (s.size : Int) / 200 * 2000))
      omega
    · omega

theorem manyP_stop {ts : Ts} {n : Int} (h : ¬ n < 2000) : manyP ts n = n := by
  cases ts with
  | nil => rfl
  | cons => unfold manyP; rw [if_neg h]

theorem manyP_go {k : Int} {s : ByteArray} {m : Int} {p : Option Addr} {c : Nat} {kids rest : Ts} {n : Int} (h : n < 2000) : manyP (.cons k s m p c kids rest) n = manyP rest (manyP kids (n + 1 + (s.size : Int) / 200 * 2000)) := by
  rw [manyP, if_pos h]

theorem manyP_le : ∀ (ts : Ts) (n : Int), ts.ok → n ≤ 1500000000000000 → manyP ts n ≤ 1500000000000000
  | .nil, _, _, h => h
  | .cons _ s _ _ _ kids rest, n, hok, h => by
    unfold manyP
    obtain ⟨_, hs, _, _, _, hk, hr⟩ := hok
    split
    · exact manyP_le rest _ hr (manyP_le kids _ hk (by omega))
    · exact h

theorem Ts.lies_drewN {w wr : World} {b o : Nat} {ts : Ts} {q : Nat} (h : ts.lies w b o) (e : wr = w.drewN q) : ts.lies wr b o := by
  subst e
  exact Ts.lies_stay (w := w) (w' := w.drewN q) (fun _ _ _ => rfl) ts h

set_option maxHeartbeats 1000000 in
theorem many_any : ∀ (sz : Nat) (ts : Ts), ts.size ≤ sz → ∀ (w : World) (p : Option Addr) (cap : Nat) (n : Int), Ts.At w p ts → ts.ok → ts.len ≤ 9223372036854775807 → 0 ≤ n → n ≤ 1500000000000000 →
    Calls Try.prog 56 #[.slice p ts.len cap, .int .i64 n] w fun e w' => e = .returned (.int .i64 (manyP ts n)) ∧ ∃ q, w' = w.drewN q := by
  intro sz
  induction sz with
  | zero =>
    intro ts hsz w p cap n hat hok hlen hn0 hn
    cases ts with
    | cons => simp [Ts.size] at hsz
    | nil =>
      go_enter Try.func56, Try.ntmps56
      have h0 : Ts.nil.len = 0 := rfl
      go_wp2
      refine wp_loop_rounds 1 ?_
      rw [rounds_succ]
      go_wp2
      go_ret
      exact ⟨rfl, 0, rfl⟩
  | succ sz ih =>
    intro ts hsz w p cap n hat hok hlen hn0 hn
    obtain ⟨b, o, hp, hlies⟩ := hat
    go_enter Try.func56, Try.ntmps56
    go_wp2
    go_loopw [1, 5] (fun m i wr => ∃ (k : Nat) (m' : Int), k ≤ ts.len ∧ i = .int .i64 k ∧ m = .int .i64 m' ∧ 0 ≤ m' ∧ m' ≤ 1500000000000000 ∧ manyP (ts.drop k) m' = manyP ts n ∧ ∃ q, wr = w.drewN q) (fun _ i _ => ts.len - (intOf i).toNat)
    case atStart => exact ⟨0, n, Nat.zero_le _, rfl, rfl, hn0, hn, rfl, 0, rfl⟩
    case round =>
      rename_i wr _
      obtain ⟨k, m', hk, rfl, rfl, hm0, hm, hrel, q, hq⟩ := hrel
      have R := Lib.hid hrel
      have Q := Lib.hid hq
      clear hrel
      by_cases hlt : k < ts.len
      · obtain ⟨kk, s, nn, pp, cc, kids, rest, hd⟩ := Ts.drop_cons hlt
        have hl := Ts.lies_drewN (Ts.lies_drop k ts hlies) hq
        have hokd := Ts.ok_drop k ts hok
        rw [hd] at hl hokd
        obtain ⟨l0, l1, l2, l3, ⟨b', o', hp', hlk⟩, _⟩ := hl
        obtain ⟨_, hs, _, ⟨hkl, hkc⟩, _, hok1, hok2⟩ := hokd
        have hp2 : p = some ⟨b, o, none⟩ := by
          rcases hp with rfl | rfl
          · simp [Ts.len] at hlt
          · rfl
        subst hp2
        have D := Lib.hid hd
        clear hd hq
        rw [Nat.mul_comm 4 k] at l0 l1 l2 l3
        by_cases hm2 : m' < 2000
        · have hsz2 := Ts.drop_size k ts
          rw [D.out] at hsz2
          simp only [Ts.size] at hsz2
          have hks := manyP_le kids (m' + 1 + (s.size : Int) / 200 * 2000) hok1 (by omega)
          have hkg := manyP_ge kids (m' + 1 + (s.size : Int) / 200 * 2000)
          go_wp2
          go_quiet ((go_at_call 56; refine Calls.quiet_of (ih kids (by omega) _ _ _ _ ⟨b', o', hp', Ts.lies_drewN hlk rfl⟩ hok1 (by omega) (by omega) (by omega))))
          go_wp2
          go_roundw
          case rel =>
            refine ⟨k + 1, _, by omega, by go_num, rfl, by omega, by omega, ?_, q + nq, by rw [Q.out, World.drewN_drewN]⟩
            have hR := R.out
            rw [D.out, manyP_go hm2] at hR
            rw [Ts.drop_succ k ts D.out]
            exact hR
          case measure => simp [intOf]; omega
        · have hm3 : 2000 ≤ m' := by omega
          go_wp2
          go_ret
          exact ⟨by have hR := R.out; rw [manyP_stop (by omega)] at hR; rw [← hR]; rfl, q, Q.out⟩
      · have hke : k = ts.len := by omega
        have hd : ts.drop k = .nil := Ts.len_zero (by rw [Ts.drop_len]; omega)
        have hR := R.out
        rw [hd] at hR
        have HR := Lib.hid hR
        clear hd hR hke hq
        go_wp2
        go_ret
        exact ⟨by rw [← HR.out]; rfl, q, Q.out⟩

theorem great_any (ts : Ts) (w : World) (p : Option Addr) (cap : Nat) (hat : Ts.At w p ts) (hok : ts.ok) (hlen : ts.len ≤ 9223372036854775807) :
    Calls Try.prog 15 #[.slice p ts.len cap] w fun e w' => e = .returned (.bool (decide (1000 < manyP ts 0))) ∧ ∃ q, w' = w.drewN q := by
  go_enter Try.func15, Try.ntmps15
  go_wp2_with fail
  refine (many_any ts.size ts (Nat.le_refl _) w p cap 0 hat hok hlen (by omega) (by omega)).mono ?_
  rintro e w' ⟨rfl, q, rfl⟩
  obtain ⟨m, hm⟩ : ∃ m, m = manyP ts 0 := ⟨_, rfl⟩
  rw [← hm]
  have HM := Lib.hid hm
  clear hm
  go_wp2
  go_ret
  exact ⟨by rw [← HM.out]; rfl, q, rfl⟩

end Go.Proofs.Ytflomdnjabgnaaa
