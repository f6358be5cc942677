import Derived.Test.YtnmhnaanpjlniaaTb
import Derived.Deep.RegionWith
import Derived.StillTailTactics
/-
  Whether two lists of terms, or two terms, are alike: the document's own answer.
-/
namespace Go.Proofs.Ytnmhnaanpjlniaa
open Go.RowKit

def alike : Ts → Ts → Bool
  | .nil, .nil => true
  | .cons k s n _ _ kids rest, .cons k' s' n' _ _ kids' rest' => (k == k') && ((s.toList == s'.toList) && ((n == n') && (alike kids kids' && alike rest rest')))
  | _, _ => false

theorem alike_len : ∀ (ts us : Ts), alike ts us = true → ts.len = us.len
  | .nil, .nil, _ => rfl
  | .cons _ _ _ _ _ _ r, .cons _ _ _ _ _ _ r', h => by
    simp only [alike, Bool.and_eq_true] at h
    simp only [Ts.len]
    rw [alike_len r r' h.2.2.2.2]
  | .nil, .cons .., h => by simp [alike] at h
  | .cons .., .nil, h => by simp [alike] at h

theorem stays {W w1 : World} (hb : Below W.heap.size W w1) : (∀ b o, b < W.heap.size → w1.cell? ⟨b, o, none⟩ = W.cell? ⟨b, o, none⟩) ∧ (∀ b o, b < W.heap.size → w1.frozen? ⟨b, o, none⟩ = W.frozen? ⟨b, o, none⟩) :=
  ⟨fun b o h => hb.cell (p := ⟨b, o, none⟩) h, fun b o h => hb.frozen (p := ⟨b, o, none⟩) h⟩

/-- a term's value -/
def tv (k : Int) (s : ByteArray) (n : Int) (p : Option Addr) (len cap : Nat) : Value := .agg #[.int .u8 k, .string s, .int .i64 n, .slice p len cap]

theorem below2 (w : World) (o1 o2 : Obj) : Below w.heap.size w ((w.alloc o1).alloc o2) := ((Below.refl _ _).alloc (Nat.le_refl _) _).alloc (by simp) _

def headAlike (k k' : Int) (s s' : ByteArray) (n n' : Int) : Bool := (k == k') && ((s.toList == s'.toList) && (n == n'))

set_option maxHeartbeats 1000000 in
theorem same_of (kids us : Ts)
    (hall : ∀ (w : World) (p p' : Option Addr) (c c' : Nat), Ts.At w p kids → Ts.At w p' us → Calls Try.prog 59 #[.slice p kids.len c, .slice p' us.len c'] w fun e w' => e = .returned (.bool (alike kids us)) ∧ Below w.heap.size w w')
    (k k' : Int) (s s' : ByteArray) (n n' : Int) (p p' : Option Addr) (c c' : Nat) (w : World) (ha : Ts.At w p kids) (hb : Ts.At w p' us) :
    Calls Try.prog 18 #[.agg #[.int .u8 k, .string s, .int .i64 n, .slice p kids.len c], .agg #[.int .u8 k', .string s', .int .i64 n', .slice p' us.len c']] w fun e w' =>
      e = .returned (.bool (headAlike k k' s s' n n' && alike kids us)) ∧ Below w.heap.size w w' := by
  have HA := Lib.hid hall
  have A1 := Lib.hid ha
  have B1 := Lib.hid hb
  clear hall ha hb
  unfold headAlike
  by_cases h1 : k = k'
  · have e1 : (k == k') = true := by simp [h1]
    rw [e1]
    by_cases h2 : s.toList = s'.toList
    · have e2 : (s.toList == s'.toList) = true := by rw [h2]; simp
      rw [e2]
      by_cases h3 : n = n'
      · have e3 : (n == n') = true := by simp [h3]
        rw [e3]
        clear h1 h2 h3
        go_enter Try.func18, Try.ntmps18
        go_wp2_with fail
        have hB := below2 w (.cells #[.int .u8 k, .string s, .int .i64 n, .slice p kids.len c] 25) (.cells #[.int .u8 k', .string s', .int .i64 n', .slice p' us.len c'] 25)
        refine (HA.out _ p p' c c' (A1.out.below hB) (B1.out.below hB)).mono ?_
        rintro e w' ⟨rfl, hB2⟩
        have hB' := hB.trans (hB2.mono hB.size)
        go_wp2
        go_ret
        exact ⟨rfl, hB'⟩
      · have e3 : (n == n') = false := by simp [h3]
        rw [e3]
        clear h1 h2 h3
        go_enter Try.func18, Try.ntmps18
        go_wp2
        go_ret
        exact ⟨rfl, below2 _ _ _⟩
    · have e2 : (s.toList == s'.toList) = false := by simp [h2]
      rw [e2]
      clear h1 h2
      go_enter Try.func18, Try.ntmps18
      go_wp2
      go_ret
      exact ⟨rfl, below2 _ _ _⟩
  · have e1 : (k == k') = false := by simp [h1]
    rw [e1]
    clear h1
    go_enter Try.func18, Try.ntmps18
    go_wp2
    go_ret
    exact ⟨rfl, below2 _ _ _⟩

set_option maxRecDepth 100000 in
set_option maxHeartbeats 1000000 in
theorem all_any : ∀ (sz : Nat) (ts us : Ts), ts.size < sz → ts.ok → us.ok → ts.len ≤ 9223372036854775807 → us.len ≤ 9223372036854775807 → ∀ (w : World) (p p' : Option Addr) (c c' : Nat), Ts.At w p ts → Ts.At w p' us →
    Calls Try.prog 59 #[.slice p ts.len c, .slice p' us.len c'] w fun e w' => e = .returned (.bool (alike ts us)) ∧ Below w.heap.size w w' := by
  intro sz
  induction sz with
  | zero => intro ts us h; omega
  | succ sz ih =>
    intro ts us hsz hok hok' hlen hlen' w p p' c c' hat hat'
    by_cases hl : ts.len = us.len
    · obtain ⟨b, o, hp, hlies⟩ := hat
      obtain ⟨b', o', hp', hlies'⟩ := hat'
      have HL := Lib.hid hl
      have el : ((ts.len : Int) != (us.len : Int)) = false := by rw [hl]; simp
      clear hl
      go_enter Try.func59, Try.ntmps59
      go_wp2
      go_loopw [5] (fun i wr => ∃ k : Nat, k ≤ ts.len ∧ i = .int .i64 k ∧ alike (ts.drop k) (us.drop k) = alike ts us ∧ Below w.heap.size w wr) (fun i _ => ts.len - (intOf i).toNat)
      case atStart => exact ⟨0, Nat.zero_le _, rfl, rfl, Below.refl _ _⟩
      case round =>
        rename_i wr _
        obtain ⟨k, hk, rfl, hrel, hB⟩ := hrel
        have R := Lib.hid hrel
        have B := Lib.hid hB
        clear hrel
        by_cases hlt : k < ts.len
        · have hlt' : k < us.len := by have := HL.out; omega
          obtain ⟨kk, s, nn, pp, cc, kids, rest, hd⟩ := Ts.drop_cons hlt
          obtain ⟨kk', s', nn', pp', cc', kids', rest', hd'⟩ := Ts.drop_cons hlt'
          have hl := Ts.lies_drop k ts hlies
          have hl' := Ts.lies_drop k us hlies'
          have hl := Ts.lies_stay (stays hB).1 _ hl
          have hl' := Ts.lies_stay (stays hB).1 _ hl'
          have hokd := Ts.ok_drop k ts hok
          have hokd' := Ts.ok_drop k us hok'
          rw [hd] at hl hokd
          rw [hd'] at hl' hokd'
          obtain ⟨l0, l1, l2, l3, ⟨bb, oo, hpp, hlk⟩, _⟩ := hl
          obtain ⟨m0, m1, m2, m3, ⟨bb', oo', hpp', hlk'⟩, _⟩ := hl'
          have hat1 : Ts.At wr pp kids := ⟨bb, oo, hpp, hlk⟩
          have hat2 : Ts.At wr pp' kids' := ⟨bb', oo', hpp', hlk'⟩
          have A1 := Lib.hid hat1
          have A2 := Lib.hid hat2
          have O1 := Lib.hid hokd
          have O2 := Lib.hid hokd'
          have hsz2 := Ts.drop_size k ts
          rw [hd] at hsz2
          simp only [Ts.size] at hsz2
          have hp2 : p = some ⟨b, o, none⟩ := by
            rcases hp with rfl | rfl
            · simp [Ts.len] at hlt
            · rfl
          have hp2' : p' = some ⟨b', o', none⟩ := by
            rcases hp' with rfl | rfl
            · simp [Ts.len] at hlt'
            · rfl
          subst hp2 hp2'
          have D := Lib.hid hd
          have D' := Lib.hid hd'
          rw [Nat.mul_comm 4 k] at l0 l1 l2 l3 m0 m1 m2 m3
          clear hd hd' hB hokd hokd' hlk hlk' hpp hpp' hat1 hat2 hp hp'
          go_wp2
          go_still_tail 8, (by kernel_rfl)
          have hB2 : Below w.heap.size w wr.drew := B.out.drew
          have A1' : Hid (Ts.At wr.drew pp kids) := Lib.hid (A1.out.stay fun _ _ _ => rfl)
          have A2' : Hid (Ts.At wr.drew pp' kids') := Lib.hid (A2.out.stay fun _ _ _ => rfl)
          change wpList _ _ _ _ _ wr.drew
          generalize wr.drew = w2 at hB2 A1' A2' ⊢
          have B2 := Lib.hid hB2
          clear hB2 l0 l1 l2 l3 m0 m1 m2 m3
          go_wp2_with fail
          refine (same_of kids kids' (fun w p p' c c' ha hb => ih kids kids' (by omega) O1.out.2.2.2.2.2.1 O2.out.2.2.2.2.2.1 (by have := O1.out.2.2.2.1; omega) (by have := O2.out.2.2.2.1; omega) w p p' c c' ha hb) kk kk' s s' nn nn' pp pp' cc cc' w2 A1'.out A2'.out).mono ?_
          rintro e w' ⟨rfl, hB3⟩
          have B3 := Lib.hid (B2.out.trans (hB3.mono B2.out.size))
          clear hB3
          by_cases hq : (headAlike kk kk' s s' nn nn' && alike kids kids') = true
          · rw [hq]
            have Q := Lib.hid hq
            clear hq
            go_wp2
            go_roundw
            case rel =>
              refine ⟨k + 1, by omega, by go_num, ?_, B3.out⟩
              rw [Ts.drop_succ k ts D.out, Ts.drop_succ k us D'.out, ← R.out, D.out, D'.out]
              have h := Q.out
              simp only [headAlike, Bool.and_eq_true] at h
              simp only [alike, h.1.1, h.1.2.1, h.1.2.2, h.2, Bool.true_and]
            case measure => simp [intOf]; omega
          · rw [Bool.not_eq_true] at hq
            rw [hq]
            have Q := Lib.hid hq
            clear hq
            go_wp2
            go_ret
            refine ⟨?_, B3.out⟩
            have h := R.out
            rw [D.out, D'.out] at h
            have h2 := Q.out
            rw [← h]
            simp only [headAlike] at h2
            simp only [alike]
            revert h2
            cases (kk == kk') <;> cases (s.toList == s'.toList) <;> cases (nn == nn') <;> cases alike kids kids' <;> simp
        · have hke : k = ts.len := by omega
          have hd : ts.drop k = .nil := Ts.len_zero (by rw [Ts.drop_len]; omega)
          have hd' : us.drop k = .nil := Ts.len_zero (by rw [Ts.drop_len]; have := HL.out; omega)
          have h := R.out
          rw [hd, hd'] at h
          have H := Lib.hid h
          clear h hd hd' hke hB
          go_wp2
          go_ret
          exact ⟨by rw [← H.out]; rfl, B.out⟩
    · have el : ((ts.len : Int) != (us.len : Int)) = true := by simp; omega
      have NE := Lib.hid hl
      clear hl
      go_enter Try.func59, Try.ntmps59
      go_wp2
      go_ret
      refine ⟨?_, Below.refl _ _⟩
      have : alike ts us = false := by
        cases h : alike ts us with
        | false => rfl
        | true => exact absurd (alike_len _ _ h) NE.out
      rw [this]
      rfl

end Go.Proofs.Ytnmhnaanpjlniaa
