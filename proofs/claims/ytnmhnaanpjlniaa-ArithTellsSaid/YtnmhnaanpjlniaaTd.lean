import Derived.Test.YtnmhnaanpjlniaaTb
import Derived.Deep.RegionWith
import Derived.StillTailTactics
import Derived.Lib.SmallJoins
/-
  Whether two lists of terms, or two terms, are alike: the document's own answer.
-/
namespace Go.Proofs.Ytnmhnaanpjlniaa
open Go.RowKit

def alike : Ts → Ts → Bool
  | .nil, .nil => true
  | .cons k s n _ _ kids rest, .cons k' s' n' _ _ kids' rest' => (k == k') && ((s.toList == s'.toList) && ((n == n') && (alike kids kids' && alike rest rest')))
  | _, _ => false

theorem alike_len : ∀ (ts us : Ts), alike ts us = true → ts.len = us.len
  | .nil, .nil, _ => rfl
  | .cons _ _ _ _ _ _ r, .cons _ _ _ _ _ _ r', h => by
    simp only [alike, Bool.and_eq_true] at h
    simp only [Ts.len]
    rw [alike_len r r' h.2.2.2.2]
  | .nil, .cons .., h => by simp [alike] at h
  | .cons .., .nil, h => by simp [alike] at h

theorem stays {W w1 : World} (hb : Below W.heap.size W w1) : (∀ b o, b < W.heap.size → w1.cell? ⟨b, o, none⟩ = W.cell? ⟨b, o, none⟩) ∧ (∀ b o, b < W.heap.size → w1.frozen? ⟨b, o, none⟩ = W.frozen? ⟨b, o, none⟩) :=
  ⟨fun b o h => hb.cell (p := ⟨b, o, none⟩) h, fun b o h => hb.frozen (p := ⟨b, o, none⟩) h⟩

/-- a term's value -/
def tv (k : Int) (s : ByteArray) (n : Int) (p : Option Addr) (len cap : Nat) : Value := .agg #[.int .u8 k, .string s, .int .i64 n, .slice p len cap]

theorem below2 (w : World) (o1 o2 : Obj) : Below w.heap.size w ((w.alloc o1).alloc o2) := ((Below.refl _ _).alloc (Nat.le_refl _) _).alloc (by simp) _

def headAlike (k k' : Int) (s s' : ByteArray) (n n' : Int) : Bool := (k == k') && ((s.toList == s'.toList) && (n == n'))

set_option maxHeartbeats 1000000 in
theorem same_of (kids us : Ts)
    (hall : ∀ (w : World) (p p' : Option Addr) (c c' : Nat), Ts.At w p kids → Ts.At w p' us → Calls Try.prog 59 #[.slice p kids.len c, .slice p' us.len c'] w fun e w' => e = .returned (.bool (alike kids us)) ∧ Below w.heap.size w w')
    (k k' : Int) (s s' : ByteArray) (n n' : Int) (p p' : Option Addr) (c c' : Nat) (w : World) (ha : Ts.At w p kids) (hb : Ts.At w p' us) :
    Calls Try.prog 18 #[.agg #[.int .u8 k, .string s, .int .i64 n, .slice p kids.len c], .agg #[.int .u8 k', .string s', .int .i64 n', .slice p' us.len c']] w fun e w' =>
      e = .returned (.bool (headAlike k k' s s' n n' && alike kids us)) ∧ Below w.heap.size w w' := by
  have HA := Lib.hid hall
  have A1 := Lib.hid ha
  have B1 := Lib.hid hb
  clear hall ha hb
  unfold headAlike
  by_cases h1 : k = k'
  · have e1 : (k == k') = true := by simp [h1]
    rw [e1]
    by_cases h2 : s.toList = s'.toList
    · have e2 : (s.toList == s'.toList) = true := by rw [h2]; simp
      rw [e2]
      by_cases h3 : n = n'
      · have e3 : (n == n') = true := by simp [h3]
        rw [e3]
        clear h1 h2 h3
        go_enter Try.func18, Try.ntmps18
        go_wp2_with fail
        have hB := below2 w (.cells #[.int .u8 k, .string s, .int .i64 n, .slice p kids.len c] 25) (.cells #[.int .u8 k', .string s', .int .i64 n', .slice p' us.len c'] 25)
        refine (HA.out _ p p' c c' (A1.out.below hB) (B1.out.below hB)).mono ?_
        rintro e w' ⟨rfl, hB2⟩
        have hB' := hB.trans (hB2.mono hB.size)
        go_wp2
        go_ret
        exact ⟨rfl, hB'⟩
      · have e3 : (n == n') = false := by simp [h3]
        rw [e3]
        clear h1 h2 h3
        go_enter Try.func18, Try.ntmps18
        go_wp2
        go_ret
        exact ⟨rfl, below2 _ _ _⟩
    · have e2 : (s.toList == s'.toList) = false := by simp [h2]
      rw [e2]
      clear h1 h2
      go_enter Try.func18, Try.ntmps18
      go_wp2
      go_ret
      exact ⟨rfl, below2 _ _ _⟩
  · have e1 : (k == k') = false := by simp [h1]
    rw [e1]
    clear h1
    go_enter Try.func18, Try.ntmps18
    go_wp2
    go_ret
    exact ⟨rfl, below2 _ _ _⟩

set_option maxRecDepth 100000 in
set_option maxHeartbeats 1000000 in
theorem all_any : ∀ (sz : Nat) (ts us : Ts), ts.size < sz → ts.ok → us.ok → ts.len ≤ 9223372036854775807 → us.len ≤ 9223372036854775807 → ∀ (w : World) (p p' : Option Addr) (c c' : Nat), Ts.At w p ts → Ts.At w p' us →
    Calls Try.prog 59 #[.slice p ts.len c, .slice p' us.len c'] w fun e w' => e = .returned (.bool (alike ts us)) ∧ Below w.heap.size w w' := by
  intro sz
  induction sz with
  | zero => intro ts us h; omega
  | succ sz ih =>
    intro ts us hsz hok hok' hlen hlen' w p p' c c' hat hat'
    by_cases hl : ts.len = us.len
    · obtain ⟨b, o, hp, hlies⟩ := hat
      obtain ⟨b', o', hp', hlies'⟩ := hat'
      have HL := Lib.hid hl
      have el : ((ts.len : Int) != (us.len : Int)) = false := by rw [hl]; simp
      clear hl
      go_enter Try.func59, Try.ntmps59
      go_wp2
      go_loopw [5] (fun i wr => ∃ k : Nat, k ≤ ts.len ∧ i = .int .i64 k ∧ alike (ts.drop k) (us.drop k) = alike ts us ∧ Below w.heap.size w wr) (fun i _ => ts.len - (intOf i).toNat)
      case atStart => exact ⟨0, Nat.zero_le _, rfl, rfl, Below.refl _ _⟩
      case round =>
        rename_i wr _
        obtain ⟨k, hk, rfl, hrel, hB⟩ := hrel
        have R := Lib.hid hrel
        have B := Lib.hid hB
        clear hrel
        by_cases hlt : k < ts.len
        · have hlt' : k < us.len := by have := HL.out; omega
          obtain ⟨kk, s, nn, pp, cc, kids, rest, hd⟩ := Ts.drop_cons hlt
          obtain ⟨kk', s', nn', pp', cc', kids', rest', hd'⟩ := Ts.drop_cons hlt'
          have hl := Ts.lies_drop k ts hlies
          have hl' := Ts.lies_drop k us hlies'
          have hl := Ts.lies_stay (stays hB).1 _ hl
          have hl' := Ts.lies_stay (stays hB).1 _ hl'
          have hokd := Ts.ok_drop k ts hok
          have hokd' := Ts.ok_drop k us hok'
          rw [hd] at hl hokd
          rw [hd'] at hl' hokd'
          obtain ⟨l0, l1, l2, l3, ⟨bb, oo, hpp, hlk⟩, _⟩ := hl
          obtain ⟨m0, m1, m2, m3, ⟨bb', oo', hpp', hlk'⟩, _⟩ := hl'
          have hat1 : Ts.At wr pp kids := ⟨bb, oo, hpp, hlk⟩
          have hat2 : Ts.At wr pp' kids' := ⟨bb', oo', hpp', hlk'⟩
          have A1 := Lib.hid hat1
          have A2 := Lib.hid hat2
          have O1 := Lib.hid hokd
          have O2 := Lib.hid hokd'
          have hsz2 := Ts.drop_size k ts
          rw [hd] at hsz2
          simp only [Ts.size] at hsz2
          have hp2 : p = some ⟨b, o, none⟩ := by
            rcases hp with rfl | rfl
            · simp [Ts.len] at hlt
            · rfl
          have hp2' : p' = some ⟨b', o', none⟩ := by
            rcases hp' with rfl | rfl
            · simp [Ts.len] at hlt'
            · rfl
          subst hp2 hp2'
          have D := Lib.hid hd
          have D' := Lib.hid hd'
          rw [Nat.mul_comm 4 k] at l0 l1 l2 l3 m0 m1 m2 m3
          clear hd hd' hB hokd hokd' hlk hlk' hpp hpp' hat1 hat2 hp hp'
          go_wp2
          go_still_tail 8, (by kernel_rfl)
          have hB2 : Below w.heap.size w wr.drew := B.out.drew
          have A1' : Hid (Ts.At wr.drew pp kids) := Lib.hid (A1.out.stay fun _ _ _ => rfl)
          have A2' : Hid (Ts.At wr.drew pp' kids') := Lib.hid (A2.out.stay fun _ _ _ => rfl)
          change wpList _ _ _ _ _ wr.drew
          generalize wr.drew = w2 at hB2 A1' A2' ⊢
          have B2 := Lib.hid hB2
          clear hB2 l0 l1 l2 l3 m0 m1 m2 m3
          go_wp2_with fail
          refine (same_of kids kids' (fun w p p' c c' ha hb => ih kids kids' (by omega) O1.out.2.2.2.2.2.1 O2.out.2.2.2.2.2.1 (by have := O1.out.2.2.2.1; omega) (by have := O2.out.2.2.2.1; omega) w p p' c c' ha hb) kk kk' s s' nn nn' pp pp' cc cc' w2 A1'.out A2'.out).mono ?_
          rintro e w' ⟨rfl, hB3⟩
          have B3 := Lib.hid (B2.out.trans (hB3.mono B2.out.size))
          clear hB3
          by_cases hq : (headAlike kk kk' s s' nn nn' && alike kids kids') = true
          · rw [hq]
            have Q := Lib.hid hq
            clear hq
            go_wp2
            go_roundw
            case rel =>
              refine ⟨k + 1, by omega, by go_num, ?_, B3.out⟩
              rw [Ts.drop_succ k ts D.out, Ts.drop_succ k us D'.out, ← R.out, D.out, D'.out]
              have h := Q.out
              simp only [headAlike, Bool.and_eq_true] at h
              simp only [alike, h.1.1, h.1.2.1, h.1.2.2, h.2, Bool.true_and]
            case measure => simp [intOf]; omega
          · rw [Bool.not_eq_true] at hq
            rw [hq]
            have Q := Lib.hid hq
            clear hq
            go_wp2
            go_ret
            refine ⟨?_, B3.out⟩
            have h := R.out
            rw [D.out, D'.out] at h
            have h2 := Q.out
            rw [← h]
            simp only [headAlike] at h2
            simp only [alike]
            revert h2
            cases (kk == kk') <;> cases (s.toList == s'.toList) <;> cases (nn == nn') <;> cases alike kids kids' <;> simp
        · have hke : k = ts.len := by omega
          have hd : ts.drop k = .nil := Ts.len_zero (by rw [Ts.drop_len]; omega)
          have hd' : us.drop k = .nil := Ts.len_zero (by rw [Ts.drop_len]; have := HL.out; omega)
          have h := R.out
          rw [hd, hd'] at h
          have H := Lib.hid h
          clear h hd hd' hke hB
          go_wp2
          go_ret
          exact ⟨by rw [← H.out]; rfl, B.out⟩
    · have el : ((ts.len : Int) != (us.len : Int)) = true := by simp; omega
      have NE := Lib.hid hl
      clear hl
      go_enter Try.func59, Try.ntmps59
      go_wp2
      go_ret
      refine ⟨?_, Below.refl _ _⟩
      have : alike ts us = false := by
        cases h : alike ts us with
        | false => rfl
        | true => exact absurd (alike_len _ _ h) NE.out
      rw [this]
      rfl

end Go.Proofs.Ytnmhnaanpjlniaa
/-
  Whether two terms are alike, by the code under proof.
-/
namespace Go.Proofs.Ytnmhnaanpjlniaa
open Go.RowKit

theorem cell_alloc_old {w : World} {a : Addr} {v : Value} (o : Obj) (h : w.cell? a = some v) : (w.alloc o).cell? a = some v := by
  have hlt : a.block < w.heap.size := World.block_lt_of_cell? _ _ h
  rw [← h]
  exact World.cell?_of_block (Below.heap_alloc w o a.block hlt)

theorem box2 (w : World) (A B : Array Value) (t u : TypeId) : ∃ W, W = (w.alloc (.cells A t)).alloc (.cells B u) ∧ W.heap.size = w.heap.size + 2 ∧ Below w.heap.size w W ∧ (∀ i v, A[i]? = some v → W.cell? ⟨w.heap.size, i, none⟩ = some v) ∧ (∀ i v, B[i]? = some v → W.cell? ⟨w.heap.size + 1, i, none⟩ = some v) := by
  refine ⟨_, rfl, by simp, below2 _ _ _, fun i v h => cell_alloc_old _ ?_, fun i v h => ?_⟩
  · rw [_root_.Go.Joins.cell_alloc_mark_at w A t _ _ i rfl]; exact h
  · rw [_root_.Go.Joins.cell_alloc_mark_at _ B u _ _ i (by simp)]; exact h

set_option maxRecDepth 100000 in
set_option maxHeartbeats 1000000 in
theorem tsame_any : ∀ (sz : Nat) (ts us : Ts), ts.size < sz → ts.ok → us.ok → ts.len ≤ 9223372036854775807 → us.len ≤ 9223372036854775807 → ∀ (k k' : Int) (s s' : ByteArray) (n n' : Int) (w : World) (p p' : Option Addr) (c c' : Nat), Ts.At w p ts → Ts.At w p' us →
    Calls Try.prog 43 #[.agg #[.int .u8 k, .string s, .int .i64 n, .slice p ts.len c], .agg #[.int .u8 k', .string s', .int .i64 n', .slice p' us.len c']] w fun e w' =>
      e = .returned (.bool (headAlike k k' s s' n n' && alike ts us)) ∧ Below w.heap.size w w' := by
  intro sz
  induction sz with
  | zero => intro ts us h; omega
  | succ sz ih =>
    intro ts us hsz hok hok' hlen hlen' k k' s s' n n' w p p' c c' hat hat'
    by_cases h1 : (k != k') = false
    · by_cases h2 : (s.toList == s'.toList) = true
      · by_cases h3 : (n != n') = false
        · by_cases h4 : ((ts.len : Int) != (us.len : Int)) = false
          · have HA : headAlike k k' s s' n n' = true := by
              simp only [headAlike, h2, Bool.true_and]
              rw [bne_eq_false_iff_eq] at h1 h3
              rw [h1, h3]; simp
            rw [HA, Bool.true_and]
            have HL : Hid (ts.len = us.len) := Lib.hid (by rw [bne_eq_false_iff_eq] at h4; omega)
            obtain ⟨W2, hW2, hsz2, hB2, hc1, hc2⟩ := box2 w #[.int .u8 k, .string s, .int .i64 n, .slice p ts.len c] #[.int .u8 k', .string s', .int .i64 n', .slice p' us.len c'] 25 25
            have a3 : W2.cell? ⟨w.heap.size, 3, none⟩ = some (.slice p ts.len c) := hc1 3 _ rfl
            have b3 : W2.cell? ⟨w.heap.size + 1, 3, none⟩ = some (.slice p' us.len c') := hc2 3 _ rfl
            obtain ⟨b, o, hp, hlies⟩ := hat.below hB2
            obtain ⟨b', o', hp', hlies'⟩ := hat'.below hB2
            go_enter Try.func43, Try.ntmps43
            go_wp2
            rw [← hW2]
            have Z := Lib.hid hW2
            have BW := Lib.hid hB2
            clear hB2 hc1 hc2 hW2 h1 h2 h3 h4 HA
            go_loopw [37] (fun i wr => ∃ k : Nat, k ≤ ts.len ∧ i = .int .i64 k ∧ alike (ts.drop k) (us.drop k) = alike ts us ∧ Below W2.heap.size W2 wr) (fun i _ => ts.len - (intOf i).toNat)
            case atStart => exact ⟨0, Nat.zero_le _, rfl, rfl, Below.refl _ _⟩
            case round =>
              rename_i wr _
              obtain ⟨j, hk, rfl, hrel, hB⟩ := hrel
              have R := Lib.hid hrel
              have B := Lib.hid hB
              clear hrel
              have a3' := (hB.cell (p := ⟨w.heap.size, 3, none⟩) (by rw [hsz2]; simp)).trans a3
              have b3' := (hB.cell (p := ⟨w.heap.size + 1, 3, none⟩) (by rw [hsz2]; simp)).trans b3
              by_cases hlt : j < ts.len
              · have hlt' : j < us.len := by have := HL.out; omega
                obtain ⟨kk, s1, nn, pp, cc, kids, rest, hd⟩ := Ts.drop_cons hlt
                obtain ⟨kk', s1', nn', pp', cc', kids', rest', hd'⟩ := Ts.drop_cons hlt'
                have hl := Ts.lies_stay (stays hB).1 _ (Ts.lies_drop j ts hlies)
                have hl' := Ts.lies_stay (stays hB).1 _ (Ts.lies_drop j us hlies')
                have hokd := Ts.ok_drop j ts hok
                have hokd' := Ts.ok_drop j us hok'
                rw [hd] at hl hokd
                rw [hd'] at hl' hokd'
                obtain ⟨l0, l1, l2, l3, ⟨bb, oo, hpp, hlk⟩, _⟩ := hl
                obtain ⟨m0, m1, m2, m3, ⟨bb', oo', hpp', hlk'⟩, _⟩ := hl'
                have hat1 : Ts.At wr pp kids := ⟨bb, oo, hpp, hlk⟩
                have hat2 : Ts.At wr pp' kids' := ⟨bb', oo', hpp', hlk'⟩
                have A1 := Lib.hid hat1
                have A2 := Lib.hid hat2
                have O1 := Lib.hid hokd
                have O2 := Lib.hid hokd'
                have hsz3 := Ts.drop_size j ts
                rw [hd] at hsz3
                simp only [Ts.size] at hsz3
                have hp2 : p = some ⟨b, o, none⟩ := by
                  rcases hp with rfl | rfl
                  · simp [Ts.len] at hlt
                  · rfl
                have hp2' : p' = some ⟨b', o', none⟩ := by
                  rcases hp' with rfl | rfl
                  · simp [Ts.len] at hlt'
                  · rfl
                subst hp2 hp2'
                have D := Lib.hid hd
                have D' := Lib.hid hd'
                rw [Nat.mul_comm 4 j] at l0 l1 l2 l3 m0 m1 m2 m3
                clear hd hd' hB hokd hokd' hlk hlk' hpp hpp' hat1 hat2 hp hp' a3 b3
                go_wp2
                go_still_tail 10, (by kernel_rfl)
                have hB2 : Below W2.heap.size W2 wr.drew := B.out.drew
                have A1' : Hid (Ts.At wr.drew pp kids) := Lib.hid (A1.out.stay fun _ _ _ => rfl)
                have A2' : Hid (Ts.At wr.drew pp' kids') := Lib.hid (A2.out.stay fun _ _ _ => rfl)
                change wpList _ _ _ _ _ wr.drew
                generalize wr.drew = w2 at hB2 A1' A2' ⊢
                have B2 := Lib.hid hB2
                clear hB2 l0 l1 l2 l3 m0 m1 m2 m3 a3' b3'
                go_wp2_with fail
                refine (ih kids kids' (by omega) O1.out.2.2.2.2.2.1 O2.out.2.2.2.2.2.1 (by have := O1.out.2.2.2.1; omega) (by have := O2.out.2.2.2.1; omega) kk kk' s1 s1' nn nn' w2 pp pp' cc cc' A1'.out A2'.out).mono ?_
                rintro e w' ⟨rfl, hB3⟩
                have B3 := Lib.hid (B2.out.trans (hB3.mono B2.out.size))
                clear hB3
                by_cases hq : (headAlike kk kk' s1 s1' nn nn' && alike kids kids') = true
                · rw [hq]
                  have Q := Lib.hid hq
                  clear hq
                  go_wp2
                  go_roundw
                  case rel =>
                    refine ⟨j + 1, by omega, by go_num, ?_, B3.out⟩
                    rw [Ts.drop_succ j ts D.out, Ts.drop_succ j us D'.out, ← R.out, D.out, D'.out]
                    have h := Q.out
                    simp only [headAlike, Bool.and_eq_true] at h
                    simp only [alike, h.1.1, h.1.2.1, h.1.2.2, h.2, Bool.true_and]
                  case measure => simp [intOf]; omega
                · rw [Bool.not_eq_true] at hq
                  rw [hq]
                  have Q := Lib.hid hq
                  clear hq
                  go_wp2
                  go_ret
                  refine ⟨?_, BW.out.trans (B3.out.mono BW.out.size)⟩
                  have h := R.out
                  rw [D.out, D'.out] at h
                  have h2 := Q.out
                  rw [← h]
                  simp only [headAlike] at h2
                  simp only [alike]
                  revert h2
                  cases (kk == kk') <;> cases (s1.toList == s1'.toList) <;> cases (nn == nn') <;> cases alike kids kids' <;> simp
              · have hke : j = ts.len := by omega
                have hd : ts.drop j = .nil := Ts.len_zero (by rw [Ts.drop_len]; omega)
                have hd' : us.drop j = .nil := Ts.len_zero (by rw [Ts.drop_len]; have := HL.out; omega)
                have h := R.out
                rw [hd, hd'] at h
                have H := Lib.hid h
                clear h hd hd' hke hB
                go_wp2
                go_ret
                exact ⟨by rw [← H.out]; rfl, BW.out.trans (B.out.mono BW.out.size)⟩
          · rw [Bool.not_eq_false] at h4
            have HA : Hid ((headAlike k k' s s' n n' && alike ts us) = false) := Lib.hid (by
              cases h : alike ts us with
              | false => simp
              | true => have := alike_len _ _ h; rw [this] at h4; simp at h4)
            rw [HA.out]
            go_enter Try.func43, Try.ntmps43
            go_wp2
            go_ret
            exact ⟨rfl, below2 _ _ _⟩
        · rw [Bool.not_eq_false] at h3
          have HA : Hid ((headAlike k k' s s' n n' && alike ts us) = false) := Lib.hid (by
            have : (n == n') = false := by rw [bne_iff_ne] at h3; simp [h3]
            simp [headAlike, this])
          rw [HA.out]
          go_enter Try.func43, Try.ntmps43
          go_wp2
          go_ret
          exact ⟨rfl, below2 _ _ _⟩
      · rw [Bool.not_eq_true] at h2
        have HA : Hid ((headAlike k k' s s' n n' && alike ts us) = false) := Lib.hid (by
          simp [headAlike, h2])
        rw [HA.out]
        go_enter Try.func43, Try.ntmps43
        go_wp2
        go_ret
        exact ⟨rfl, below2 _ _ _⟩
    · rw [Bool.not_eq_false] at h1
      have HA : Hid ((headAlike k k' s s' n n' && alike ts us) = false) := Lib.hid (by
        have : (k == k') = false := by rw [bne_iff_ne] at h1; simp [h1]
        simp [headAlike, this])
      rw [HA.out]
      go_enter Try.func43, Try.ntmps43
      go_wp2
      go_ret
      exact ⟨rfl, below2 _ _ _⟩

end Go.Proofs.Ytnmhnaanpjlniaa
