import Derived.Test.YtflomdnjabgnaaaTc
import Derived.Lib.SmallJoins
/-
  Whether two terms are alike, by the code under proof.
-/
namespace Go.Proofs.Ytflomdnjabgnaaa
open Go.RowKit

theorem cell_alloc_old {w : World} {a : Addr} {v : Value} (o : Obj) (h : w.cell? a = some v) : (w.alloc o).cell? a = some v := by
  have hlt : a.block < w.heap.size := World.block_lt_of_cell? _ _ h
  rw [← h]
  exact World.cell?_of_block (Below.heap_alloc w o a.block hlt)

theorem box2 (w : World) (A B : Array Value) (t u : TypeId) : ∃ W, W = (w.alloc (.cells A t)).alloc (.cells B u) ∧ W.heap.size = w.heap.size + 2 ∧ Below w.heap.size w W ∧ (∀ i v, A[i]? = some v → W.cell? ⟨w.heap.size, i, none⟩ = some v) ∧ (∀ i v, B[i]? = some v → W.cell? ⟨w.heap.size + 1, i, none⟩ = some v) := by
  refine ⟨_, rfl, by simp, below2 _ _ _, fun i v h => cell_alloc_old _ ?_, fun i v h => ?_⟩
  · rw [_root_.Go.Joins.cell_alloc_mark_at w A t _ _ i rfl]; exact h
  · rw [_root_.Go.Joins.cell_alloc_mark_at _ B u _ _ i (by simp)]; exact h

set_option maxRecDepth 100000 in
set_option maxHeartbeats 1000000 in
theorem tsame_any : ∀ (sz : Nat) (ts us : Ts), ts.size < sz → ts.ok → us.ok → ts.len ≤ 9223372036854775807 → us.len ≤ 9223372036854775807 → ∀ (k k' : Int) (s s' : ByteArray) (n n' : Int) (w : World) (p p' : Option Addr) (c c' : Nat), Ts.At w p ts → Ts.At w p' us →
    Calls Try.prog 53 #[.agg #[.int .u8 k, .string s, .int .i64 n, .slice p ts.len c], .agg #[.int .u8 k', .string s', .int .i64 n', .slice p' us.len c']] w fun e w' =>
      e = .returned (.bool (headAlike k k' s s' n n' && alike ts us)) ∧ Below w.heap.size w w' := by
  intro sz
  induction sz with
  | zero => intro ts us h; omega
  | succ sz ih =>
    intro ts us hsz hok hok' hlen hlen' k k' s s' n n' w p p' c c' hat hat'
    by_cases h1 : (k != k') = false
    · by_cases h2 : (s.toList == s'.toList) = true
      · by_cases h3 : (n != n') = false
        · by_cases h4 : ((ts.len : Int) != (us.len : Int)) = false
          · have HA : headAlike k k' s s' n n' = true := by
              simp only [headAlike, h2, Bool.true_and]
              rw [bne_eq_false_iff_eq] at h1 h3
              rw [h1, h3]; simp
            rw [HA, Bool.true_and]
            have HL : Hid (ts.len = us.len) := Lib.hid (by rw [bne_eq_false_iff_eq] at h4; omega)
            obtain ⟨W2, hW2, hsz2, hB2, hc1, hc2⟩ := box2 w #[.int .u8 k, .string s, .int .i64 n, .slice p ts.len c] #[.int .u8 k', .string s', .int .i64 n', .slice p' us.len c'] 24 24
            have a3 : W2.cell? ⟨w.heap.size, 3, none⟩ = some (.slice p ts.len c) := hc1 3 _ rfl
            have b3 : W2.cell? ⟨w.heap.size + 1, 3, none⟩ = some (.slice p' us.len c') := hc2 3 _ rfl
            obtain ⟨b, o, hp, hlies⟩ := hat.below hB2
            obtain ⟨b', o', hp', hlies'⟩ := hat'.below hB2
            go_enter Try.func53, Try.ntmps53
            go_wp2
            rw [← hW2]
            have Z := Lib.hid hW2
            have BW := Lib.hid hB2
            clear hB2 hc1 hc2 hW2 h1 h2 h3 h4 HA
            go_loopw [37] (fun i wr => ∃ k : Nat, k ≤ ts.len ∧ i = .int .i64 k ∧ alike (ts.drop k) (us.drop k) = alike ts us ∧ Below W2.heap.size W2 wr) (fun i _ => ts.len - (intOf i).toNat)
            case atStart => exact ⟨0, Nat.zero_le _, rfl, rfl, Below.refl _ _⟩
            case round =>
              rename_i wr _
              obtain ⟨j, hk, rfl, hrel, hB⟩ := hrel
              have R := Lib.hid hrel
              have B := Lib.hid hB
              clear hrel
              have a3' := (hB.cell (p := ⟨w.heap.size, 3, none⟩) (by rw [hsz2]; simp)).trans a3
              have b3' := (hB.cell (p := ⟨w.heap.size + 1, 3, none⟩) (by rw [hsz2]; simp)).trans b3
              by_cases hlt : j < ts.len
              · have hlt' : j < us.len := by have := HL.out; omega
                obtain ⟨kk, s1, nn, pp, cc, kids, rest, hd⟩ := Ts.drop_cons hlt
                obtain ⟨kk', s1', nn', pp', cc', kids', rest', hd'⟩ := Ts.drop_cons hlt'
                have hl := Ts.lies_stay (stays hB).1 _ (Ts.lies_drop j ts hlies)
                have hl' := Ts.lies_stay (stays hB).1 _ (Ts.lies_drop j us hlies')
                have hokd := Ts.ok_drop j ts hok
                have hokd' := Ts.ok_drop j us hok'
                rw [hd] at hl hokd
                rw [hd'] at hl' hokd'
                obtain ⟨l0, l1, l2, l3, ⟨bb, oo, hpp, hlk⟩, _⟩ := hl
                obtain ⟨m0, m1, m2, m3, ⟨bb', oo', hpp', hlk'⟩, _⟩ := hl'
                have hat1 : Ts.At wr pp kids := ⟨bb, oo, hpp, hlk⟩
                have hat2 : Ts.At wr pp' kids' := ⟨bb', oo', hpp', hlk'⟩
                have A1 := Lib.hid hat1
                have A2 := Lib.hid hat2
                have O1 := Lib.hid hokd
                have O2 := Lib.hid hokd'
                have hsz3 := Ts.drop_size j ts
                rw [hd] at hsz3
                simp only [Ts.size] at hsz3
                have hp2 : p = some ⟨b, o, none⟩ := by
                  rcases hp with rfl | rfl
                  · simp [Ts.len] at hlt
                  · rfl
                have hp2' : p' = some ⟨b', o', none⟩ := by
                  rcases hp' with rfl | rfl
                  · simp [Ts.len] at hlt'
                  · rfl
                subst hp2 hp2'
                have D := Lib.hid hd
                have D' := Lib.hid hd'
                rw [Nat.mul_comm 4 j] at l0 l1 l2 l3 m0 m1 m2 m3
                clear hd hd' hB hokd hokd' hlk hlk' hpp hpp' hat1 hat2 hp hp' a3 b3
                go_wp2
                go_still_tail 10, (by kernel_rfl)
                have hB2 : Below W2.heap.size W2 wr.drew := B.out.drew
                have A1' : Hid (Ts.At wr.drew pp kids) := Lib.hid (A1.out.stay fun _ _ _ => rfl)
                have A2' : Hid (Ts.At wr.drew pp' kids') := Lib.hid (A2.out.stay fun _ _ _ => rfl)
                change wpList _ _ _ _ _ wr.drew
                generalize wr.drew = w2 at hB2 A1' A2' ⊢
                have B2 := Lib.hid hB2
                clear hB2 l0 l1 l2 l3 m0 m1 m2 m3 a3' b3'
                go_wp2_with fail
                refine (ih kids kids' (by omega) O1.out.2.2.2.2.2.1 O2.out.2.2.2.2.2.1 (by have := O1.out.2.2.2.1; omega) (by have := O2.out.2.2.2.1; omega) kk kk' s1 s1' nn nn' w2 pp pp' cc cc' A1'.out A2'.out).mono ?_
                rintro e w' ⟨rfl, hB3⟩
                have B3 := Lib.hid (B2.out.trans (hB3.mono B2.out.size))
                clear hB3
                by_cases hq : (headAlike kk kk' s1 s1' nn nn' && alike kids kids') = true
                · rw [hq]
                  have Q := Lib.hid hq
                  clear hq
                  go_wp2
                  go_roundw
                  case rel =>
                    refine ⟨j + 1, by omega, by go_num, ?_, B3.out⟩
                    rw [Ts.drop_succ j ts D.out, Ts.drop_succ j us D'.out, ← R.out, D.out, D'.out]
                    have h := Q.out
                    simp only [headAlike, Bool.and_eq_true] at h
                    simp only [alike, h.1.1, h.1.2.1, h.1.2.2, h.2, Bool.true_and]
                  case measure => simp [intOf]; omega
                · rw [Bool.not_eq_true] at hq
                  rw [hq]
                  have Q := Lib.hid hq
                  clear hq
                  go_wp2
                  go_ret
                  refine ⟨?_, BW.out.trans (B3.out.mono BW.out.size)⟩
                  have h := R.out
                  rw [D.out, D'.out] at h
                  have h2 := Q.out
                  rw [← h]
                  simp only [headAlike] at h2
                  simp only [alike]
                  revert h2
                  cases (kk == kk') <;> cases (s1.toList == s1'.toList) <;> cases (nn == nn') <;> cases alike kids kids' <;> simp
              · have hke : j = ts.len := by omega
                have hd : ts.drop j = .nil := Ts.len_zero (by rw [Ts.drop_len]; omega)
                have hd' : us.drop j = .nil := Ts.len_zero (by rw [Ts.drop_len]; have := HL.out; omega)
                have h := R.out
                rw [hd, hd'] at h
                have H := Lib.hid h
                clear h hd hd' hke hB
                go_wp2
                go_ret
                exact ⟨by rw [← H.out]; rfl, BW.out.trans (B.out.mono BW.out.size)⟩
          · rw [Bool.not_eq_false] at h4
            have HA : Hid ((headAlike k k' s s' n n' && alike ts us) = false) := Lib.hid (by
              cases h : alike ts us with
              | false => simp
              | true => have := alike_len _ _ h; rw [this] at h4; simp at h4)
            rw [HA.out]
            go_enter Try.func53, Try.ntmps53
            go_wp2
            go_ret
            exact ⟨rfl, below2 _ _ _⟩
        · rw [Bool.not_eq_false] at h3
          have HA : Hid ((headAlike k k' s s' n n' && alike ts us) = false) := Lib.hid (by
            have : (n == n') = false := by rw [bne_iff_ne] at h3; simp [h3]
            simp [headAlike, this])
          rw [HA.out]
          go_enter Try.func53, Try.ntmps53
          go_wp2
          go_ret
          exact ⟨rfl, below2 _ _ _⟩
      · rw [Bool.not_eq_true] at h2
        have HA : Hid ((headAlike k k' s s' n n' && alike ts us) = false) := Lib.hid (by
          simp [headAlike, h2])
        rw [HA.out]
        go_enter Try.func53, Try.ntmps53
        go_wp2
        go_ret
        exact ⟨rfl, below2 _ _ _⟩
    · rw [Bool.not_eq_false] at h1
      have HA : Hid ((headAlike k k' s s' n n' && alike ts us) = false) := Lib.hid (by
        have : (k == k') = false := by rw [bne_iff_ne] at h1; simp [h1]
        simp [headAlike, this])
      rw [HA.out]
      go_enter Try.func53, Try.ntmps53
      go_wp2
      go_ret
      exact ⟨rfl, below2 _ _ _⟩

end Go.Proofs.Ytflomdnjabgnaaa
/-
  How deep, how many nodes.
-/
namespace Go.Proofs.Ytflomdnjabgnaaa
open Go.RowKit

def depthL : Ts → Nat
  | .nil => 0
  | .cons _ _ _ _ _ kids rest => max (depthL kids + 1) (depthL rest)

theorem depthL_size : ∀ ts : Ts, depthL ts ≤ ts.size
  | .nil => Nat.le_refl _
  | .cons _ _ _ _ _ kids rest => by
    have h1 := depthL_size kids
    have h2 := depthL_size rest
    simp only [depthL, Ts.size]; omega

theorem Ts.len_size : ∀ ts : Ts, ts.len ≤ ts.size
  | .nil => Nat.le_refl _
  | .cons _ _ _ _ _ _ r => by have := Ts.len_size r; simp only [Ts.len, Ts.size]; omega

theorem box1 (w : World) (A : Array Value) (t : TypeId) : ∃ W, W = w.alloc (.cells A t) ∧ W.heap.size = w.heap.size + 1 ∧ Below w.heap.size w W ∧ (∀ i v, A[i]? = some v → W.cell? ⟨w.heap.size, i, none⟩ = some v) := by
  refine ⟨_, rfl, by simp, (Below.refl _ _).alloc (Nat.le_refl _) _, fun i v h => ?_⟩
  rw [_root_.Go.Joins.cell_alloc_mark_at w A t _ _ i rfl]; exact h

/-- an element of a list, in a later world -/
theorem Ts.open_at {W wr : World} {ts : Ts} {b o j : Nat} (hl : ts.lies W b o) (hB : Below W.heap.size W wr) (hok : ts.ok) (h : j < ts.len) :
    ∃ (k : Int) (s : ByteArray) (n : Int) (p : Option Addr) (c : Nat) (kids rest : Ts), Hid (ts.drop j = .cons k s n p c kids rest) ∧
      wr.cell? ⟨b, o + j * 4, none⟩ = some (.int .u8 k) ∧ wr.cell? ⟨b, o + j * 4 + 1, none⟩ = some (.string s) ∧ wr.cell? ⟨b, o + j * 4 + 2, none⟩ = some (.int .i64 n) ∧ wr.cell? ⟨b, o + j * 4 + 3, none⟩ = some (.slice p kids.len c) ∧
      Hid (Ts.At wr p kids) ∧ Hid kids.ok ∧ (kids.len ≤ c ∧ c ≤ 9223372036854775807) ∧ kids.size + rest.size + 1 ≤ ts.size ∧ (0 ≤ k ∧ k ≤ 255) ∧ s.size ≤ 140737488351232 ∧ (-9223372036854775808 ≤ n ∧ n ≤ 9223372036854775807) := by
  obtain ⟨k, s, n, p, c, kids, rest, hd⟩ := Ts.drop_cons h
  have hl2 := Ts.lies_stay (stays hB).1 _ (Ts.lies_drop j ts hl)
  have hokd := Ts.ok_drop j ts hok
  have hsz := Ts.drop_size j ts
  rw [hd] at hl2 hokd hsz
  simp only [Ts.size] at hsz
  obtain ⟨l0, l1, l2, l3, ⟨bb, oo, hpp, hlk⟩, _⟩ := hl2
  rw [Nat.mul_comm 4 j] at l0 l1 l2 l3
  exact ⟨k, s, n, p, c, kids, rest, Lib.hid hd, l0, l1, l2, l3, Lib.hid ⟨bb, oo, hpp, hlk⟩, Lib.hid hokd.2.2.2.2.2.1, hokd.2.2.2.1, hsz, hokd.1, hokd.2.1, hokd.2.2.1⟩

/-- where a list that has elements lies -/
theorem Ts.some_of {ts : Ts} {p : Option Addr} {b o j : Nat} (h : ts = .nil ∨ p = some ⟨b, o, none⟩) (hj : j < ts.len) : p = some ⟨b, o, none⟩ := by
  rcases h with rfl | h
  · simp [Ts.len] at hj
  · exact h

theorem Ts.drop_end {ts : Ts} {j : Nat} (h : ¬ j < ts.len) : ts.drop j = .nil := Ts.len_zero (by rw [Ts.drop_len]; omega)

set_option maxRecDepth 100000 in
set_option maxHeartbeats 1000000 in
theorem rdepth_any : ∀ (sz : Nat) (ts : Ts), ts.size < sz → ts.size ≤ 1000000 → ts.ok → ∀ (k : Int) (s : ByteArray) (n : Int) (w : World) (p : Option Addr) (c : Nat), Ts.At w p ts →
    Calls Try.prog 50 #[.agg #[.int .u8 k, .string s, .int .i64 n, .slice p ts.len c]] w fun e w' =>
      e = .returned (.int .i64 ((depthL ts + 1 : Nat) : Int)) ∧ Below w.heap.size w w' := by
  intro sz
  induction sz with
  | zero => intro ts h; omega
  | succ sz ih =>
    intro ts hsz hbig hok k s n w p c hat
    have hds := depthL_size ts
    have hls := Ts.len_size ts
    obtain ⟨W2, hW2, hsz2, hB2, hc1⟩ := box1 w #[.int .u8 k, .string s, .int .i64 n, .slice p ts.len c] 24
    have a3 : W2.cell? ⟨w.heap.size, 3, none⟩ = some (.slice p ts.len c) := hc1 3 _ rfl
    obtain ⟨b, o, hp, hlies⟩ := hat.below hB2
    go_enter Try.func50, Try.ntmps50
    go_wp2
    rw [← hW2]
    have Z := Lib.hid hW2
    have BW := Lib.hid hB2
    clear hB2 hc1 hW2
    go_loopw [3, 4] (fun m i wr => ∃ (j m' : Nat), j ≤ ts.len ∧ i = .int .i64 j ∧ m = .int .i64 m' ∧ m' ≤ depthL ts ∧ max m' (depthL (ts.drop j)) = depthL ts ∧ Below W2.heap.size W2 wr) (fun _ i _ => ts.len - (intOf i).toNat)
    case atStart => exact ⟨0, 0, Nat.zero_le _, rfl, rfl, Nat.zero_le _, by simp [Ts.drop], Below.refl _ _⟩
    case round =>
      rename_i wr _
      obtain ⟨j, m', hk, rfl, rfl, hm', hrel, hB⟩ := hrel
      have R := Lib.hid hrel
      have B := Lib.hid hB
      clear hrel
      have a3' := (hB.cell (p := ⟨w.heap.size, 3, none⟩) (by rw [hsz2]; simp)).trans a3
      by_cases hlt : j < ts.len
      · obtain ⟨kk, s1, nn, pp, cc, kids, rest, D, l0, l1, l2, l3, A1, O1, hkl, hsz3, _, _, _⟩ := Ts.open_at hlies hB hok hlt
        obtain rfl := Ts.some_of hp hlt
        clear hB hp
        go_wp2_with fail
        refine (ih kids (by omega) (by omega) O1.out kk s1 nn wr pp cc A1.out).mono ?_
        rintro e w' ⟨rfl, hB3⟩
        have B3 := Lib.hid (B.out.trans (hB3.mono B.out.size))
        clear hB3 l0 l1 l2 l3 a3'
        have hdk := depthL_size kids
        go_wp2
        go_roundw
        case rel =>
          have h := R.out
          rw [D.out] at h
          simp only [depthL] at h
          have hd2 := Ts.drop_succ j ts D.out
          refine ⟨j + 1, max m' (depthL kids + 1), by omega, by go_num, ?_, by omega, by rw [hd2]; omega, B3.out⟩
          congr 1
          split <;> omega
        case measure => simp [intOf]; omega
      · have hd := Ts.drop_end hlt
        have h := R.out
        rw [hd] at h
        have H : Hid (m' = depthL ts) := Lib.hid (by simpa [depthL] using h)
        clear h hd hB
        go_wp2
        go_ret
        refine ⟨?_, BW.out.trans (B.out.mono BW.out.size)⟩
        rw [← H.out]
        go_num

set_option maxRecDepth 100000 in
set_option maxHeartbeats 1000000 in
theorem tdepth_any : ∀ (sz : Nat) (ts : Ts), ts.size < sz → ts.size ≤ 1000000 → ts.ok → ∀ (k : Int) (s : ByteArray) (n : Int) (w : World) (p : Option Addr) (c : Nat), Ts.At w p ts →
    Calls Try.prog 49 #[.agg #[.int .u8 k, .string s, .int .i64 n, .slice p ts.len c]] w fun e w' =>
      e = .returned (.int .i64 ((depthL ts + 1 : Nat) : Int)) ∧ Below w.heap.size w w' := by
  intro sz
  induction sz with
  | zero => intro ts h; omega
  | succ sz ih =>
    intro ts hsz hbig hok k s n w p c hat
    have hds := depthL_size ts
    have hls := Ts.len_size ts
    obtain ⟨W2, hW2, hsz2, hB2, hc1⟩ := box1 w #[.int .u8 k, .string s, .int .i64 n, .slice p ts.len c] 24
    have a3 : W2.cell? ⟨w.heap.size, 3, none⟩ = some (.slice p ts.len c) := hc1 3 _ rfl
    obtain ⟨b, o, hp, hlies⟩ := hat.below hB2
    go_enter Try.func49, Try.ntmps49
    go_wp2
    rw [← hW2]
    have Z := Lib.hid hW2
    have BW := Lib.hid hB2
    clear hB2 hc1 hW2
    go_loopw [3, 9] (fun m i wr => ∃ (j m' : Nat), j ≤ ts.len ∧ i = .int .i64 j ∧ m = .int .i64 m' ∧ m' ≤ depthL ts ∧ max m' (depthL (ts.drop j)) = depthL ts ∧ Below W2.heap.size W2 wr) (fun _ i _ => ts.len - (intOf i).toNat)
    case atStart => exact ⟨0, 0, Nat.zero_le _, rfl, rfl, Nat.zero_le _, by simp [Ts.drop], Below.refl _ _⟩
    case round =>
      rename_i wr _
      obtain ⟨j, m', hk, rfl, rfl, hm', hrel, hB⟩ := hrel
      have R := Lib.hid hrel
      have B := Lib.hid hB
      clear hrel
      by_cases hlt : j < ts.len
      · obtain ⟨kk, s1, nn, pp, cc, kids, rest, D, l0, l1, l2, l3, A1, O1, hkl, hsz3, _, _, _⟩ := Ts.open_at hlies hB hok hlt
        obtain rfl := Ts.some_of hp hlt
        clear hB hp
        go_wp2_with fail
        have hB0 : Below wr.heap.size wr (wr.alloc (.cells #[.int .u8 kk, .string s1, .int .i64 nn, .slice pp kids.len cc] 24)) := (Below.refl _ _).alloc (Nat.le_refl _) _
        refine (ih kids (by omega) (by omega) O1.out kk s1 nn _ pp cc (A1.out.below hB0)).mono ?_
        rintro e w' ⟨rfl, hB3⟩
        have B3 := Lib.hid (B.out.trans ((hB0.trans (hB3.mono hB0.size)).mono B.out.size))
        clear hB3 hB0 l0 l1 l2 l3
        have hdk := depthL_size kids
        go_wp2
        go_roundw
        case rel =>
          have h := R.out
          rw [D.out] at h
          simp only [depthL] at h
          have hd2 := Ts.drop_succ j ts D.out
          refine ⟨j + 1, max m' (depthL kids + 1), by omega, by go_num, ?_, by omega, by rw [hd2]; omega, B3.out⟩
          congr 1
          split <;> omega
        case measure => simp [intOf]; omega
      · have hd := Ts.drop_end hlt
        have h := R.out
        rw [hd] at h
        have H : Hid (m' = depthL ts) := Lib.hid (by simpa [depthL] using h)
        clear h hd hB
        go_wp2
        go_ret
        refine ⟨?_, BW.out.trans (B.out.mono BW.out.size)⟩
        rw [← H.out]
        go_num

set_option maxRecDepth 100000 in
set_option maxHeartbeats 1000000 in
theorem rsize_any : ∀ (sz : Nat) (ts : Ts), ts.size < sz → ts.size ≤ 1000000 → ts.ok → ∀ (k : Int) (s : ByteArray) (n : Int) (w : World) (p : Option Addr) (c : Nat), Ts.At w p ts →
    Calls Try.prog 48 #[.agg #[.int .u8 k, .string s, .int .i64 n, .slice p ts.len c]] w fun e w' =>
      e = .returned (.int .i64 ((ts.size + 1 : Nat) : Int)) ∧ Below w.heap.size w w' := by
  intro sz
  induction sz with
  | zero => intro ts h; omega
  | succ sz ih =>
    intro ts hsz hbig hok k s n w p c hat
    have hls := Ts.len_size ts
    obtain ⟨W2, hW2, hsz2, hB2, hc1⟩ := box1 w #[.int .u8 k, .string s, .int .i64 n, .slice p ts.len c] 24
    have a3 : W2.cell? ⟨w.heap.size, 3, none⟩ = some (.slice p ts.len c) := hc1 3 _ rfl
    obtain ⟨b, o, hp, hlies⟩ := hat.below hB2
    go_enter Try.func48, Try.ntmps48
    go_wp2
    rw [← hW2]
    have Z := Lib.hid hW2
    have BW := Lib.hid hB2
    clear hB2 hc1 hW2
    go_loopw [3, 4] (fun m i wr => ∃ (j m' : Nat), j ≤ ts.len ∧ i = .int .i64 j ∧ m = .int .i64 m' ∧ m' + (ts.drop j).size = ts.size + 1 ∧ Below W2.heap.size W2 wr) (fun _ i _ => ts.len - (intOf i).toNat)
    case atStart => exact ⟨0, 1, Nat.zero_le _, rfl, rfl, by simp [Ts.drop]; omega, Below.refl _ _⟩
    case round =>
      rename_i wr _
      obtain ⟨j, m', hk, rfl, rfl, hrel, hB⟩ := hrel
      have B := Lib.hid hB
      have a3' := (hB.cell (p := ⟨w.heap.size, 3, none⟩) (by rw [hsz2]; simp)).trans a3
      by_cases hlt : j < ts.len
      · obtain ⟨kk, s1, nn, pp, cc, kids, rest, D, l0, l1, l2, l3, A1, O1, hkl, hsz3, _, _, _⟩ := Ts.open_at hlies hB hok hlt
        obtain rfl := Ts.some_of hp hlt
        rw [D.out] at hrel
        simp only [Ts.size] at hrel
        clear hB hp
        go_wp2_with fail
        refine (ih kids (by omega) (by omega) O1.out kk s1 nn wr pp cc A1.out).mono ?_
        rintro e w' ⟨rfl, hB3⟩
        have B3 := Lib.hid (B.out.trans (hB3.mono B.out.size))
        clear hB3 l0 l1 l2 l3 a3'
        go_wp2
        go_roundw
        case rel =>
          have hd2 := Ts.drop_succ j ts D.out
          exact ⟨j + 1, m' + (kids.size + 1), by omega, by go_num, by go_num, by rw [hd2]; omega, B3.out⟩
        case measure => simp [intOf]; omega
      · have hd := Ts.drop_end hlt
        rw [hd] at hrel
        have H : Hid (m' = ts.size + 1) := Lib.hid (by simpa [Ts.size] using hrel)
        clear hrel hd hB
        go_wp2
        go_ret
        refine ⟨?_, BW.out.trans (B.out.mono BW.out.size)⟩
        rw [← H.out]
        rfl

end Go.Proofs.Ytflomdnjabgnaaa
/-
  Whether a name may be one.
-/
namespace Go.Proofs.Ytflomdnjabgnaaa
open Go.RowKit

/-- may a byte stand in a name? -/
def okB (x : Nat) : Prop := (32 ≤ x ∧ x ≤ 126) ∨ x = 9 ∨ x = 10
def nameOk (s : ByteArray) : Prop := s.size ≤ 32 ∧ ∀ (j : Nat) (h : j < s.size), okB s[j].toNat
open Classical in
noncomputable def nameB (s : ByteArray) : Bool := decide (nameOk s)

theorem nameB_true {s : ByteArray} (h : nameOk s) : nameB s = true := by simp [nameB, h]
theorem nameB_false {s : ByteArray} (h : ¬ nameOk s) : nameB s = false := by simp [nameB, h]

/-- the ways that a byte may be, as the walk asks -/
theorem byte_ways (x : Nat) :
    (okB x ∧ (((32 : Int) ≤ (x : Int) ∧ (x : Int) ≤ 126) ∨ ((x : Int) < 32 ∧ ((x : Int) != 9) = false) ∨ ((x : Int) < 32 ∧ ((x : Int) != 9) = true ∧ ((x : Int) != 10) = false))) ∨
    (¬ okB x ∧ (((x : Int) < 32 ∧ ((x : Int) != 9) = true ∧ ((x : Int) != 10) = true) ∨ (32 ≤ (x : Int) ∧ 126 < (x : Int) ∧ ((x : Int) != 9) = true ∧ ((x : Int) != 10) = true))) := by
  simp only [bne_iff_ne, bne_eq_false_iff_eq, ne_eq, okB]
  omega

set_option maxRecDepth 100000 in
set_option maxHeartbeats 1000000 in
theorem rname_any (s : ByteArray) (hs : s.size ≤ 140737488351232) (w : World) :
    Calls Try.prog 84 #[.string s] w fun e w' => e = .returned (.bool (nameB s)) ∧ w' = w := by
  go_enter Try.func84, Try.ntmps84
  go_wp2
  go_loop [3] (fun i => ∃ (j : Nat), j ≤ s.size ∧ i = .int .i64 j ∧ ∀ (m : Nat) (h : m < s.size), m < j → okB s[m].toNat) (fun i => s.size - (intOf i).toNat)
  case atStart => exact ⟨0, Nat.zero_le _, rfl, fun m h1 h2 => by omega⟩
  case round =>
    obtain ⟨j, hj, rfl, hr⟩ := hrel
    have R := Lib.hid hr
    clear hr
    by_cases hlt : j < s.size
    · rcases byte_ways s[j].toNat with ⟨hk, hw⟩ | ⟨hk, hw⟩
      · have RK : Hid (∀ (m : Nat) (h : m < s.size), m < j + 1 → okB s[m].toNat) := Lib.hid fun m h h1 => by
          by_cases e : m = j
          · subst e; exact hk
          · exact R.out m h (by omega)
        clear R hk
        rcases hw with ⟨h1, h2⟩ | ⟨h1, h2⟩ | ⟨h1, h2, h3⟩
        · go_wp2
          go_round
          case rel => exact ⟨j + 1, by omega, by go_num, RK.out⟩
          case measure => simp [intOf]; omega
        · go_wp2
          go_round
          case rel => exact ⟨j + 1, by omega, by go_num, RK.out⟩
          case measure => simp [intOf]; omega
        · go_wp2
          go_round
          case rel => exact ⟨j + 1, by omega, by go_num, RK.out⟩
          case measure => simp [intOf]; omega
      · have NB : Hid (nameB s = false) := Lib.hid (nameB_false fun h => hk (h.2 j hlt))
        clear R hk
        rcases hw with ⟨h1, h2, h3⟩ | ⟨h1, h2, h3, h4⟩
        · go_wp2
          go_ret
          exact ⟨by rw [NB.out]; rfl, rfl⟩
        · go_wp2
          go_ret
          exact ⟨by rw [NB.out]; rfl, rfl⟩
    · have hall : ∀ (m : Nat) (h : m < s.size), okB s[m].toNat := fun m h => R.out m h (by omega)
      have NB : Hid (nameB s = decide ((s.size : Int) ≤ 32)) := Lib.hid (by
        by_cases h : s.size ≤ 32
        · rw [nameB_true ⟨h, hall⟩]; simp; omega
        · rw [nameB_false (fun h' => h h'.1)]; simp; omega)
      clear R hall
      go_wp2
      go_ret
      exact ⟨by rw [NB.out]; rfl, rfl⟩

set_option maxRecDepth 100000 in
set_option maxHeartbeats 1000000 in
theorem tname_any (s : ByteArray) (hs : s.size ≤ 140737488351232) (w : World) :
    Calls Try.prog 88 #[.string s] w fun e w' => e = .returned (.bool (nameB s)) ∧ w' = w := by
  by_cases h : (32 : Int) < (s.size : Int)
  · have NB : Hid (nameB s = false) := Lib.hid (nameB_false fun h' => by have := h'.1; omega)
    go_enter Try.func88, Try.ntmps88
    go_wp2
    go_ret
    exact ⟨by rw [NB.out]; rfl, rfl⟩
  · go_enter Try.func88, Try.ntmps88
    go_wp2
    go_loop [10] (fun i => ∃ (j : Nat), j ≤ s.size ∧ i = .int .i64 j ∧ ∀ (m : Nat) (h : m < s.size), m < j → okB s[m].toNat) (fun i => s.size - (intOf i).toNat)
    case atStart => exact ⟨0, Nat.zero_le _, rfl, fun m h1 h2 => by omega⟩
    case round =>
      obtain ⟨j, hj, rfl, hr⟩ := hrel
      have R := Lib.hid hr
      clear hr
      by_cases hlt : j < s.size
      · rcases byte_ways s[j].toNat with ⟨hk, hw⟩ | ⟨hk, hw⟩
        · have RK : Hid (∀ (m : Nat) (h : m < s.size), m < j + 1 → okB s[m].toNat) := Lib.hid fun m h h1 => by
            by_cases e : m = j
            · subst e; exact hk
            · exact R.out m h (by omega)
          clear R hk
          rcases hw with ⟨h1, h2⟩ | ⟨h1, h2⟩ | ⟨h1, h2, h3⟩
          · go_wp2
            go_round
            case rel => exact ⟨j + 1, by omega, by go_num, RK.out⟩
            case measure => simp [intOf]; omega
          · go_wp2
            go_round
            case rel => exact ⟨j + 1, by omega, by go_num, RK.out⟩
            case measure => simp [intOf]; omega
          · go_wp2
            go_round
            case rel => exact ⟨j + 1, by omega, by go_num, RK.out⟩
            case measure => simp [intOf]; omega
        · have NB : Hid (nameB s = false) := Lib.hid (nameB_false fun h => hk (h.2 j hlt))
          clear R hk
          rcases hw with ⟨h1, h2, h3⟩ | ⟨h1, h2, h3, h4⟩
          · go_wp2
            go_ret
            exact ⟨by rw [NB.out]; rfl, rfl⟩
          · go_wp2
            go_ret
            exact ⟨by rw [NB.out]; rfl, rfl⟩
      · have NB : Hid (nameB s = true) := Lib.hid (nameB_true ⟨by omega, fun m h => R.out m h (by omega)⟩)
        clear R
        go_wp2
        go_ret
        exact ⟨by rw [NB.out]; rfl, rfl⟩
end Go.Proofs.Ytflomdnjabgnaaa
