/-
  Layer 2: how many of a list are alike a term, walked. (Written by gen_yi.py.)
-/
import Derived.Test.YtlhclblekpngnaaYh
import Derived.Test.YtlhclblekpngnaaTr
import Derived.Test.YtlhclblekpngnaaTq
namespace Go.Proofs.Ytlhclblekpngnaa
open Go.RowKit

theorem cntA_le (x : It) : ∀ ts : Ts, cntA x ts ≤ ts.len
  | .nil => Nat.le_refl _
  | .cons _ _ _ _ _ _ r => by
    have := cntA_le x r
    rw [cntA, Ts.len]
    split <;> omega

set_option maxRecDepth 100000 in
set_option maxHeartbeats 8000000 in
theorem count_any (ts : Ts) (x : It) (hbig : ts.size ≤ 1000000) (hok : ts.ok) (hokx : x.ok) (w : World) (p : Option Addr) (c : Nat) (hat : Ts.At w p ts) (hatx : Ts.At w x.p x.us) :
    Calls Try.prog 38 #[.slice p ts.len c, .agg #[.int .u8 x.k, .string x.s, .int .i64 x.n, .slice x.p x.us.len x.c]] w fun e w' => e = .returned (.int .i64 (cntA x ts : Nat)) ∧ Below w.heap.size w w' := by
  have hls := Ts.len_size ts
  have OK := Lib.hid hok
  have OKX := Lib.hid hokx
  have AT := Lib.hid hat
  have ATX := Lib.hid hatx
  have hxl : x.us.len ≤ 9223372036854775807 := by have h1 : x.us.len ≤ x.c ∧ x.c ≤ 9223372036854775807 := hokx.2.2.2.1; omega
  clear hok hokx hat hatx
  go_enter Try.func38, Try.ntmps38
  go_wp2_with fail
  obtain ⟨W2, hW2, hs2, hB2, hTx⟩ := box1 w #[Value.int IntKind.u8 x.k, Value.string x.s, Value.int IntKind.i64 x.n, Value.slice x.p x.us.len x.c] 24
  rw [← hW2]
  have Z2 := Lib.hid hW2
  have TX : TT w w.heap.size x.k x.s x.n x.p x.c x.us W2 := ⟨hB2, by omega, hTx 0 _ rfl, hTx 1 _ rfl, hTx 2 _ rfl, hTx 3 _ rfl, ATX.out.below hB2⟩
  have LTX := Lib.hid TX
  obtain ⟨b, o, hp, hl⟩ := AT.out.below hB2
  have HP := Lib.hid hp
  have LA : Hid (ts.lies W2 b o) := Lib.hid hl
  clear hW2 hTx TX hp hl
  go_loopw [5, 6] (fun s5 s6 wr => ∃ (m j : Nat), j ≤ ts.len ∧ s5 = .int .i64 m ∧ s6 = .int .i64 j ∧ Hid (m + cntA x (ts.drop j) = cntA x ts) ∧ Hid (Below W2.heap.size W2 wr)) (fun _ i _ => ts.len - (intOf i).toNat)
  case atStart => exact ⟨0, 0, Nat.zero_le _, rfl, rfl, Lib.hid (by rw [Nat.zero_add]; cases ts <;> rfl), Lib.hid (Below.refl _ _)⟩
  case round =>
    obtain ⟨m, j, hj, rfl, rfl, RC, BR⟩ := hrel
    have hm : m ≤ 1000000 := by have h1 := RC.out; have h2 := cntA_le x ts; omega
    by_cases hlt : j < ts.len
    · have hp' := Ts.some_of HP.out hlt
      subst hp'
      obtain ⟨k1, s1, n1, pp, cc, kids, rest, HD, EL, hsz1, hoke⟩ := Ts.elem LA.out BR.out OK.out hlt
      have OKE := Lib.hid hoke
      have TX := LTX.out.below BR.out
      have hkl : kids.len ≤ 9223372036854775807 := by have h1 : kids.len ≤ cc ∧ cc ≤ 9223372036854775807 := hoke.2.2.2.1; omega
      obtain ⟨v, hv⟩ : ∃ v, likeB x ⟨k1, s1, n1, pp, cc, kids⟩ = v := ⟨_, rfl⟩
      have hsame : ∀ W, Ts.At W pp kids → Ts.At W x.p x.us → Calls Try.prog 26 #[.agg #[.int .u8 k1, .string s1, .int .i64 n1, .slice pp kids.len cc], .agg #[.int .u8 x.k, .string x.s, .int .i64 x.n, .slice x.p x.us.len x.c]] W fun e w' => e = .returned (.bool v) ∧ Below W.heap.size W w' := by
        intro W h h'
        rw [← hv]
        exact same_of kids x.us (fun w p p' c c' h h' => all_any _ kids x.us (Nat.lt_succ_self _) OKE.out.2.2.2.2.2.1 (show x.us.ok from OKX.out.2.2.2.2.2.1) hkl hxl w p p' c c' h h') k1 x.k s1 x.s n1 x.n pp x.p cc x.c W h h'
      have SAME := Lib.hid hsame
      have hr : cntA x ts = m + (if v = true then 1 else 0) + cntA x (ts.drop (j + 1)) := by
        rw [← RC.out, HD.out, Ts.drop_succ j ts HD.out, cntA, hv]
        omega
      have HR := Lib.hid hr
      clear hoke hsame hr hv
      go_wp2_with fail
      refine region_by_facts (fun W => Below W2.heap.size W2 W ∧ TT w w.heap.size x.k x.s x.n x.p x.c x.us W ∧ El b (o + j * 4) k1 s1 n1 pp cc kids W)
        [fun v _ => v = .slice (some ⟨b, o, none⟩) ts.len c, fun v _ => v = .int .i64 j, fun v _ => v = .pointer (some ⟨b, o + j * 4, none⟩), fun v _ => v = tv k1 s1 n1 pp kids.len cc, fun v _ => v = tv x.k x.s x.n x.p x.us.len x.c, fun u _ => u = .bool v]
        ⟨.eq _, .eq _, .eq _, .eq _, .eq _, .eq _, trivial⟩
        (by kernel_rfl) (by kernel_rfl) (by kernel_rfl) ?h0 ?steps ?done
      case h0 => exact ⟨below_drewN BR.out 1, TX.drewN 1, EL.below (below_drewN (Below.refl _ _) 1)⟩
      case steps =>
        refine ⟨?_, ?_, ?_, ?_, ?_, ?_, trivial⟩
        · intro f W hI hd K hK
          simp only [frameOf, Act.put, List.setIfInBounds_toArray, List.set_cons_zero, List.set_cons_succ]
          go_simp
          refine hK.out (.slice (some ⟨b, o, none⟩) ts.len c) _ W ?_ hI (Below.refl _ _) rfl
          simp only [frameOf, Act.put, List.setIfInBounds_toArray, List.set_cons_zero, List.set_cons_succ]
        · intro f W hI hd K hK
          simp only [frameOf, Act.put, List.setIfInBounds_toArray, List.set_cons_zero, List.set_cons_succ]
          go_simp
          refine hK.out (.int .i64 j) _ W ?_ hI (Below.refl _ _) rfl
          simp only [frameOf, Act.put, List.setIfInBounds_toArray, List.set_cons_zero, List.set_cons_succ]
        · intro f W hI hd K hK
          simp only [frameOf, Act.put, List.setIfInBounds_toArray, List.set_cons_zero, List.set_cons_succ]
          have h0 : f 0 = .slice (some ⟨b, o, none⟩) ts.len c := hd 0 (by kernel_rfl)
          have h1 : f 1 = .int .i64 j := hd 1 (by kernel_rfl)
          rw [h0, h1]
          go_simp
          refine hK.out (.pointer (some ⟨b, o + j * 4, none⟩)) _ W ?_ hI (Below.refl _ _) rfl
          simp only [frameOf, Act.put, List.setIfInBounds_toArray, List.set_cons_zero, List.set_cons_succ, Nat.zero_add, Nat.reduceAdd, h0, h1]
        · intro f W hI hd K hK
          simp only [frameOf, Act.put, List.setIfInBounds_toArray, List.set_cons_zero, List.set_cons_succ]
          have h2 : f 2 = .pointer (some ⟨b, o + j * 4, none⟩) := hd 2 (by kernel_rfl)
          have g0 := hI.2.2.c0
          have g1 := hI.2.2.c1
          have g2 := hI.2.2.c2
          have g3 := hI.2.2.c3
          rw [h2]
          go_simp
          refine hK.out (tv k1 s1 n1 pp kids.len cc) _ W ?_ hI (Below.refl _ _) rfl
          simp only [tv, frameOf, Act.put, List.setIfInBounds_toArray, List.set_cons_zero, List.set_cons_succ, Nat.zero_add, Nat.reduceAdd, h2]
        · intro f W hI hd K hK
          simp only [frameOf, Act.put, List.setIfInBounds_toArray, List.set_cons_zero, List.set_cons_succ]
          have g0 := hI.2.1.c0
          have g1 := hI.2.1.c1
          have g2 := hI.2.1.c2
          have g3 := hI.2.1.c3
          go_simp
          refine hK.out (tv x.k x.s x.n x.p x.us.len x.c) _ W ?_ hI (Below.refl _ _) rfl
          simp only [tv, frameOf, Act.put, List.setIfInBounds_toArray, List.set_cons_zero, List.set_cons_succ]
        · intro f W hI hd K hK
          simp only [frameOf, Act.put, List.setIfInBounds_toArray, List.set_cons_zero, List.set_cons_succ]
          have h3 : f 3 = tv k1 s1 n1 pp kids.len cc := hd 3 (by kernel_rfl)
          unfold tv at h3
          have h4 : f 4 = tv x.k x.s x.n x.p x.us.len x.c := hd 4 (by kernel_rfl)
          unfold tv at h4
          rw [h3, h4]
          go_simp
          refine (SAME.out W hI.2.2.tat hI.2.1.tat).mono ?_
          rintro e w' ⟨rfl, hB⟩
          refine hK.out (.bool v) _ _ ?_ ⟨hI.1.trans (hB.mono hI.1.size), hI.2.1.below hB, hI.2.2.below hB⟩ hB rfl
          simp only [frameOf, Act.put, List.setIfInBounds_toArray, List.set_cons_zero, List.set_cons_succ, Nat.zero_add, Nat.reduceAdd, h3, h4]
      case done =>
        intro f W hI hF
        have h5 : f 5 = .bool v := hF 5 (by decide)
        simp only [frameOf, Act.put, List.setIfInBounds_toArray, List.set_cons_zero, List.set_cons_succ]
        rw [h5]
        clear hF h5
        obtain ⟨hBW, -, -⟩ := hI
        replace BR := Lib.hid hBW
        clear hBW EL TX
        cases v with
        | true =>
          go_wp2
          go_roundw
          case rel => exact ⟨m + 1, j + 1, by omega, by go_num, by go_num, Lib.hid (by rw [HR.out, if_pos rfl]), BR⟩
          case measure => simp [intOf]; omega
        | false =>
          go_wp2
          go_roundw
          case rel => exact ⟨m, j + 1, by omega, rfl, by go_num, Lib.hid (by rw [HR.out, if_neg (by simp)]; omega), BR⟩
          case measure => simp [intOf]; omega
    · have hd := Ts.drop_end hlt
      have hr : m = cntA x ts := by
        have h1 := RC.out
        rw [hd] at h1
        exact h1
      have HR := Lib.hid hr
      clear hr hd
      go_wp2
      go_ret
      exact ⟨by rw [← HR.out]; first | done | rfl, hB2.trans (BR.out.mono hB2.size)⟩

end Go.Proofs.Ytlhclblekpngnaa
