/-
  Layer 2: compareArgs and Compare, whatever they are given. (Written by gen_xc.py.)
-/
import Derived.Test.YtlhclblekpngnaaXb
namespace Go.Proofs.Ytlhclblekpngnaa
open Go.RowKit

set_option maxRecDepth 100000 in
set_option maxHeartbeats 8000000 in
theorem compareArgs_any : ∀ (sz : Nat) (ts : Ts), ts.size < sz → ts.size ≤ 1000000 → ts.ok → ∀ (us : Ts), us.ok → ts.len ≤ us.len → us.len ≤ 9223372036854775807 → ∀ (w : World) (p q : Option Addr) (c d : Nat), Ts.At w p ts → Ts.At w q us →
    Calls Try.prog 68 #[.slice p ts.len c, .slice q us.len d] w fun e w' => e = .returned (.int .i64 (cmpL ts us)) ∧ Below w.heap.size w w' := by
  intro sz
  induction sz with
  | zero => intro ts h; omega
  | succ sz ih =>
    intro ts hsz hbig hok us hok' hle hle9 w p q c d hat hat'
    have hls := Ts.len_size ts
    obtain ⟨b, o, hp, hl⟩ := hat
    obtain ⟨b', o', hq, hl'⟩ := hat'
    have OK := Lib.hid hok
    have OK' := Lib.hid hok'
    have HP := Lib.hid hp
    have HQ := Lib.hid hq
    have LA : Hid (ts.lies w b o) := Lib.hid hl
    have LB : Hid (us.lies w b' o') := Lib.hid hl'
    clear hok hok' hp hq hl hl'
    go_enter Try.func68, Try.ntmps68
    go_wp2_with fail
    go_loopw [9] (fun s9 wr => ∃ (j : Nat), j ≤ ts.len ∧ s9 = .int .i64 j ∧ Hid (cmpL (ts.drop j) (us.drop j) = cmpL ts us) ∧ Hid (Below w.heap.size w wr)) (fun i _ => ts.len - (intOf i).toNat)
    case atStart => exact ⟨0, Nat.zero_le _, rfl, Lib.hid rfl, Lib.hid (Below.refl _ _)⟩
    case round =>
      rename_i wr _
      obtain ⟨j, hj, rfl, RC, BR⟩ := hrel
      by_cases hlt : j < ts.len
      · have hlt' : j < us.len := by omega
        have hp' := Ts.some_of HP.out hlt
        have hq' := Ts.some_of HQ.out hlt'
        subst hp' hq'
        obtain ⟨k, s, n, pp, cc, kids, rest, HD, EL, hsz1, hoke⟩ := Ts.elem LA.out BR.out OK.out hlt
        obtain ⟨k', s', n', pq, cd, kids', rest', HD', EL', hsz1', hoke'⟩ := Ts.elem LB.out BR.out OK'.out hlt'
        have OKE := Lib.hid hoke
        have OKE' := Lib.hid hoke'
        have hk9 : kids'.len ≤ 9223372036854775807 := by have := hoke'.2.2.2.1; omega
        have hcmp : ∀ W, Ts.At W pp kids → Ts.At W pq kids' → Calls Try.prog 34 #[.agg #[.int .u8 k, .string s, .int .i64 n, .slice pp kids.len cc], .agg #[.int .u8 k', .string s', .int .i64 n', .slice pq kids'.len cd]] W fun e w' => e = .returned (.int .i64 (cmpT k k' s s' n n' kids kids' (cmpL kids kids'))) ∧ Below W.heap.size W w' :=
          fun W h h' => compare_of (fun hl W p p' c c' h h' => ih kids (by omega) (by omega) OKE.out.2.2.2.2.2.1 kids' OKE'.out.2.2.2.2.2.1 (by omega) hk9 W p p' c c' h h') h h'
        have CMP := Lib.hid hcmp
        obtain ⟨x, hx⟩ : ∃ x, cmpT k k' s s' n n' kids kids' (cmpL kids kids') = x := ⟨_, rfl⟩
        have HX := Lib.hid hx
        have hr : cmpL ts us = or0 x (cmpL (ts.drop (j + 1)) (us.drop (j + 1))) := by
          have h1 := RC.out
          rw [HD.out, HD'.out] at h1
          rw [Ts.drop_succ j ts HD.out, Ts.drop_succ j us HD'.out, ← h1, ← hx]
          rfl
        have HR := Lib.hid hr
        clear hoke hoke' hcmp hx hr
        go_wp2_with fail
        refine region_by_facts (fun W => Below w.heap.size w W ∧ El b (o + j * 4) k s n pp cc kids W ∧ El b' (o' + j * 4) k' s' n' pq cd kids' W)
          [fun v _ => v = .slice (some ⟨b, o, none⟩) ts.len c, fun v _ => v = .int .i64 j, fun v _ => v = .pointer (some ⟨b, o + j * 4, none⟩), fun v _ => v = tv k s n pp kids.len cc, fun v _ => v = .slice (some ⟨b', o', none⟩) us.len d, fun v _ => v = .int .i64 j, fun v _ => v = .pointer (some ⟨b', o' + j * 4, none⟩), fun v _ => v = tv k' s' n' pq kids'.len cd, fun v _ => v = .int .i64 x, fun v _ => v = .int .i64 x]
          ⟨.eq _, .eq _, .eq _, .eq _, .eq _, .eq _, .eq _, .eq _, .eq _, .eq _, trivial⟩
          (by kernel_rfl) (by kernel_rfl) (by kernel_rfl) ?h0 ?steps ?done
        case h0 => exact ⟨below_drewN BR.out 1, EL.below (below_drewN (Below.refl _ _) 1), EL'.below (below_drewN (Below.refl _ _) 1)⟩
        case steps =>
          refine ⟨?_, ?_, ?_, ?_, ?_, ?_, ?_, ?_, ?_, ?_, trivial⟩
          · intro f W hI hd K hK
            simp only [frameOf, Act.put, List.setIfInBounds_toArray, List.set_cons_zero, List.set_cons_succ]
            go_simp
            refine hK.out (.slice (some ⟨b, o, none⟩) ts.len c) _ W ?_ hI (Below.refl _ _) rfl
            simp only [frameOf, Act.put, List.setIfInBounds_toArray, List.set_cons_zero, List.set_cons_succ]
          · intro f W hI hd K hK
            simp only [frameOf, Act.put, List.setIfInBounds_toArray, List.set_cons_zero, List.set_cons_succ]
            go_simp
            refine hK.out (.int .i64 j) _ W ?_ hI (Below.refl _ _) rfl
            simp only [frameOf, Act.put, List.setIfInBounds_toArray, List.set_cons_zero, List.set_cons_succ]
          · intro f W hI hd K hK
            simp only [frameOf, Act.put, List.setIfInBounds_toArray, List.set_cons_zero, List.set_cons_succ]
            have h0 : f 0 = .slice (some ⟨b, o, none⟩) ts.len c := hd 0 (by kernel_rfl)
            have h1 : f 1 = .int .i64 j := hd 1 (by kernel_rfl)
            rw [h0, h1]
            go_simp
            refine hK.out (.pointer (some ⟨b, o + j * 4, none⟩)) _ W ?_ hI (Below.refl _ _) rfl
            simp only [frameOf, Act.put, List.setIfInBounds_toArray, List.set_cons_zero, List.set_cons_succ, Nat.zero_add, Nat.reduceAdd, h0, h1]
          · intro f W hI hd K hK
            simp only [frameOf, Act.put, List.setIfInBounds_toArray, List.set_cons_zero, List.set_cons_succ]
            have h2 : f 2 = .pointer (some ⟨b, o + j * 4, none⟩) := hd 2 (by kernel_rfl)
            have k0 := hI.2.1.c0
            have k1 := hI.2.1.c1
            have k2 := hI.2.1.c2
            have k3 := hI.2.1.c3
            rw [h2]
            go_simp
            refine hK.out (tv k s n pp kids.len cc) _ W ?_ hI (Below.refl _ _) rfl
            simp only [tv, frameOf, Act.put, List.setIfInBounds_toArray, List.set_cons_zero, List.set_cons_succ, Nat.zero_add, Nat.reduceAdd, h2]
          · intro f W hI hd K hK
            simp only [frameOf, Act.put, List.setIfInBounds_toArray, List.set_cons_zero, List.set_cons_succ]
            go_simp
            refine hK.out (.slice (some ⟨b', o', none⟩) us.len d) _ W ?_ hI (Below.refl _ _) rfl
            simp only [frameOf, Act.put, List.setIfInBounds_toArray, List.set_cons_zero, List.set_cons_succ]
          · intro f W hI hd K hK
            simp only [frameOf, Act.put, List.setIfInBounds_toArray, List.set_cons_zero, List.set_cons_succ]
            go_simp
            refine hK.out (.int .i64 j) _ W ?_ hI (Below.refl _ _) rfl
            simp only [frameOf, Act.put, List.setIfInBounds_toArray, List.set_cons_zero, List.set_cons_succ]
          · intro f W hI hd K hK
            simp only [frameOf, Act.put, List.setIfInBounds_toArray, List.set_cons_zero, List.set_cons_succ]
            have h4 : f 4 = .slice (some ⟨b', o', none⟩) us.len d := hd 4 (by kernel_rfl)
            have h5 : f 5 = .int .i64 j := hd 5 (by kernel_rfl)
            rw [h4, h5]
            go_simp
            refine hK.out (.pointer (some ⟨b', o' + j * 4, none⟩)) _ W ?_ hI (Below.refl _ _) rfl
            simp only [frameOf, Act.put, List.setIfInBounds_toArray, List.set_cons_zero, List.set_cons_succ, Nat.zero_add, Nat.reduceAdd, h4, h5]
          · intro f W hI hd K hK
            simp only [frameOf, Act.put, List.setIfInBounds_toArray, List.set_cons_zero, List.set_cons_succ]
            have h6 : f 6 = .pointer (some ⟨b', o' + j * 4, none⟩) := hd 6 (by kernel_rfl)
            have k0 := hI.2.2.c0
            have k1 := hI.2.2.c1
            have k2 := hI.2.2.c2
            have k3 := hI.2.2.c3
            rw [h6]
            go_simp
            refine hK.out (tv k' s' n' pq kids'.len cd) _ W ?_ hI (Below.refl _ _) rfl
            simp only [tv, frameOf, Act.put, List.setIfInBounds_toArray, List.set_cons_zero, List.set_cons_succ, Nat.zero_add, Nat.reduceAdd, h6]
          · intro f W hI hd K hK
            simp only [frameOf, Act.put, List.setIfInBounds_toArray, List.set_cons_zero, List.set_cons_succ]
            have h3 : f 3 = tv k s n pp kids.len cc := hd 3 (by kernel_rfl)
            unfold tv at h3
            have h7 : f 7 = tv k' s' n' pq kids'.len cd := hd 7 (by kernel_rfl)
            unfold tv at h7
            rw [h3, h7]
            go_simp
            refine (CMP.out W hI.2.1.tat hI.2.2.tat).mono ?_
            rintro e w' ⟨rfl, hB⟩
            rw [HX.out]
            refine hK.out (.int .i64 x) _ _ ?_ ⟨hI.1.trans (hB.mono hI.1.size), hI.2.1.below hB, hI.2.2.below hB⟩ hB rfl
            simp only [frameOf, Act.put, List.setIfInBounds_toArray, List.set_cons_zero, List.set_cons_succ, Nat.zero_add, Nat.reduceAdd, h3, h7]
          · intro f W hI hd K hK
            simp only [frameOf, Act.put, List.setIfInBounds_toArray, List.set_cons_zero, List.set_cons_succ]
            have h8 : f 8 = .int .i64 x := hd 8 (by kernel_rfl)
            rw [h8]
            go_simp
            refine hK.out (.int .i64 x) _ W ?_ hI (Below.refl _ _) rfl
            simp only [frameOf, Act.put, List.setIfInBounds_toArray, List.set_cons_zero, List.set_cons_succ, Nat.zero_add, Nat.reduceAdd, h8]
        case done =>
          intro f W hI hF
          have h9 : f 9 = .int .i64 x := hF 9 (by decide)
          simp only [frameOf, Act.put, List.setIfInBounds_toArray, List.set_cons_zero, List.set_cons_succ]
          rw [h9]
          clear hF h9
          obtain ⟨hBW, -, -⟩ := hI
          replace BR := Lib.hid hBW
          clear hBW EL EL'
          by_cases hz : (x != 0) = true
          · go_wp2
            have HZ := Lib.hid hz
            clear hz
            go_ret
            refine ⟨?_, BR.out⟩
            rw [HR.out, or0, if_neg (by simpa using HZ.out)]
            first | done | rfl
          · rw [Bool.not_eq_true] at hz
            have h0 : Hid (x = 0) := Lib.hid (by simpa using hz)
            go_wp2
            go_roundw
            case rel => exact ⟨j + 1, by omega, by go_num, Lib.hid (by rw [HR.out, or0, if_pos h0.out]), BR⟩
            case measure => simp [intOf]; omega
      · have hd := Ts.drop_end hlt
        have hr : cmpL ts us = 0 := by
          have h1 := RC.out
          rw [hd] at h1
          rw [← h1]
          cases us.drop j <;> rfl
        have HR := Lib.hid hr
        clear hr hd
        go_wp2
        go_ret
        refine ⟨?_, BR.out⟩
        rw [HR.out]
        first | done | rfl

/-- Compare, whatever it is given -/
theorem compare_any {k k' : Int} {s s' : ByteArray} {n n' : Int} {p p' : Option Addr} {c c' : Nat} {ts us : Ts} {W : World} (hbig : ts.size ≤ 1000000) (hok : ts.ok) (hok' : us.ok) (hats : Ts.At W p ts) (hatu : Ts.At W p' us) :
    Calls Try.prog 34 #[.agg #[.int .u8 k, .string s, .int .i64 n, .slice p ts.len c], .agg #[.int .u8 k', .string s', .int .i64 n', .slice p' us.len c']] W fun e w' => e = .returned (.int .i64 (cmpT k k' s s' n n' ts us (cmpL ts us))) ∧ Below W.heap.size W w' :=
  compare_of (fun hl W p p' c c' h h' => compareArgs_any _ ts (Nat.lt_succ_self _) hbig hok us hok' (by omega) (by have := Ts.len_size ts; omega) W p p' c c' h h') hats hatu

end Go.Proofs.Ytlhclblekpngnaa
