import Derived.Test.YtnmhnaanpjlniaaGreatXd
import Derived.Test.YtnmhnaanpjlniaaGreatTl
import Derived.BigQuiet
/-
  Layer 2: the document's own Compare, of good terms. (Written by gen_xl.py.)
-/
namespace Go.Proofs.YtnmhnaanpjlniaaGreat
open Go.RowKit

set_option maxHeartbeats 1000000 in
theorem rnum_any (x y : Int) (w : World) :
    Calls Tryz.prog 97 #[.int .i64 x, .int .i64 y] w fun e w' => e = .returned (.int .i64 (ci x y)) ∧ w' = w := by
  unfold ci
  go_enter Tryz.func97, Tryz.ntmps97
  by_cases h1 : x < y
  · go_wp2
    go_ret
    exact ⟨by simp [h1], rfl⟩
  · by_cases h2 : y < x
    · go_wp2
      go_ret
      exact ⟨by simp [h1, h2], rfl⟩
    · go_wp2
      go_ret
      exact ⟨by simp [h1, h2], rfl⟩

def bts (s : ByteArray) : List UInt8 := s.data.toList

theorem bts_drop {s : ByteArray} {j : Nat} (h : j < s.size) : (bts s).drop j = s[j] :: (bts s).drop (j + 1) := by
  have h1 : j < (bts s).length := by unfold bts; rw [Array.length_toList]; exact h
  rw [List.drop_eq_getElem_cons h1]
  rfl

theorem bts_end {s : ByteArray} {j : Nat} (h : s.size ≤ j) : (bts s).drop j = [] := by
  apply List.drop_of_length_le
  unfold bts
  rw [Array.length_toList]
  exact h

set_option maxRecDepth 100000 in
set_option maxHeartbeats 4000000 in
theorem rtexts_any (s t : ByteArray) (hs : s.size ≤ 140737488351232) (ht : t.size ≤ 140737488351232) (w : World) :
    Calls Tryz.prog 98 #[.string s, .string t] w fun e w' => e = .returned (.int .i64 (cb s t)) ∧ ∃ q, w' = w.drewN q := by
  go_enter Tryz.func98, Tryz.ntmps98
  go_wp2
  go_loopw [5] (fun i wr => ∃ (j : Nat), j ≤ s.size ∧ j ≤ t.size ∧ i = .int .i64 j ∧ Hid (Lib.compareBytes ((bts s).drop j) ((bts t).drop j) = cb s t) ∧ Hid (∃ q, wr = w.drewN q)) (fun i _ => s.size - (intOf i).toNat)
  case atStart => exact ⟨0, Nat.zero_le _, Nat.zero_le _, rfl, Lib.hid (by rw [List.drop_zero, List.drop_zero]; rfl), Lib.hid ⟨0, rfl⟩⟩
  case round =>
    obtain ⟨j, hj, hj', rfl, RC, RQ⟩ := hrel
    by_cases h1 : j < s.size
    · by_cases h2 : j < t.size
      · have hr : cb s t = or0 (ci s[j].toNat t[j].toNat) (Lib.compareBytes ((bts s).drop (j + 1)) ((bts t).drop (j + 1))) := by
          rw [← RC.out, bts_drop h1, bts_drop h2, cB_cons]
        have HR := Lib.hid hr
        obtain ⟨x, hx⟩ : ∃ x : Nat, s[j].toNat = x := ⟨_, rfl⟩
        obtain ⟨y, hy⟩ : ∃ y : Nat, t[j].toNat = y := ⟨_, rfl⟩
        rw [hx, hy] at hr
        have HR := Lib.hid hr
        clear hr
        by_cases hxy : x = y
        · have hne : (((s[j].toNat : Nat) : Int) != ((t[j].toNat : Nat) : Int)) = false := by rw [hx, hy, hxy]; simp
          have HXY := Lib.hid hxy
          clear hx hy hxy
          go_wp2_with fail
          go_quiet (fail)
          go_wp2
          go_roundw
          case rel => exact ⟨j + 1, by omega, by omega, by go_num, Lib.hid (by rw [HR.out, HXY.out, ci_self, or0, if_pos rfl]), Lib.hid (by obtain ⟨q, hq⟩ := RQ.out; exact ⟨q + nq, by rw [hq, World.drewN_drewN]⟩)⟩
          case measure => simp [intOf]; omega
        · have hne : (((s[j].toNat : Nat) : Int) != ((t[j].toNat : Nat) : Int)) = true := by rw [hx, hy]; simp; omega
          by_cases hlt : x < y
          · have hl : ((s[j].toNat : Nat) : Int) < ((t[j].toNat : Nat) : Int) := by rw [hx, hy]; omega
            have HV : Hid (cb s t = -1) := Lib.hid (by rw [HR.out, ci, if_pos (by omega)]; rfl)
            clear hx hy hxy hlt
            go_wp2_with fail
            go_quiet (fail)
            go_wp2_with fail
            go_quiet (fail)
            go_wp2
            go_ret
            exact ⟨by rw [HV.out]; rfl, by obtain ⟨q, hq⟩ := RQ.out; exact ⟨_, by rw [hq, World.drewN_drewN, World.drewN_drewN]⟩⟩
          · have hl : ¬ ((s[j].toNat : Nat) : Int) < ((t[j].toNat : Nat) : Int) := by rw [hx, hy]; omega
            have HV : Hid (cb s t = 1) := Lib.hid (by rw [HR.out, ci, if_neg (by omega), if_pos (by omega)]; rfl)
            clear hx hy hxy hlt
            go_wp2_with fail
            go_quiet (fail)
            go_wp2_with fail
            go_quiet (fail)
            go_wp2
            go_ret
            exact ⟨by rw [HV.out]; rfl, by obtain ⟨q, hq⟩ := RQ.out; exact ⟨_, by rw [hq, World.drewN_drewN, World.drewN_drewN]⟩⟩
      · have HV : Hid (cb s t = ci s.size t.size) := Lib.hid (by
          rw [← RC.out, bts_end (s := t) (by omega), bts_drop h1, ci, if_neg (by omega), if_pos (by omega)]
          rfl)
        clear RC
        go_wp2_with fail
        refine (rnum_any _ _ _).mono ?_
        rintro e w' ⟨rfl, rfl⟩
        go_wp2
        go_ret
        exact ⟨by rw [HV.out]; first | done | rfl, RQ.out⟩
    · have HV : Hid (cb s t = ci s.size t.size) := Lib.hid (by
        rw [← RC.out, bts_end (s := s) (by omega)]
        by_cases h3 : j < t.size
        · rw [bts_drop h3, ci, if_pos (by omega)]
          rfl
        · rw [bts_end (s := t) (by omega), ci, if_neg (by omega), if_neg (by omega)]
          rfl)
      clear RC
      go_wp2_with fail
      refine (rnum_any _ _ _).mono ?_
      rintro e w' ⟨rfl, rfl⟩
      go_wp2
      go_ret
      exact ⟨by rw [HV.out]; first | done | rfl, RQ.out⟩

theorem shape_drop : ∀ (j : Nat) (ts : Ts), shapeL ts = true → shapeL (ts.drop j) = true
  | 0, ts, h => by rw [show ts.drop 0 = ts from by cases ts <;> rfl]; exact h
  | _ + 1, .nil, _ => rfl
  | j + 1, .cons _ _ _ _ _ _ r, h => by
    simp only [shapeL, Bool.and_eq_true] at h
    exact shape_drop j r h.2

/-- what a good head is like -/
theorem head_kinds {k : Int} {s : ByteArray} {n : Int} {ts : Ts} (h : headB k s n ts.len = true) :
    ((k = 1 ∨ k = 2) ∧ s.toList = [] ∧ ts = .nil) ∨ (k = 3 ∧ n = 0 ∧ ts = .nil) ∨ (k = 4 ∧ n = 0 ∧ 0 < ts.len ∧ ts.len ≤ 16) := by
  unfold headB at h
  split at h
  · simp only [Bool.and_eq_true, beq_iff_eq] at h
    exact .inl ⟨.inl (by assumption), h.2.1, Ts.len_zero (by omega)⟩
  · split at h
    · simp only [Bool.and_eq_true, beq_iff_eq] at h
      exact .inl ⟨.inr (by assumption), h.1, Ts.len_zero (by omega)⟩
    · split at h
      · simp only [Bool.and_eq_true, beq_iff_eq] at h
        exact .inr (.inl ⟨by assumption, h.1, Ts.len_zero (by omega)⟩)
      · simp only [Bool.and_eq_true, beq_iff_eq, decide_eq_true_eq] at h
        exact .inr (.inr ⟨h.1, h.2.1, h.2.2.1, h.2.2.2.1⟩)

set_option maxRecDepth 100000 in
set_option maxHeartbeats 20000000 in
theorem rcompare_any : ∀ (sz : Nat) (ts : Ts), ts.size < sz → ts.size ≤ 1000000 → ∀ (us : Ts) (k k' : Int) (s s' : ByteArray) (n n' : Int) (w : World) (p p' : Option Addr) (c d : Nat),
    Ts.ok (.cons k s n p c ts .nil) → Ts.ok (.cons k' s' n' p' d us .nil) → (shapeL ts && headB k s n ts.len) = true → (shapeL us && headB k' s' n' us.len) = true → Ts.At w p ts → Ts.At w p' us →
    Calls Tryz.prog 57 #[.agg #[.int .u8 k, .string s, .int .i64 n, .slice p ts.len c], .agg #[.int .u8 k', .string s', .int .i64 n', .slice p' us.len d]] w fun e w' => e = .returned (.int .i64 (cmpT k k' s s' n n' ts us (cmpL ts us))) ∧ Below w.heap.size w w' := by
  intro sz
  induction sz with
  | zero => intro ts h; omega
  | succ sz ih =>
    intro ts hsz hbig us k k' s s' n n' w p p' c d hok hok' hsh hsh' hat hat'
    rw [Bool.and_eq_true] at hsh hsh'
    have hk1 := head_kinds hsh.2
    have hk2 := head_kinds hsh'.2
    have hs := hok.2.1
    have hs' := hok'.2.1
    have hkr : 0 ≤ k ∧ k ≤ 255 := hok.1
    have hkr' : 0 ≤ k' ∧ k' ≤ 255 := hok'.1
    have hll : us.len ≤ 9223372036854775807 := by have := hok'.2.2.2.1; omega
    have hls := Ts.len_size ts
    have OK := Lib.hid hok
    have OK' := Lib.hid hok'
    have AT := Lib.hid hat
    have AT' := Lib.hid hat'
    have SH := Lib.hid hsh.1
    have SH' := Lib.hid hsh'.1
    clear hok hok' hat hat' hsh hsh'
    go_enter Tryz.func57, Tryz.ntmps57
    by_cases hkk : k = k'
    · subst hkk
      have hkk2 : (k != k) = false := by simp
      rcases hk1 with ⟨hk, hse, rfl⟩ | ⟨rfl, rfl, rfl⟩ | ⟨rfl, rfl, hl0, hl16⟩
      · obtain ⟨hse', rfl⟩ : s'.toList = [] ∧ us = .nil := by
          rcases hk2 with ⟨_, h, rfl⟩ | ⟨h, _, rfl⟩ | ⟨h, _, _, _⟩
          · exact ⟨h, rfl⟩
          · omega
          · omega
        have HV : Hid (cmpT k k s s' n n' .nil .nil (cmpL .nil .nil) = ci n n') := Lib.hid (by
          have h0 : cb s s' = 0 := (cb_zero s s').2 (by rw [hse, hse']; rfl)
          rw [cmpT, ci_self, h0]
          simp only [or0, Ts.len, ci_self, cmpL, if_true]
          split <;> simp_all)
        clear hse hse' hk2
        have hn0 : Ts.nil.len = 0 := rfl
        rcases hk with rfl | rfl
        · go_wp2_with fail
          obtain ⟨W2, hW2, hs2, hB2, hTa, hTb⟩ := box2 w #[Value.int IntKind.u8 1, Value.string s, Value.int IntKind.i64 n, Value.slice p 0 c] #[Value.int IntKind.u8 1, Value.string s', Value.int IntKind.i64 n', Value.slice p' 0 d] 25 25
          rw [← hW2]
          have Z2 := Lib.hid hW2
          clear hW2 hTa hTb
          refine (rnum_any _ _ _).mono ?_
          rintro e w' ⟨rfl, rfl⟩
          go_wp2
          go_ret
          exact ⟨by rw [HV.out]; first | done | rfl, hB2⟩
        · go_wp2_with fail
          obtain ⟨W2, hW2, hs2, hB2, hTa, hTb⟩ := box2 w #[Value.int IntKind.u8 2, Value.string s, Value.int IntKind.i64 n, Value.slice p 0 c] #[Value.int IntKind.u8 2, Value.string s', Value.int IntKind.i64 n', Value.slice p' 0 d] 25 25
          rw [← hW2]
          have Z2 := Lib.hid hW2
          clear hW2 hTa hTb
          refine (rnum_any _ _ _).mono ?_
          rintro e w' ⟨rfl, rfl⟩
          go_wp2
          go_ret
          exact ⟨by rw [HV.out]; first | done | rfl, hB2⟩
      · obtain ⟨rfl, rfl⟩ : n' = 0 ∧ us = .nil := by
          rcases hk2 with ⟨h, _, _⟩ | ⟨_, h, rfl⟩ | ⟨h, _, _, _⟩
          · omega
          · exact ⟨h, rfl⟩
          · omega
        have HV : Hid (cmpT 3 3 s s' 0 0 .nil .nil (cmpL .nil .nil) = cb s s') := Lib.hid (by
          rw [cmpT, ci_self, ci_self]
          simp only [or0, Ts.len, ci_self, cmpL, if_true]
          split <;> simp_all)
        clear hk2
        have hn0 : Ts.nil.len = 0 := rfl
        go_wp2_with fail
        obtain ⟨W2, hW2, hs2, hB2, hTa, hTb⟩ := box2 w #[Value.int IntKind.u8 3, Value.string s, Value.int IntKind.i64 0, Value.slice p 0 c] #[Value.int IntKind.u8 3, Value.string s', Value.int IntKind.i64 0, Value.slice p' 0 d] 25 25
        rw [← hW2]
        have Z2 := Lib.hid hW2
        clear hW2 hTa hTb
        refine (rtexts_any s s' hs hs' _).mono ?_
        rintro e w' ⟨rfl, q, rfl⟩
        go_wp2
        go_ret
        exact ⟨by rw [HV.out]; first | done | rfl, below_drewN hB2 _⟩
      · obtain ⟨rfl, hl0', hl16'⟩ : n' = 0 ∧ 0 < us.len ∧ us.len ≤ 16 := by
          rcases hk2 with ⟨h, _, _⟩ | ⟨h, _, _⟩ | ⟨_, h, h1, h2⟩
          · omega
          · omega
          · exact ⟨h, h1, h2⟩
        clear hk2
        by_cases hlen : ts.len = us.len
        · have hlb : ((ts.len : Int) != (us.len : Int)) = false := by rw [hlen]; simp
          have HL := Lib.hid hlen
          clear hlen
          by_cases hnm : s.toList = s'.toList
          · have hnb : (s.toList != s'.toList) = false := by rw [hnm]; simp
            have HNM : Hid (cb s s' = 0) := Lib.hid ((cb_zero s s').2 (by rw [hnm]; simp))
            have hnb2 : (s.toList == s'.toList) = true := by rw [hnm]; simp
            clear hnm
            have HV : Hid (cmpT 4 4 s s' 0 0 ts us (cmpL ts us) = cmpL ts us) := Lib.hid (by
              rw [cmpT, ci_self, ci_self, HL.out, ci_self, HNM.out]
              rfl)
            go_wp2_with fail
            obtain ⟨W2, hW2, hs2, hB2, hTa, hTb⟩ := box2 w #[Value.int IntKind.u8 4, Value.string s, Value.int IntKind.i64 0, Value.slice p ts.len c] #[Value.int IntKind.u8 4, Value.string s', Value.int IntKind.i64 0, Value.slice p' us.len d] 25 25
            rw [← hW2]
            have Z2 := Lib.hid hW2
            have TA : TT w w.heap.size 4 s 0 p c ts W2 := ⟨hB2, by omega, hTa 0 _ rfl, hTa 1 _ rfl, hTa 2 _ rfl, hTa 3 _ rfl, AT.out.below hB2⟩
            have TB : TT w (w.heap.size + 1) 4 s' 0 p' d us W2 := ⟨hB2, by omega, hTb 0 _ rfl, hTb 1 _ rfl, hTb 2 _ rfl, hTb 3 _ rfl, AT'.out.below hB2⟩
            clear hW2 hTa hTb
            have LTA := Lib.hid TA
            have LTB := Lib.hid TB
            obtain ⟨b, o, hp, hla⟩ := TA.tat
            obtain ⟨b', o', hq, hlb'⟩ := TB.tat
            have LA : Hid (ts.lies W2 b o) := Lib.hid hla
            have LB : Hid (us.lies W2 b' o') := Lib.hid hlb'
            have HP := Lib.hid hp
            have HQ := Lib.hid hq
            clear TA TB hla hlb' hp hq
            go_loopw [5] (fun s5 wr => ∃ (j : Nat), j ≤ ts.len ∧ s5 = .int .i64 j ∧ Hid (cmpL (ts.drop j) (us.drop j) = cmpL ts us) ∧ Hid (Below W2.heap.size W2 wr)) (fun i _ => ts.len - (intOf i).toNat)
            case atStart => exact ⟨0, Nat.zero_le _, rfl, Lib.hid rfl, Lib.hid (Below.refl _ _)⟩
            case round =>
              obtain ⟨j, hj, rfl, RC, BR⟩ := hrel
              have TA := LTA.out.below BR.out
              have TB := LTB.out.below BR.out
              have k3 := TA.c3
              by_cases hlt : j < ts.len
              · have hlt' : j < us.len := by have := HL.out; omega
                have hp' := Ts.some_of HP.out hlt
                have hq' := Ts.some_of HQ.out hlt'
                subst hp' hq'
                obtain ⟨k0', s0, n0, pp, cc, kids, rest, HD, EL, hsz1, hoke⟩ := Ts.elem LA.out BR.out OK.out.2.2.2.2.2.1 hlt
                obtain ⟨k1', s1, n1, pq, cd, kids', rest', HD', EL', hsz1', hoke'⟩ := Ts.elem LB.out BR.out OK'.out.2.2.2.2.2.1 hlt'
                have OKE := Lib.hid hoke
                have OKE' := Lib.hid hoke'
                have hsh1 := shape_drop j ts SH.out
                have hsh2 := shape_drop j us SH'.out
                rw [HD.out] at hsh1
                rw [HD'.out] at hsh2
                simp only [shapeL, Bool.and_eq_true] at hsh1 hsh2
                have hcmp : ∀ W, Ts.At W pp kids → Ts.At W pq kids' → Calls Tryz.prog 57 #[.agg #[.int .u8 k0', .string s0, .int .i64 n0, .slice pp kids.len cc], .agg #[.int .u8 k1', .string s1, .int .i64 n1, .slice pq kids'.len cd]] W fun e w' => e = .returned (.int .i64 (cmpT k0' k1' s0 s1 n0 n1 kids kids' (cmpL kids kids'))) ∧ Below W.heap.size W w' :=
                  fun W h h' => ih kids (by omega) (by omega) kids' k0' k1' s0 s1 n0 n1 W pp pq cc cd OKE.out OKE'.out (by rw [hsh1.1.1, hsh1.1.2]; rfl) (by rw [hsh2.1.1, hsh2.1.2]; rfl) h h'
                have CMP := Lib.hid hcmp
                obtain ⟨x, hx⟩ : ∃ x, cmpT k0' k1' s0 s1 n0 n1 kids kids' (cmpL kids kids') = x := ⟨_, rfl⟩
                have HX := Lib.hid hx
                have hr : cmpL ts us = or0 x (cmpL (ts.drop (j + 1)) (us.drop (j + 1))) := by
                  have h1 := RC.out
                  rw [HD.out, HD'.out] at h1
                  rw [Ts.drop_succ j ts HD.out, Ts.drop_succ j us HD'.out, ← h1, ← hx]
                  rfl
                have HR := Lib.hid hr
                clear hoke hoke' hcmp hx hr hsh1 hsh2
                go_wp2_with fail
                refine region_by_facts (fun W => TT w w.heap.size 4 s 0 (some ⟨b, o, none⟩) c ts W ∧ TT w (w.heap.size + 1) 4 s' 0 (some ⟨b', o', none⟩) d us W ∧ El b (o + j * 4) k0' s0 n0 pp cc kids W ∧ El b' (o' + j * 4) k1' s1 n1 pq cd kids' W ∧ Below W2.heap.size W2 W)
                  [fun v _ => v = .pointer (some ⟨w.heap.size, 3, none⟩), fun v _ => v = .slice (some ⟨b, o, none⟩) ts.len c, fun v _ => v = .int .i64 j, fun v _ => v = .pointer (some ⟨b, o + j * 4, none⟩), fun v _ => v = tv k0' s0 n0 pp kids.len cc, fun v _ => v = .pointer (some ⟨w.heap.size + 1, 3, none⟩), fun v _ => v = .slice (some ⟨b', o', none⟩) us.len d, fun v _ => v = .int .i64 j, fun v _ => v = .pointer (some ⟨b', o' + j * 4, none⟩), fun v _ => v = tv k1' s1 n1 pq kids'.len cd, fun v _ => v = .int .i64 x, fun v _ => v = .int .i64 x]
                  ⟨.eq _, .eq _, .eq _, .eq _, .eq _, .eq _, .eq _, .eq _, .eq _, .eq _, .eq _, .eq _, trivial⟩
                  (by kernel_rfl) (by kernel_rfl) (by kernel_rfl) ?h0 ?steps ?done
                case h0 => exact ⟨TA.drewN 1, TB.drewN 1, EL.below (below_drewN (Below.refl _ _) 1), EL'.below (below_drewN (Below.refl _ _) 1), below_drewN BR.out 1⟩
                case steps =>
                  refine ⟨?_, ?_, ?_, ?_, ?_, ?_, ?_, ?_, ?_, ?_, ?_, ?_, trivial⟩
                  · intro f W hI hd K hK
                    simp only [frameOf, Act.put, List.setIfInBounds_toArray, List.set_cons_zero, List.set_cons_succ]
                    go_simp
                    refine hK.out (.pointer (some ⟨w.heap.size, 3, none⟩)) _ W ?_ hI (Below.refl _ _) rfl
                    simp only [frameOf, Act.put, List.setIfInBounds_toArray, List.set_cons_zero, List.set_cons_succ]
                  · intro f W hI hd K hK
                    simp only [frameOf, Act.put, List.setIfInBounds_toArray, List.set_cons_zero, List.set_cons_succ]
                    have h0 : f 0 = .pointer (some ⟨w.heap.size, 3, none⟩) := hd 0 (by kernel_rfl)
                    have g3 := hI.1.c3
                    rw [h0]
                    go_simp
                    refine hK.out (.slice (some ⟨b, o, none⟩) ts.len c) _ W ?_ hI (Below.refl _ _) rfl
                    simp only [frameOf, Act.put, List.setIfInBounds_toArray, List.set_cons_zero, List.set_cons_succ, Nat.zero_add, Nat.reduceAdd, h0]
                  · intro f W hI hd K hK
                    simp only [frameOf, Act.put, List.setIfInBounds_toArray, List.set_cons_zero, List.set_cons_succ]
                    go_simp
                    refine hK.out (.int .i64 j) _ W ?_ hI (Below.refl _ _) rfl
                    simp only [frameOf, Act.put, List.setIfInBounds_toArray, List.set_cons_zero, List.set_cons_succ]
                  · intro f W hI hd K hK
                    simp only [frameOf, Act.put, List.setIfInBounds_toArray, List.set_cons_zero, List.set_cons_succ]
                    have h1 : f 1 = .slice (some ⟨b, o, none⟩) ts.len c := hd 1 (by kernel_rfl)
                    have h2 : f 2 = .int .i64 j := hd 2 (by kernel_rfl)
                    rw [h1, h2]
                    go_simp
                    refine hK.out (.pointer (some ⟨b, o + j * 4, none⟩)) _ W ?_ hI (Below.refl _ _) rfl
                    simp only [frameOf, Act.put, List.setIfInBounds_toArray, List.set_cons_zero, List.set_cons_succ, Nat.zero_add, Nat.reduceAdd, h1, h2]
                  · intro f W hI hd K hK
                    simp only [frameOf, Act.put, List.setIfInBounds_toArray, List.set_cons_zero, List.set_cons_succ]
                    have h3 : f 3 = .pointer (some ⟨b, o + j * 4, none⟩) := hd 3 (by kernel_rfl)
                    have g0 := hI.2.2.1.c0
                    have g1 := hI.2.2.1.c1
                    have g2 := hI.2.2.1.c2
                    have g3 := hI.2.2.1.c3
                    rw [h3]
                    go_simp
                    refine hK.out (tv k0' s0 n0 pp kids.len cc) _ W ?_ hI (Below.refl _ _) rfl
                    simp only [tv, frameOf, Act.put, List.setIfInBounds_toArray, List.set_cons_zero, List.set_cons_succ, Nat.zero_add, Nat.reduceAdd, h3]
                  · intro f W hI hd K hK
                    simp only [frameOf, Act.put, List.setIfInBounds_toArray, List.set_cons_zero, List.set_cons_succ]
                    go_simp
                    refine hK.out (.pointer (some ⟨w.heap.size + 1, 3, none⟩)) _ W ?_ hI (Below.refl _ _) rfl
                    simp only [frameOf, Act.put, List.setIfInBounds_toArray, List.set_cons_zero, List.set_cons_succ]
                  · intro f W hI hd K hK
                    simp only [frameOf, Act.put, List.setIfInBounds_toArray, List.set_cons_zero, List.set_cons_succ]
                    have h5 : f 5 = .pointer (some ⟨w.heap.size + 1, 3, none⟩) := hd 5 (by kernel_rfl)
                    have g3 := hI.2.1.c3
                    rw [h5]
                    go_simp
                    refine hK.out (.slice (some ⟨b', o', none⟩) us.len d) _ W ?_ hI (Below.refl _ _) rfl
                    simp only [frameOf, Act.put, List.setIfInBounds_toArray, List.set_cons_zero, List.set_cons_succ, Nat.zero_add, Nat.reduceAdd, h5]
                  · intro f W hI hd K hK
                    simp only [frameOf, Act.put, List.setIfInBounds_toArray, List.set_cons_zero, List.set_cons_succ]
                    go_simp
                    refine hK.out (.int .i64 j) _ W ?_ hI (Below.refl _ _) rfl
                    simp only [frameOf, Act.put, List.setIfInBounds_toArray, List.set_cons_zero, List.set_cons_succ]
                  · intro f W hI hd K hK
                    simp only [frameOf, Act.put, List.setIfInBounds_toArray, List.set_cons_zero, List.set_cons_succ]
                    have h6 : f 6 = .slice (some ⟨b', o', none⟩) us.len d := hd 6 (by kernel_rfl)
                    have h7 : f 7 = .int .i64 j := hd 7 (by kernel_rfl)
                    rw [h6, h7]
                    go_simp
                    refine hK.out (.pointer (some ⟨b', o' + j * 4, none⟩)) _ W ?_ hI (Below.refl _ _) rfl
                    simp only [frameOf, Act.put, List.setIfInBounds_toArray, List.set_cons_zero, List.set_cons_succ, Nat.zero_add, Nat.reduceAdd, h6, h7]
                  · intro f W hI hd K hK
                    simp only [frameOf, Act.put, List.setIfInBounds_toArray, List.set_cons_zero, List.set_cons_succ]
                    have h8 : f 8 = .pointer (some ⟨b', o' + j * 4, none⟩) := hd 8 (by kernel_rfl)
                    have g0 := hI.2.2.2.1.c0
                    have g1 := hI.2.2.2.1.c1
                    have g2 := hI.2.2.2.1.c2
                    have g3 := hI.2.2.2.1.c3
                    rw [h8]
                    go_simp
                    refine hK.out (tv k1' s1 n1 pq kids'.len cd) _ W ?_ hI (Below.refl _ _) rfl
                    simp only [tv, frameOf, Act.put, List.setIfInBounds_toArray, List.set_cons_zero, List.set_cons_succ, Nat.zero_add, Nat.reduceAdd, h8]
                  · intro f W hI hd K hK
                    simp only [frameOf, Act.put, List.setIfInBounds_toArray, List.set_cons_zero, List.set_cons_succ]
                    have h4 : f 4 = tv k0' s0 n0 pp kids.len cc := hd 4 (by kernel_rfl)
                    unfold tv at h4
                    have h9 : f 9 = tv k1' s1 n1 pq kids'.len cd := hd 9 (by kernel_rfl)
                    unfold tv at h9
                    rw [h4, h9]
                    go_simp
                    refine (CMP.out W hI.2.2.1.tat hI.2.2.2.1.tat).mono ?_
                    rintro e w' ⟨rfl, hB⟩
                    rw [HX.out]
                    refine hK.out (.int .i64 x) _ _ ?_ ⟨hI.1.below hB, hI.2.1.below hB, hI.2.2.1.below hB, hI.2.2.2.1.below hB, hI.2.2.2.2.trans (hB.mono hI.2.2.2.2.size)⟩ hB rfl
                    simp only [frameOf, Act.put, List.setIfInBounds_toArray, List.set_cons_zero, List.set_cons_succ, Nat.zero_add, Nat.reduceAdd, h4, h9]
                  · intro f W hI hd K hK
                    simp only [frameOf, Act.put, List.setIfInBounds_toArray, List.set_cons_zero, List.set_cons_succ]
                    have h10 : f 10 = .int .i64 x := hd 10 (by kernel_rfl)
                    rw [h10]
                    go_simp
                    refine hK.out (.int .i64 x) _ W ?_ hI (Below.refl _ _) rfl
                    simp only [frameOf, Act.put, List.setIfInBounds_toArray, List.set_cons_zero, List.set_cons_succ, Nat.zero_add, Nat.reduceAdd, h10]
                case done =>
                  intro f W hI hF
                  have h11 : f 11 = .int .i64 x := hF 11 (by decide)
                  simp only [frameOf, Act.put, List.setIfInBounds_toArray, List.set_cons_zero, List.set_cons_succ]
                  rw [h11]
                  clear hF h11
                  obtain ⟨-, -, -, -, hBW⟩ := hI
                  replace BR := Lib.hid hBW
                  clear hBW EL EL' TA TB k3
                  by_cases hz : (x != 0) = true
                  · go_wp2
                    have HZ := Lib.hid hz
                    clear hz
                    go_ret
                    refine ⟨?_, hB2.trans (BR.out.mono hB2.size)⟩
                    rw [HV.out, HR.out, or0, if_neg (by simpa using HZ.out)]
                    first | done | rfl
                  · rw [Bool.not_eq_true] at hz
                    have h0 : Hid (x = 0) := Lib.hid (by simpa using hz)
                    go_wp2
                    go_roundw
                    case rel => exact ⟨j + 1, by omega, by go_num, Lib.hid (by rw [HR.out, or0, if_pos h0.out]), BR⟩
                    case measure => simp [intOf]; omega
              · have hd := Ts.drop_end hlt
                have hr : cmpL ts us = 0 := by
                  have h1 := RC.out
                  rw [hd] at h1
                  rw [← h1]
                  cases us.drop j <;> rfl
                have HR := Lib.hid hr
                clear hr hd
                go_wp2
                go_ret
                refine ⟨?_, hB2.trans (BR.out.mono hB2.size)⟩
                rw [HV.out, HR.out]
                first | done | rfl
          · have hnb : (s.toList != s'.toList) = true := by simpa using hnm
            have hnb2 : (s.toList == s'.toList) = false := by simpa using hnm
            have HV : Hid (cmpT 4 4 s s' 0 0 ts us (cmpL ts us) = cb s s') := Lib.hid (by
              have h0 : cb s s' ≠ 0 := fun h => hnm (by simpa using (cb_zero s s').1 h)
              rw [cmpT, ci_self, ci_self, HL.out, ci_self]
              simp only [or0, if_true]
              rw [if_neg h0])
            clear hnm
            go_wp2_with fail
            obtain ⟨W2, hW2, hs2, hB2, hTa, hTb⟩ := box2 w #[Value.int IntKind.u8 4, Value.string s, Value.int IntKind.i64 0, Value.slice p ts.len c] #[Value.int IntKind.u8 4, Value.string s', Value.int IntKind.i64 0, Value.slice p' us.len d] 25 25
            rw [← hW2]
            have Z2 := Lib.hid hW2
            clear hW2 hTa hTb
            refine (rtexts_any s s' hs hs' _).mono ?_
            rintro e w' ⟨rfl, q, rfl⟩
            go_wp2
            go_ret
            exact ⟨by rw [HV.out]; first | done | rfl, below_drewN hB2 _⟩
        · have hlb : ((ts.len : Int) != (us.len : Int)) = true := by simp; omega
          have HV : Hid (cmpT 4 4 s s' 0 0 ts us (cmpL ts us) = ci ts.len us.len) := Lib.hid (by
            have h0 : ci ts.len us.len ≠ 0 := fun h => hlen (ci_zero h)
            rw [cmpT, ci_self, ci_self]
            simp only [or0, if_true]
            rw [if_neg h0])
          clear hlen
          go_wp2_with fail
          obtain ⟨W2, hW2, hs2, hB2, hTa, hTb⟩ := box2 w #[Value.int IntKind.u8 4, Value.string s, Value.int IntKind.i64 0, Value.slice p ts.len c] #[Value.int IntKind.u8 4, Value.string s', Value.int IntKind.i64 0, Value.slice p' us.len d] 25 25
          rw [← hW2]
          have Z2 := Lib.hid hW2
          clear hW2 hTa hTb
          refine (rnum_any _ _ _).mono ?_
          rintro e w' ⟨rfl, rfl⟩
          go_wp2
          go_ret
          exact ⟨by rw [HV.out]; first | done | rfl, hB2⟩
    · have hkk2 : (k != k') = true := by simpa using hkk
      have HV : Hid (cmpT k k' s s' n n' ts us (cmpL ts us) = ci k k') := Lib.hid (by
        have h0 : ci k k' ≠ 0 := fun h => hkk (by simpa using (ci_zero_iff k k').1 h)
        rw [cmpT, or0, if_neg h0])
      have hw1 : IntKind.i64.wrap k = k := by rw [IntKind.wrap_i64]; omega
      have hw2 : IntKind.i64.wrap k' = k' := by rw [IntKind.wrap_i64]; omega
      clear hkk hk1 hk2
      go_wp2_with fail
      obtain ⟨W2, hW2, hs2, hB2, hTa, hTb⟩ := box2 w #[Value.int IntKind.u8 k, Value.string s, Value.int IntKind.i64 n, Value.slice p ts.len c] #[Value.int IntKind.u8 k', Value.string s', Value.int IntKind.i64 n', Value.slice p' us.len d] 25 25
      rw [← hW2]
      have Z2 := Lib.hid hW2
      clear hW2 hTa hTb
      refine (rnum_any _ _ _).mono ?_
      rintro e w' ⟨rfl, rfl⟩
      go_wp2
      go_ret
      exact ⟨by rw [HV.out]; first | done | rfl, hB2⟩

end Go.Proofs.YtnmhnaanpjlniaaGreat
