/-
  The law TermVars, walked.
-/
import Derived.Test.YtlhclblekpngnaaTw
namespace Go.Proofs.Ytlhclblekpngnaa
open Go.RowKit

set_option maxRecDepth 100000 in
set_option maxHeartbeats 2000000 in
theorem termVars_true (w : World) (ka : Int) (sa : ByteArray) (na : Int) (pa : Option Addr) (ca : Nat) (ta : Ts) (kb : Int) (sb : ByteArray) (nb : Int) (pb : Option Addr) (cb : Nat) (tb : Ts)
    (hoka : Ts.ok (.cons ka sa na pa ca ta .nil)) (hata : Ts.At w pa ta) (hokb : Ts.ok (.cons kb sb nb pb cb tb .nil)) (hatb : Ts.At w pb tb) :
    Calls Try.prog 6 #[tv ka sa na pa ta.len ca, tv kb sb nb pb tb.len cb] w fun e w' => e = .returned (.bool true) ∧ Below w.heap.size w w' := by
  unfold tv
  have OKA := Lib.hid hoka
  have OKB := Lib.hid hokb
  have ATA := Lib.hid hata
  have ATB := Lib.hid hatb
  have hok2 : Hid (Ts.ok (.cons ka sa na pa ca ta (.cons kb sb nb pb cb tb .nil))) := Lib.hid ⟨hoka.1, hoka.2.1, hoka.2.2.1, hoka.2.2.2.1, hoka.2.2.2.2.1, hoka.2.2.2.2.2.1, hokb⟩
  clear hoka hokb hata hatb
  go_enter Try.func6, Try.ntmps6
  go_wp2_with fail
  obtain ⟨W0, hW0, hs0, hA0, hTa, hTb⟩ := box2 w #[Value.int IntKind.u8 ka, Value.string sa, Value.int IntKind.i64 na, Value.slice pa ta.len ca] #[Value.int IntKind.u8 kb, Value.string sb, Value.int IntKind.i64 nb, Value.slice pb tb.len cb] 24 24
  rw [← hW0]
  have Z0 := Lib.hid hW0
  clear hW0
  have TA : TT w w.heap.size ka sa na pa ca ta W0 := ⟨hA0, by omega, hTa 0 _ rfl, hTa 1 _ rfl, hTa 2 _ rfl, hTa 3 _ rfl, ATA.out.below hA0⟩
  have TB : TT w (w.heap.size + 1) kb sb nb pb cb tb W0 := ⟨hA0, by omega, hTb 0 _ rfl, hTb 1 _ rfl, hTb 2 _ rfl, hTb 3 _ rfl, ATB.out.below hA0⟩
  obtain ⟨W1, hW1, hs1, hA1, hc1⟩ := box1 W0 #[Value.int IntKind.u8 ka, Value.string sa, Value.int IntKind.i64 na, Value.slice pa ta.len ca, Value.int IntKind.u8 kb, Value.string sb, Value.int IntKind.i64 nb, Value.slice pb tb.len cb] 24
  rw [← hW1]
  have Z1 := Lib.hid hW1
  clear hW1 hTa hTb hA0
  replace TA := TA.below hA1
  replace TB := TB.below hA1
  refine (great_any (.cons ka sa na pa ca ta (.cons kb sb nb pb cb tb .nil)) W1 _ 2 ((show w.heap.size + 1 + 1 = W0.heap.size by omega) ▸ lies_two rfl hc1 TA.tat TB.tat) hok2.out (by simp [Ts.len])).mono ?_
  rintro e w2 ⟨rfl, q, hq⟩
  replace TA := TA.below (W' := w2) (by rw [hq]; exact below_drewN (Below.refl _ _) q)
  replace TB := TB.below (W' := w2) (by rw [hq]; exact below_drewN (Below.refl _ _) q)
  clear hq hc1 hA1
  by_cases hg : decide (1000 < manyP (.cons ka sa na pa ca ta (.cons kb sb nb pb cb tb .nil)) 0) = true
  · rw [hg]
    clear hg
    go_wp2_with fail
    refine (wakes_any _).mono ?_
    rintro e w3 ⟨rfl, hB⟩
    replace TA := TA.below hB
    go_wp2
    go_ret
    exact ⟨rfl, TA.B⟩
  · rw [Bool.not_eq_true] at hg
    have hsz := many_two _ _ _ _ _ _ _ _ _ _ _ _ hg
    rw [hg]
    clear hg
    obtain ⟨xs, hxs⟩ : ∃ xs, xs = numsOf ((nodesOf (.cons ka sa na pa ca ta .nil)).map Ts.mark) := ⟨_, rfl⟩
    obtain ⟨ys, hys⟩ : ∃ ys, ys = numsOf ((nodesOf (.cons kb sb nb pb cb tb .nil)).map Ts.mark) := ⟨_, rfl⟩
    obtain ⟨zs, hzs⟩ : ∃ zs, zs = numsOf ((nodesOf (.cons ka sa na pa ca ta (.cons kb sb nb pb cb tb .nil))).map Ts.mark) := ⟨_, rfl⟩
    have XS := Lib.hid hxs
    have YS := Lib.hid hys
    have ZS := Lib.hid (hzs.trans (by rw [nodesOf_two, List.map_append]))
    have ZS0 := Lib.hid hzs
    clear hxs hys hzs
    go_wp2_with fail
    refine region_by_facts (fun W => TT w w.heap.size ka sa na pa ca ta W ∧ TT w (w.heap.size + 1) kb sb nb pb cb tb W)
      [fun v _ => v = tv ka sa na pa ta.len ca, ListOf (.cons ka sa na pa ca ta .nil), VarsOf xs, fun v _ => v = tv kb sb nb pb tb.len cb, ListOf (.cons kb sb nb pb cb tb .nil), VarsOf ys,
        fun v _ => v = tv ka sa na pa ta.len ca, fun v _ => v = tv kb sb nb pb tb.len cb, ListOf (.cons ka sa na pa ca ta (.cons kb sb nb pb cb tb .nil)), VarsOf zs, VarsOf xs, VarsOf ys, VarsOf zs]
      ⟨.eq _, fun _ _ _ h => h.below, fun _ _ _ h => h.below, .eq _, fun _ _ _ h => h.below, fun _ _ _ h => h.below, .eq _, .eq _, fun _ _ _ h => h.below, fun _ _ _ h => h.below, fun _ _ _ h => h.below, fun _ _ _ h => h.below, fun _ _ _ h => h.below, trivial⟩
      (by kernel_rfl) (by kernel_rfl) (by kernel_rfl) ?h0 ?steps ?done
    case h0 => exact ⟨TA.below (below_drewN (Below.refl _ _) 1), TB.below (below_drewN (Below.refl _ _) 1)⟩
    case steps =>
      refine ⟨?_, ?_, ?_, ?_, ?_, ?_, ?_, ?_, ?_, ?_, ?_, ?_, ?_, trivial⟩
      · intro f W hI hd K hK
        have k0 := TT.c0 hI.1
        have k1 := TT.c1 hI.1
        have k2 := TT.c2 hI.1
        have k3 := TT.c3 hI.1
        simp only [frameOf, Act.put, List.setIfInBounds_toArray, List.set_cons_zero, List.set_cons_succ]
        go_simp
        refine hK.out (tv ka sa na pa ta.len ca) _ W ?_ hI (Below.refl _ _) rfl
        simp only [frameOf, Act.put, tv, List.setIfInBounds_toArray, List.set_cons_zero, List.set_cons_succ]
      · intro f W hI hd K hK
        have h0 : f 0 = tv ka sa na pa ta.len ca := hd 0 (by kernel_rfl)
        unfold tv at h0
        simp only [frameOf, Act.put, List.setIfInBounds_toArray, List.set_cons_zero, List.set_cons_succ]
        rw [h0]
        go_simp
        refine hK.out (.slice (some ⟨W.heap.size, 0, none⟩) 1 1) _ _ ?_ ⟨hI.1.alloc _, hI.2.alloc _⟩ ((Below.refl _ _).alloc (Nat.le_refl _) _) (ListOf.one hI.1.tat _)
        simp only [frameOf, Act.put, List.setIfInBounds_toArray, List.set_cons_zero, List.set_cons_succ, Nat.zero_add, Nat.reduceAdd, h0]
      · intro f W hI hd K hK
        have h1 : ListOf (.cons ka sa na pa ca ta .nil) (f 1) W := hd 1 (by kernel_rfl)
        simp only [frameOf, Act.put, List.setIfInBounds_toArray, List.set_cons_zero, List.set_cons_succ]
        go_simp
        refine (vars_of (by simp [Ts.size]; omega) OKA.out h1).mono ?_
        rintro e w' ⟨u, rfl, hu, hB⟩
        rw [← XS.out] at hu
        refine hK.out u _ _ ?_ ⟨hI.1.below hB, hI.2.below hB⟩ hB hu
        simp only [frameOf, Act.put, List.setIfInBounds_toArray, List.set_cons_zero, List.set_cons_succ]
      · intro f W hI hd K hK
        have k0 := TT.c0 hI.2
        have k1 := TT.c1 hI.2
        have k2 := TT.c2 hI.2
        have k3 := TT.c3 hI.2
        simp only [frameOf, Act.put, List.setIfInBounds_toArray, List.set_cons_zero, List.set_cons_succ]
        go_simp
        refine hK.out (tv kb sb nb pb tb.len cb) _ W ?_ hI (Below.refl _ _) rfl
        simp only [frameOf, Act.put, tv, List.setIfInBounds_toArray, List.set_cons_zero, List.set_cons_succ]
      · intro f W hI hd K hK
        have h3 : f 3 = tv kb sb nb pb tb.len cb := hd 3 (by kernel_rfl)
        unfold tv at h3
        simp only [frameOf, Act.put, List.setIfInBounds_toArray, List.set_cons_zero, List.set_cons_succ]
        rw [h3]
        go_simp
        refine hK.out (.slice (some ⟨W.heap.size, 0, none⟩) 1 1) _ _ ?_ ⟨hI.1.alloc _, hI.2.alloc _⟩ ((Below.refl _ _).alloc (Nat.le_refl _) _) (ListOf.one hI.2.tat _)
        simp only [frameOf, Act.put, List.setIfInBounds_toArray, List.set_cons_zero, List.set_cons_succ, Nat.zero_add, Nat.reduceAdd, h3]
      · intro f W hI hd K hK
        have h4 : ListOf (.cons kb sb nb pb cb tb .nil) (f 4) W := hd 4 (by kernel_rfl)
        simp only [frameOf, Act.put, List.setIfInBounds_toArray, List.set_cons_zero, List.set_cons_succ]
        go_simp
        refine (vars_of (by simp [Ts.size]; omega) OKB.out h4).mono ?_
        rintro e w' ⟨u, rfl, hu, hB⟩
        rw [← YS.out] at hu
        refine hK.out u _ _ ?_ ⟨hI.1.below hB, hI.2.below hB⟩ hB hu
        simp only [frameOf, Act.put, List.setIfInBounds_toArray, List.set_cons_zero, List.set_cons_succ]
      · intro f W hI hd K hK
        have k0 := TT.c0 hI.1
        have k1 := TT.c1 hI.1
        have k2 := TT.c2 hI.1
        have k3 := TT.c3 hI.1
        simp only [frameOf, Act.put, List.setIfInBounds_toArray, List.set_cons_zero, List.set_cons_succ]
        go_simp
        refine hK.out (tv ka sa na pa ta.len ca) _ W ?_ hI (Below.refl _ _) rfl
        simp only [frameOf, Act.put, tv, List.setIfInBounds_toArray, List.set_cons_zero, List.set_cons_succ]
      · intro f W hI hd K hK
        have k0 := TT.c0 hI.2
        have k1 := TT.c1 hI.2
        have k2 := TT.c2 hI.2
        have k3 := TT.c3 hI.2
        simp only [frameOf, Act.put, List.setIfInBounds_toArray, List.set_cons_zero, List.set_cons_succ]
        go_simp
        refine hK.out (tv kb sb nb pb tb.len cb) _ W ?_ hI (Below.refl _ _) rfl
        simp only [frameOf, Act.put, tv, List.setIfInBounds_toArray, List.set_cons_zero, List.set_cons_succ]
      · intro f W hI hd K hK
        have h6 : f 6 = tv ka sa na pa ta.len ca := hd 6 (by kernel_rfl)
        have h7 : f 7 = tv kb sb nb pb tb.len cb := hd 7 (by kernel_rfl)
        unfold tv at h6 h7
        simp only [frameOf, Act.put, List.setIfInBounds_toArray, List.set_cons_zero, List.set_cons_succ]
        rw [h6, h7]
        go_simp
        refine hK.out (.slice (some ⟨W.heap.size, 0, none⟩) 2 2) _ _ ?_ ⟨hI.1.alloc _, hI.2.alloc _⟩ ((Below.refl _ _).alloc (Nat.le_refl _) _) (ListOf.two hI.1.tat hI.2.tat _)
        simp only [frameOf, Act.put, List.setIfInBounds_toArray, List.set_cons_zero, List.set_cons_succ, Nat.zero_add, Nat.reduceAdd, h6, h7]
      · intro f W hI hd K hK
        have h8 : ListOf (.cons ka sa na pa ca ta (.cons kb sb nb pb cb tb .nil)) (f 8) W := hd 8 (by kernel_rfl)
        simp only [frameOf, Act.put, List.setIfInBounds_toArray, List.set_cons_zero, List.set_cons_succ]
        go_simp
        refine (vars_of (by simp [Ts.size]; omega) hok2.out h8).mono ?_
        rintro e w' ⟨u, rfl, hu, hB⟩
        rw [← ZS0.out] at hu
        refine hK.out u _ _ ?_ ⟨hI.1.below hB, hI.2.below hB⟩ hB hu
        simp only [frameOf, Act.put, List.setIfInBounds_toArray, List.set_cons_zero, List.set_cons_succ]
      · intro f W hI hd K hK
        have h2 : VarsOf xs (f 2) W := hd 2 (by kernel_rfl)
        simp only [frameOf, Act.put, List.setIfInBounds_toArray, List.set_cons_zero, List.set_cons_succ]
        go_simp
        refine hK.out (f 2) _ W ?_ hI (Below.refl _ _) h2
        simp only [frameOf, Act.put, List.setIfInBounds_toArray, List.set_cons_zero, List.set_cons_succ]
      · intro f W hI hd K hK
        have h5 : VarsOf ys (f 5) W := hd 5 (by kernel_rfl)
        simp only [frameOf, Act.put, List.setIfInBounds_toArray, List.set_cons_zero, List.set_cons_succ]
        go_simp
        refine hK.out (f 5) _ W ?_ hI (Below.refl _ _) h5
        simp only [frameOf, Act.put, List.setIfInBounds_toArray, List.set_cons_zero, List.set_cons_succ]
      · intro f W hI hd K hK
        have h9 : VarsOf zs (f 9) W := hd 9 (by kernel_rfl)
        simp only [frameOf, Act.put, List.setIfInBounds_toArray, List.set_cons_zero, List.set_cons_succ]
        go_simp
        refine hK.out (f 9) _ W ?_ hI (Below.refl _ _) h9
        simp only [frameOf, Act.put, List.setIfInBounds_toArray, List.set_cons_zero, List.set_cons_succ]
    case done =>
    intro f W hI hF
    obtain ⟨px, cx, e10, hix, hcx, hcx'⟩ : VarsOf xs (f 10) W := hF 10 (by decide)
    obtain ⟨py, cy, e11, hiy, hcy, hcy'⟩ : VarsOf ys (f 11) W := hF 11 (by decide)
    obtain ⟨pz, cz, e12, hiz, hcz, hcz'⟩ : VarsOf zs (f 12) W := hF 12 (by decide)
    replace TA := hI.1
    replace TB := hI.2
    simp only [frameOf, Act.put, List.setIfInBounds_toArray, List.set_cons_zero, List.set_cons_succ]
    rw [e10, e11, e12]
    have IX := Lib.hid hix
    have IY := Lib.hid hiy
    have IZ := Lib.hid hiz
    clear hI hF e10 e11 e12 hix hiy hiz
    have hnz : zs.length ≤ 1000 := by
      rw [ZS.out]
      have h1 := numsOf_length ((nodesOf (.cons ka sa na pa ca ta .nil)).map Ts.mark ++ (nodesOf (.cons kb sb nb pb cb tb .nil)).map Ts.mark)
      rw [List.length_append, List.length_map, List.length_map, nodesOf_length, nodesOf_length] at h1
      simp only [Ts.size] at h1
      omega
    have hpre : zs.take xs.length = xs := by
      obtain ⟨r, hr⟩ := numsOf_pre ((nodesOf (.cons ka sa na pa ca ta .nil)).map Ts.mark) ((nodesOf (.cons kb sb nb pb cb tb .nil)).map Ts.mark)
      rw [ZS.out, hr, ← XS.out, List.take_left]
    have hxz : xs.length ≤ zs.length := by
      have := congrArg List.length hpre
      rw [List.length_take] at this
      omega
    have hyz : ∀ n ∈ ys, n ∈ zs := fun n hn => by
      rw [YS.out, numsOf_mem] at hn
      rw [ZS.out, numsOf_mem]
      obtain ⟨x, hx, h⟩ := hn
      exact ⟨x, List.mem_append_right _ hx, h⟩
    have hzxy : ∀ n ∈ zs, n ∈ xs ∨ n ∈ ys := fun n hn => by
      rw [ZS.out, numsOf_mem] at hn
      obtain ⟨x, hx, h⟩ := hn
      rw [XS.out, YS.out, numsOf_mem, numsOf_mem]
      rcases List.mem_append.1 hx with hx | hx
      · exact .inl ⟨x, hx, h⟩
      · exact .inr ⟨x, hx, h⟩
    have hnd : zs.Nodup := by rw [ZS.out]; exact numsOf_nodup _
    have hlx : xs.length ≤ 1000 := by omega
    have hly : ys.length ≤ 1000 := by
      rw [YS.out]
      have h1 := numsOf_length ((nodesOf (.cons kb sb nb pb cb tb .nil)).map Ts.mark)
      rw [List.length_map, nodesOf_length] at h1
      simp only [Ts.size] at h1
      omega
    have hnov : noVar (nodesOf (.cons ka sa na pa ca ta .nil)) = (xs.length == 0) := by rw [noVar_marks, numsOf_nil, ← XS.out]
    have E1 := Lib.hid hpre
    have E2 := Lib.hid hyz
    have E3 := Lib.hid hzxy
    have E4 := Lib.hid hnd
    have E5 := Lib.hid hnov
    clear hpre hyz hzxy hnd hnov
    go_wp2_with fail
    refine (numbers_at (zs.take xs.length) xs _ _ (by rw [List.length_take]; omega) rfl W pz px cz cx (by rw [List.length_take]; omega) (by omega) (IZ.out.take _) IX.out).mono ?_
    rintro e w9 ⟨rfl, q, hq⟩
    rw [decide_eq_true E1.out]
    have hdl : decide (zs.length < xs.length) = false := decide_eq_false (by omega)
    simp only [hdl]
    have hB : Below W.heap.size W w9 := by rw [hq]; exact below_drewN (Below.refl _ _) q
    replace TA := TA.below hB
    replace TB := TB.below hB
    replace IX := Lib.hid (IX.out.below hB)
    replace IY := Lib.hid (IY.out.below hB)
    replace IZ := Lib.hid (IZ.out.below hB)
    clear hB hq q
    obtain ⟨bx, ox, hpx, hcx0⟩ := id IX.out
    obtain ⟨by', oy, hpy, hcy0⟩ := id IY.out
    obtain ⟨bz, oz, hpz, hcz0⟩ := id IZ.out
    have CX := Lib.hid hcx0
    have CY := Lib.hid hcy0
    have CZ := Lib.hid hcz0
    clear hcx0 hcy0 hcz0
    go_wp2_with fail
    go_loop [8] (fun i => ∃ (j : Nat), j ≤ ys.length ∧ i = .int .i64 j) (fun i => ys.length - (intOf i).toNat)
    case atStart => exact ⟨0, Nat.zero_le _, rfl⟩
    case round =>
      obtain ⟨j, hj, rfl⟩ := hrel
      by_cases hlt : j < ys.length
      · have hpy' := some_of_ints hpy hlt
        obtain ⟨y, hy⟩ : ∃ y, y = ys[j] := ⟨_, rfl⟩
        have hc : w9.cell? ⟨by', oy + j, none⟩ = some (.int .i64 y) := by rw [hy]; exact CY.out j hlt
        have hyz : decide (y ∈ zs) = true := decide_eq_true (E2.out y (by rw [hy]; exact List.getElem_mem hlt))
        have HYZ := Lib.hid hyz
        have HPY := Lib.hid hpy
        have HPZ := Lib.hid hpz
        have HPX := Lib.hid hpx
        clear hyz hy hpy hpz hpx
        subst hpy'
        go_wp2_with fail
        refine (in_any zs y w9 pz cz (by omega) IZ.out).mono ?_
        rintro e w10 ⟨rfl, rfl⟩
        rw [HYZ.out]
        go_wp2
        go_round
        case rel =>
          exact ⟨j + 1, by omega, by go_num⟩
        case measure => simp [intOf]; omega
      · have HPY := Lib.hid hpy
        have HPZ := Lib.hid hpz
        have HPX := Lib.hid hpx
        clear hpy hpz hpx
        go_wp2_with fail
        go_loopw [9] (fun i wr => ∃ (j : Nat), j ≤ zs.length ∧ i = .int .i64 j ∧ ∃ q, wr = w9.drewN q) (fun i _ => zs.length - (intOf i).toNat)
        case atStart => exact ⟨0, Nat.zero_le _, rfl, 0, rfl⟩
        case round =>
          rename_i wr _
          obtain ⟨j, hj, rfl, q, hq⟩ := hrel
          have hB : Below w9.heap.size w9 wr := by rw [hq]; exact below_drewN (Below.refl _ _) q
          have TA2 := TA.below hB
          have IX2 := Lib.hid (IX.out.below hB)
          have IY2 := Lib.hid (IY.out.below hB)
          have IZ2 := Lib.hid (IZ.out.below hB)
          by_cases hlt : j < zs.length
          · have hpz' := some_of_ints HPZ.out hlt
            obtain ⟨z, hz⟩ : ∃ z, z = zs[j] := ⟨_, rfl⟩
            have hc : wr.cell? ⟨bz, oz + j, none⟩ = some (.int .i64 z) := by rw [hq, hz]; exact CZ.out j hlt
            have hzm : z ∈ zs := by rw [hz]; exact List.getElem_mem hlt
            have hno : decide (z ∈ zs.take j) = false := decide_eq_false fun hm => by
              obtain ⟨m, hm1, hm2⟩ := List.mem_take_iff_getElem.1 hm
              exact List.pairwise_iff_getElem.1 E4.out m j (by omega) hlt (by omega) (hm2.trans hz)
            have hor := E3.out z hzm
            have HNO := Lib.hid hno
            have HOR := Lib.hid hor
            have HQ := Lib.hid hq
            clear hno hz hzm hor hB hq
            subst hpz'
            by_cases hx : z ∈ xs
            · have C1 := Lib.hid (in_is wr xs xs.length z true px cx rfl (decide_eq_true hx) (by omega) IX2.out)
              have C2 := Lib.hid (in_is wr (zs.take j) j z false (some ⟨bz, oz, none⟩) cz (by rw [List.length_take]; omega) HNO.out (by rw [List.length_take]; omega) (IZ2.out.take j))
              clear hx
              go_wp2_with fail
              go_quiet ((first
                | (go_at_call_of 32 (Value.slice px xs.length cx); refine Calls.quiet_of_same (C1.out _ ?_); rfl)
                | (go_at_call_of 32 (Value.slice (some ⟨bz, oz, none⟩) j cz); refine Calls.quiet_of_same (C2.out _ ?_); rfl)))
              go_wp2
              go_roundw
              case rel =>
                exact ⟨j + 1, by omega, by go_num, q + nq, by rw [HQ.out, World.drewN_drewN]⟩
              case measure => simp [intOf]; omega
            · have hy : z ∈ ys := HOR.out.resolve_left hx
              have C1 := Lib.hid (in_is wr xs xs.length z false px cx rfl (decide_eq_false hx) (by omega) IX2.out)
              have C3 := Lib.hid (in_is wr ys ys.length z true py cy rfl (decide_eq_true hy) (by omega) IY2.out)
              have C2 := Lib.hid (in_is wr (zs.take j) j z false (some ⟨bz, oz, none⟩) cz (by rw [List.length_take]; omega) HNO.out (by rw [List.length_take]; omega) (IZ2.out.take j))
              clear hx hy
              go_wp2_with fail
              go_quiet ((first
                | (go_at_call_of 32 (Value.slice px xs.length cx); refine Calls.quiet_of_same (C1.out _ ?_); rfl)
                | (go_at_call_of 32 (Value.slice py ys.length cy); refine Calls.quiet_of_same (C3.out _ ?_); rfl)
                | (go_at_call_of 32 (Value.slice (some ⟨bz, oz, none⟩) j cz); refine Calls.quiet_of_same (C2.out _ ?_); rfl)))
              go_wp2
              go_roundw
              case rel =>
                exact ⟨j + 1, by omega, by go_num, q + nq, by rw [HQ.out, World.drewN_drewN]⟩
              case measure => simp [intOf]; omega
          · clear hq
            have k0 := TA2.c0
            have k1 := TA2.c1
            have k2 := TA2.c2
            have k3 := TA2.c3
            go_wp2_with fail
            refine (tground_any ta (by omega) OKA.out.2.2.2.2.2.1 ka sa na _ pa ca OKA.out.1 OKA.out.2.1 OKA.out.2.2.1 OKA.out.2.2.2.1 OKA.out.2.2.2.2.1 TA2.tat).mono ?_
            rintro e w10 ⟨rfl, hB2⟩
            rw [E5.out]
            replace TA2 := TA2.below hB2
            clear hB2 k0 k1 k2 k3
            by_cases hx0 : xs.length = 0
            · rw [hx0]
              go_wp2_with fail
              refine (wakes_any _).mono ?_
              rintro e w11 ⟨rfl, hB2⟩
              replace TA2 := TA2.below hB2
              go_wp2
              go_ret
              exact ⟨rfl, TA2.B⟩
            · have h1 : (xs.length == 0) = false := beq_eq_false_iff_ne.2 hx0
              have h2 : ((xs.length : Int) == 0) = false := beq_eq_false_iff_ne.2 (by omega)
              rw [h1]
              go_wp2_with fail
              refine (wakes_any _).mono ?_
              rintro e w11 ⟨rfl, hB2⟩
              replace TA2 := TA2.below hB2
              go_wp2
              go_ret
              exact ⟨rfl, TA2.B⟩
end Go.Proofs.Ytlhclblekpngnaa
