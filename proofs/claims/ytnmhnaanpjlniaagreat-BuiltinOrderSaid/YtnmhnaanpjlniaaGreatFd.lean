import Derived.Test.YtnmhnaanpjlniaaGreatTf
import Derived.Deep.CutBlock
import Derived.BigQuiet
import Derived.Test.YtnmhnaanpjlniaaGreatTw
import Derived.Test.YtnmhnaanpjlniaaGreatXd
import Derived.Test.YtnmhnaanpjlniaaGreatXl
/-
  How two terms stand as far as that is known: the program's and the document's. (Written by gen_fd.py.)
-/
namespace Go.Proofs.YtnmhnaanpjlniaaGreat
open Go.RowKit

def ordH (k k' : Int) (s s' : ByteArray) (n n' : Int) (ts us : Ts) (r : Int × Bool) : Int × Bool :=
  if ((k == 1) && (k' == 1)) = true then (0, n == n')
  else if ((k == 4) && ((k' == 4) && ((s.toList == s'.toList) && decide (ts.len = us.len)))) = true then r else (cmpT k k' s s' n n' ts us (cmpL ts us), true)

def ordL : Ts → Ts → Int × Bool
  | .cons k s n _ _ ts r, .cons k' s' n' _ _ us r' =>
    if ((ordH k k' s s' n n' ts us (ordL ts us)).1 != 0 || !(ordH k k' s s' n n' ts us (ordL ts us)).2) = true then ordH k k' s s' n n' ts us (ordL ts us) else ordL r r'
  | _, _ => (0, true)

set_option maxRecDepth 100000 in
set_option maxHeartbeats 2000000 in
theorem tord_any : ∀ (sz : Nat) (ts us : Ts), ts.size < sz → ts.size ≤ 1000000 → ∀ (k k' : Int) (s s' : ByteArray) (n n' : Int) (w : World) (p p' : Option Addr) (c c' : Nat), Ts.ok (.cons k s n p c ts .nil) → Ts.ok (.cons k' s' n' p' c' us .nil) → Ts.At w p ts → Ts.At w p' us →
    Calls Tryz.prog 19 #[.agg #[.int .u8 k, .string s, .int .i64 n, .slice p ts.len c], .agg #[.int .u8 k', .string s', .int .i64 n', .slice p' us.len c']] w fun e w' =>
      e = .returned (.tuple #[.int .i64 (ordH k k' s s' n n' ts us (ordL ts us)).1, .bool (ordH k k' s s' n n' ts us (ordL ts us)).2]) ∧ Below w.heap.size w w' := by
  intro sz
  induction sz with
  | zero => intro ts us h; omega
  | succ sz ih =>
    intro ts us hsz hbig k k' s s' n n' w p p' c c' hok hok' hat hat'
    have IH := Lib.hid ih
    clear ih
    have OK := Lib.hid hok
    have OK' := Lib.hid hok'
    have hlen : ts.len ≤ 9223372036854775807 := by have := hok.2.2.2.1; omega
    have hlen' : us.len ≤ 9223372036854775807 := by have := hok'.2.2.2.1; omega
    have hbig' := Lib.hid hbig
    clear hok hok'
    obtain ⟨W2, hW2, hsz2, hB2, hc1, hc2⟩ := box2 w #[.int .u8 k, .string s, .int .i64 n, .slice p ts.len c] #[.int .u8 k', .string s', .int .i64 n', .slice p' us.len c'] 25 25
    have a0 : W2.cell? ⟨w.heap.size, 0, none⟩ = some (.int .u8 k) := hc1 0 _ rfl
    have a1 : W2.cell? ⟨w.heap.size, 1, none⟩ = some (.string s) := hc1 1 _ rfl
    have a2 : W2.cell? ⟨w.heap.size, 2, none⟩ = some (.int .i64 n) := hc1 2 _ rfl
    have a3 : W2.cell? ⟨w.heap.size, 3, none⟩ = some (.slice p ts.len c) := hc1 3 _ rfl
    have b0 : W2.cell? ⟨w.heap.size + 1, 0, none⟩ = some (.int .u8 k') := hc2 0 _ rfl
    have b1 : W2.cell? ⟨w.heap.size + 1, 1, none⟩ = some (.string s') := hc2 1 _ rfl
    have b2 : W2.cell? ⟨w.heap.size + 1, 2, none⟩ = some (.int .i64 n') := hc2 2 _ rfl
    have b3 : W2.cell? ⟨w.heap.size + 1, 3, none⟩ = some (.slice p' us.len c') := hc2 3 _ rfl
    have BW := Lib.hid hB2
    have AT := Lib.hid (hat.below hB2)
    have AT' := Lib.hid (hat'.below hB2)
    have Z := Lib.hid hW2
    have HS2 := Lib.hid hsz2
    clear hB2 hc1 hc2 hW2 hat hat' hsz2
    by_cases hv : ((k == 1) && (k' == 1)) = true
    · have HO : Hid (ordH k k' s s' n n' ts us (ordL ts us) = (0, n == n')) := Lib.hid (by unfold ordH; rw [if_pos hv])
      rw [Bool.and_eq_true] at hv
      obtain ⟨hv1, hv2⟩ := hv
      rw [HO.out]
      go_enter Tryz.func19, Tryz.ntmps19
      go_upto_region 1 with fail
      rw [← Z.out]
      go_upto_region 2 with fail
      go_quiet (fail)
      go_wp2
      go_ret2
      exact ⟨rfl, below_drewN BW.out _⟩
    have NV := Lib.hid hv
    by_cases hq : ((k == 4) && ((k' == 4) && ((s.toList == s'.toList) && decide (ts.len = us.len)))) = true
    · have HO : Hid (ordH k k' s s' n n' ts us (ordL ts us) = ordL ts us) := Lib.hid (by unfold ordH; rw [if_neg NV.out, if_pos hq])
      rw [HO.out]
      simp only [Bool.and_eq_true, decide_eq_true_eq] at hq
      obtain ⟨q1, q2, q3, q4⟩ := hq
      have HL := Lib.hid q4
      have e1 : (k == 1) = false := by rw [beq_iff_eq] at q1; rw [q1]; rfl
      have e2 : (k != 4) = false := by rw [beq_iff_eq] at q1; rw [q1]; rfl
      have e3 : (k' != 4) = false := by rw [beq_iff_eq] at q2; rw [q2]; rfl
      have e4 : (k != k') = false := by rw [beq_iff_eq] at q1 q2; rw [q1, q2]; rfl
      have e5 : ((ts.len : Int) != (us.len : Int)) = false := by rw [q4]; simp
      clear q1 q2 q4 hv
      go_enter Tryz.func19, Tryz.ntmps19
      go_upto_region 1 with fail
      rw [← Z.out]
      go_wp2
      clear a0 a1 a2 b0 b1 b2 e1 e2 e3 e4 e5 q3
      go_loopw [52] (fun i wr => ∃ j : Nat, j ≤ ts.len ∧ i = .int .i64 j ∧ Hid (ordL (ts.drop j) (us.drop j) = ordL ts us) ∧ Below W2.heap.size W2 wr) (fun i _ => ts.len - (intOf i).toNat)
      case atStart => exact ⟨0, Nat.zero_le _, rfl, Lib.hid rfl, Below.refl _ _⟩
      case round =>
        rename_i wr _
        obtain ⟨j, hk, rfl, R, hB⟩ := hrel
        have B := Lib.hid hB
        obtain ⟨b, o, hp, hlies⟩ := AT.out
        obtain ⟨b', o', hp', hlies'⟩ := AT'.out
        have a3' := (hB.cell (p := ⟨w.heap.size, 3, none⟩) (by have := HS2.out; simp only; omega)).trans a3
        have b3' := (hB.cell (p := ⟨w.heap.size + 1, 3, none⟩) (by have := HS2.out; simp only; omega)).trans b3
        by_cases hlt : j < ts.len
        · have hlt' : j < us.len := by have := HL.out; omega
          obtain ⟨kk, s1, nn, pp, cc, kids, rest, D, he, hz1, hO1⟩ := Ts.elem hlies hB OK.out.2.2.2.2.2.1 hlt
          obtain ⟨kk', s1', nn', pp', cc', kids', rest', D', he', hz1', hO2⟩ := Ts.elem hlies' hB OK'.out.2.2.2.2.2.1 hlt'
          have E := Lib.hid he
          have E' := Lib.hid he'
          have O1 := Lib.hid hO1
          have O2 := Lib.hid hO2
          have hp2 : p = some ⟨b, o, none⟩ := by
            rcases hp with rfl | rfl
            · simp [Ts.len] at hlt
            · rfl
          have hp2' : p' = some ⟨b', o', none⟩ := by
            rcases hp' with rfl | rfl
            · simp [Ts.len] at hlt'
            · rfl
          subst hp2 hp2'
          have hzA : w.heap.size < wr.heap.size := by have := HS2.out; have := hB.size; omega
          have hzB : w.heap.size + 1 < wr.heap.size := by have := HS2.out; have := hB.size; omega
          have A3 := Lib.hid a3'
          have B3' := Lib.hid b3'
          clear hB he he' hO1 hO2 hp hp' a3 b3 hlies hlies'
          obtain ⟨x, hx⟩ : ∃ x, x = ordH kk kk' s1 s1' nn nn' kids kids' (ordL kids kids') := ⟨_, rfl⟩
          have X := Lib.hid hx
          clear hx
          go_upto_region 8 with fail
          clear a3' b3'
          refine region_by_facts (fun W_ => Below wr.heap.size wr W_) [fun u _ => u = .pointer (some ⟨w.heap.size, 3, none⟩), fun u _ => u = .slice (some ⟨b, o, none⟩) ts.len c, fun u _ => u = .int .i64 j, fun u _ => u = .pointer (some ⟨b, o + j * 4, none⟩), fun u _ => u = .agg #[.int .u8 kk, .string s1, .int .i64 nn, .slice pp kids.len cc], fun u _ => u = .pointer (some ⟨w.heap.size + 1, 3, none⟩), fun u _ => u = .slice (some ⟨b', o', none⟩) us.len c', fun u _ => u = .int .i64 j, fun u _ => u = .pointer (some ⟨b', o' + j * 4, none⟩), fun u _ => u = .agg #[.int .u8 kk', .string s1', .int .i64 nn', .slice pp' kids'.len cc'], fun u _ => u = .tuple #[.int .i64 x.1, .bool x.2], fun u _ => u = .tuple #[.int .i64 x.1, .bool x.2], fun u _ => u = .int .i64 x.1, fun u _ => u = .bool x.2, fun u _ => u = .int .i64 x.1, fun u _ => u = .bool x.2]
            ⟨.eq _, .eq _, .eq _, .eq _, .eq _, .eq _, .eq _, .eq _, .eq _, .eq _, .eq _, .eq _, .eq _, .eq _, .eq _, .eq _, trivial⟩ (by kernel_rfl) (by kernel_rfl) (by kernel_rfl) ?h0 ?steps ?done
          case h0 => exact (Below.refl _ _).drew
          case steps =>
            refine ⟨?_, ?_, ?_, ?_, ?_, ?_, ?_, ?_, ?_, ?_, ?_, ?_, ?_, ?_, ?_, ?_, trivial⟩
            · intro g_ W_ hI hd K hK
              simp only [frameOf, Act.put, List.setIfInBounds_toArray, List.set_cons_zero, List.set_cons_succ]
              go_simp
              refine hK.out (.pointer (some ⟨w.heap.size, 3, none⟩)) _ W_ ?_ hI (Below.refl _ _) rfl
              simp only [frameOf, Act.put, List.setIfInBounds_toArray, List.set_cons_zero, List.set_cons_succ, Nat.zero_add, Nat.reduceAdd]
            · intro g_ W_ hI hd K hK
              simp only [frameOf, Act.put, List.setIfInBounds_toArray, List.set_cons_zero, List.set_cons_succ]
              have h0 : g_ 0 = .pointer (some ⟨w.heap.size, 3, none⟩) := hd 0 (by kernel_rfl)
              rw [h0]
              have c3 := (hI.cell (p := ⟨w.heap.size, 3, none⟩) hzA).trans A3.out
              go_simp
              refine hK.out (.slice (some ⟨b, o, none⟩) ts.len c) _ W_ ?_ hI (Below.refl _ _) rfl
              simp only [frameOf, Act.put, List.setIfInBounds_toArray, List.set_cons_zero, List.set_cons_succ, Nat.zero_add, Nat.reduceAdd, h0]
            · intro g_ W_ hI hd K hK
              simp only [frameOf, Act.put, List.setIfInBounds_toArray, List.set_cons_zero, List.set_cons_succ]
              go_simp
              refine hK.out (.int .i64 j) _ W_ ?_ hI (Below.refl _ _) rfl
              simp only [frameOf, Act.put, List.setIfInBounds_toArray, List.set_cons_zero, List.set_cons_succ, Nat.zero_add, Nat.reduceAdd]
            · intro g_ W_ hI hd K hK
              simp only [frameOf, Act.put, List.setIfInBounds_toArray, List.set_cons_zero, List.set_cons_succ]
              have h1 : g_ 1 = .slice (some ⟨b, o, none⟩) ts.len c := hd 1 (by kernel_rfl)
              have h2 : g_ 2 = .int .i64 j := hd 2 (by kernel_rfl)
              rw [h1, h2]
              go_simp
              refine hK.out (.pointer (some ⟨b, o + j * 4, none⟩)) _ W_ ?_ hI (Below.refl _ _) rfl
              simp only [frameOf, Act.put, List.setIfInBounds_toArray, List.set_cons_zero, List.set_cons_succ, Nat.zero_add, Nat.reduceAdd, h1, h2]
            · intro g_ W_ hI hd K hK
              simp only [frameOf, Act.put, List.setIfInBounds_toArray, List.set_cons_zero, List.set_cons_succ]
              have h3 : g_ 3 = .pointer (some ⟨b, o + j * 4, none⟩) := hd 3 (by kernel_rfl)
              rw [h3]
              have e_ := E.out.below hI
              have c0 := e_.c0
              have c1 := e_.c1
              have c2 := e_.c2
              have c3 := e_.c3
              go_simp
              refine hK.out (.agg #[.int .u8 kk, .string s1, .int .i64 nn, .slice pp kids.len cc]) _ W_ ?_ hI (Below.refl _ _) rfl
              simp only [frameOf, Act.put, List.setIfInBounds_toArray, List.set_cons_zero, List.set_cons_succ, Nat.zero_add, Nat.reduceAdd, h3]
            · intro g_ W_ hI hd K hK
              simp only [frameOf, Act.put, List.setIfInBounds_toArray, List.set_cons_zero, List.set_cons_succ]
              go_simp
              refine hK.out (.pointer (some ⟨w.heap.size + 1, 3, none⟩)) _ W_ ?_ hI (Below.refl _ _) rfl
              simp only [frameOf, Act.put, List.setIfInBounds_toArray, List.set_cons_zero, List.set_cons_succ, Nat.zero_add, Nat.reduceAdd]
            · intro g_ W_ hI hd K hK
              simp only [frameOf, Act.put, List.setIfInBounds_toArray, List.set_cons_zero, List.set_cons_succ]
              have h5 : g_ 5 = .pointer (some ⟨w.heap.size + 1, 3, none⟩) := hd 5 (by kernel_rfl)
              rw [h5]
              have c3 := (hI.cell (p := ⟨w.heap.size + 1, 3, none⟩) hzB).trans B3'.out
              go_simp
              refine hK.out (.slice (some ⟨b', o', none⟩) us.len c') _ W_ ?_ hI (Below.refl _ _) rfl
              simp only [frameOf, Act.put, List.setIfInBounds_toArray, List.set_cons_zero, List.set_cons_succ, Nat.zero_add, Nat.reduceAdd, h5]
            · intro g_ W_ hI hd K hK
              simp only [frameOf, Act.put, List.setIfInBounds_toArray, List.set_cons_zero, List.set_cons_succ]
              go_simp
              refine hK.out (.int .i64 j) _ W_ ?_ hI (Below.refl _ _) rfl
              simp only [frameOf, Act.put, List.setIfInBounds_toArray, List.set_cons_zero, List.set_cons_succ, Nat.zero_add, Nat.reduceAdd]
            · intro g_ W_ hI hd K hK
              simp only [frameOf, Act.put, List.setIfInBounds_toArray, List.set_cons_zero, List.set_cons_succ]
              have h6 : g_ 6 = .slice (some ⟨b', o', none⟩) us.len c' := hd 6 (by kernel_rfl)
              have h7 : g_ 7 = .int .i64 j := hd 7 (by kernel_rfl)
              rw [h6, h7]
              go_simp
              refine hK.out (.pointer (some ⟨b', o' + j * 4, none⟩)) _ W_ ?_ hI (Below.refl _ _) rfl
              simp only [frameOf, Act.put, List.setIfInBounds_toArray, List.set_cons_zero, List.set_cons_succ, Nat.zero_add, Nat.reduceAdd, h6, h7]
            · intro g_ W_ hI hd K hK
              simp only [frameOf, Act.put, List.setIfInBounds_toArray, List.set_cons_zero, List.set_cons_succ]
              have h8 : g_ 8 = .pointer (some ⟨b', o' + j * 4, none⟩) := hd 8 (by kernel_rfl)
              rw [h8]
              have e_ := E'.out.below hI
              have c0 := e_.c0
              have c1 := e_.c1
              have c2 := e_.c2
              have c3 := e_.c3
              go_simp
              refine hK.out (.agg #[.int .u8 kk', .string s1', .int .i64 nn', .slice pp' kids'.len cc']) _ W_ ?_ hI (Below.refl _ _) rfl
              simp only [frameOf, Act.put, List.setIfInBounds_toArray, List.set_cons_zero, List.set_cons_succ, Nat.zero_add, Nat.reduceAdd, h8]
            · intro g_ W_ hI hd K hK
              simp only [frameOf, Act.put, List.setIfInBounds_toArray, List.set_cons_zero, List.set_cons_succ]
              have h4 : g_ 4 = .agg #[.int .u8 kk, .string s1, .int .i64 nn, .slice pp kids.len cc] := hd 4 (by kernel_rfl)
              have h9 : g_ 9 = .agg #[.int .u8 kk', .string s1', .int .i64 nn', .slice pp' kids'.len cc'] := hd 9 (by kernel_rfl)
              rw [h4, h9]
              go_simp
              refine (IH.out kids kids' (by omega) (by have := hbig'.out; omega) kk kk' s1 s1' nn nn' W_ pp pp' cc cc' O1.out O2.out (E.out.below hI).tat (E'.out.below hI).tat).mono ?_
              rintro e w' ⟨rfl, hB⟩
              rw [← X.out]
              refine hK.out (.tuple #[.int .i64 x.1, .bool x.2]) _ _ ?_ (hI.trans (hB.mono hI.size)) hB rfl
              simp only [frameOf, Act.put, List.setIfInBounds_toArray, List.set_cons_zero, List.set_cons_succ, Nat.zero_add, Nat.reduceAdd, h4, h9]
            · intro g_ W_ hI hd K hK
              simp only [frameOf, Act.put, List.setIfInBounds_toArray, List.set_cons_zero, List.set_cons_succ]
              have h10 : g_ 10 = .tuple #[.int .i64 x.1, .bool x.2] := hd 10 (by kernel_rfl)
              rw [h10]
              go_simp
              refine hK.out (.tuple #[.int .i64 x.1, .bool x.2]) _ W_ ?_ hI (Below.refl _ _) rfl
              simp only [frameOf, Act.put, List.setIfInBounds_toArray, List.set_cons_zero, List.set_cons_succ, Nat.zero_add, Nat.reduceAdd, h10]
            · intro g_ W_ hI hd K hK
              simp only [frameOf, Act.put, List.setIfInBounds_toArray, List.set_cons_zero, List.set_cons_succ]
              have h11 : g_ 11 = .tuple #[.int .i64 x.1, .bool x.2] := hd 11 (by kernel_rfl)
              rw [h11]
              go_simp
              refine hK.out (.int .i64 x.1) _ W_ ?_ hI (Below.refl _ _) rfl
              simp only [frameOf, Act.put, List.setIfInBounds_toArray, List.set_cons_zero, List.set_cons_succ, Nat.zero_add, Nat.reduceAdd, h11]
            · intro g_ W_ hI hd K hK
              simp only [frameOf, Act.put, List.setIfInBounds_toArray, List.set_cons_zero, List.set_cons_succ]
              have h11 : g_ 11 = .tuple #[.int .i64 x.1, .bool x.2] := hd 11 (by kernel_rfl)
              rw [h11]
              go_simp
              refine hK.out (.bool x.2) _ W_ ?_ hI (Below.refl _ _) rfl
              simp only [frameOf, Act.put, List.setIfInBounds_toArray, List.set_cons_zero, List.set_cons_succ, Nat.zero_add, Nat.reduceAdd, h11]
            · intro g_ W_ hI hd K hK
              simp only [frameOf, Act.put, List.setIfInBounds_toArray, List.set_cons_zero, List.set_cons_succ]
              have h12 : g_ 12 = .int .i64 x.1 := hd 12 (by kernel_rfl)
              rw [h12]
              go_simp
              refine hK.out (.int .i64 x.1) _ W_ ?_ hI (Below.refl _ _) rfl
              simp only [frameOf, Act.put, List.setIfInBounds_toArray, List.set_cons_zero, List.set_cons_succ, Nat.zero_add, Nat.reduceAdd, h12]
            · intro g_ W_ hI hd K hK
              simp only [frameOf, Act.put, List.setIfInBounds_toArray, List.set_cons_zero, List.set_cons_succ]
              have h13 : g_ 13 = .bool x.2 := hd 13 (by kernel_rfl)
              rw [h13]
              go_simp
              refine hK.out (.bool x.2) _ W_ ?_ hI (Below.refl _ _) rfl
              simp only [frameOf, Act.put, List.setIfInBounds_toArray, List.set_cons_zero, List.set_cons_succ, Nat.zero_add, Nat.reduceAdd, h13]
          case done =>
            intro f_ W_ hI hd
            have h14 : f_ 14 = .int .i64 x.1 := hd 14 (by decide)
            have h15 : f_ 15 = .bool x.2 := hd 15 (by decide)
            simp only [frameOf, Act.put, List.setIfInBounds_toArray, List.set_cons_zero, List.set_cons_succ, Nat.zero_add, Nat.reduceAdd, h14, h15]
            have B3 := Lib.hid (B.out.trans (hI.mono B.out.size))
            clear hd h14 h15 hI
            obtain ⟨d, v⟩ := x
            by_cases hd0 : (d != 0) = true
            · have HR : Hid (ordL ts us = (d, v)) := Lib.hid (by
                rw [← R.out, D.out, D'.out]
                simp only [ordL, ← X.out, hd0, Bool.true_or, if_true])
              go_wp2
              go_ret2
              rw [HR.out]
              exact ⟨rfl, BW.out.trans (B3.out.mono BW.out.size)⟩
            rw [Bool.not_eq_true] at hd0
            cases v with
            | false =>
              have HR : Hid (ordL ts us = (d, false)) := Lib.hid (by
                rw [← R.out, D.out, D'.out]
                simp only [ordL, ← X.out, hd0, Bool.not_false, Bool.or_true, if_true])
              go_wp2
              go_ret2
              rw [HR.out]
              exact ⟨rfl, BW.out.trans (B3.out.mono BW.out.size)⟩
            | true =>
              have R' : Hid (ordL (ts.drop (j + 1)) (us.drop (j + 1)) = ordL ts us) := Lib.hid (by
                rw [Ts.drop_succ j ts D.out, Ts.drop_succ j us D'.out, ← R.out, D.out, D'.out]
                simp only [ordL, ← X.out, hd0, Bool.not_true, Bool.or_false, Bool.false_eq_true, if_false])
              go_wp2
              go_roundw
              case rel => exact ⟨j + 1, by omega, by go_num, R', B3.out⟩
              case measure => simp [intOf]; omega
        · have hke : j = ts.len := by omega
          have hd : ts.drop j = .nil := Ts.len_zero (by rw [Ts.drop_len]; omega)
          have hd' : us.drop j = .nil := Ts.len_zero (by rw [Ts.drop_len]; have := HL.out; omega)
          have h := R.out
          rw [hd, hd'] at h
          have H := Lib.hid h
          clear h hd hd' hke hB R
          go_wp2
          go_ret2
          exact ⟨by rw [← H.out]; rfl, BW.out.trans (B.out.mono BW.out.size)⟩
    · have HO : Hid (ordH k k' s s' n n' ts us (ordL ts us) = (cmpT k k' s s' n n' ts us (cmpL ts us), true)) := Lib.hid (by unfold ordH; rw [if_neg NV.out, if_neg hq])
      rw [HO.out]
      obtain ⟨C, hC⟩ : ∃ C, C = cmpT k k' s s' n n' ts us (cmpL ts us) := ⟨_, rfl⟩
      have CE := Lib.hid hC
      rw [← hC]
      clear hC HO
      have hcmp : ∀ W, Below W2.heap.size W2 W → Calls Tryz.prog 21 #[.agg #[.int .u8 k, .string s, .int .i64 n, .slice p ts.len c], .agg #[.int .u8 k', .string s', .int .i64 n', .slice p' us.len c']] W fun e w' => e = .returned (.int .i64 C) ∧ Below W.heap.size W w' := fun W hB => by
        rw [CE.out]
        exact compare_any hbig'.out OK.out.2.2.2.2.2.1 OK'.out.2.2.2.2.2.1 (AT.out.below hB) (AT'.out.below hB)
      have CMP := Lib.hid hcmp
      clear hcmp
      clear hv
      by_cases k1 : (k == 1) = true
      · have k1' : (k' == 1) = false := by
          rw [Bool.eq_false_iff]
          intro h
          exact NV.out (by rw [k1, h]; rfl)
        have k4 : (k != 4) = true := by rw [beq_iff_eq] at k1; rw [k1]; rfl
        go_enter Tryz.func19, Tryz.ntmps19
        go_upto_region 1 with fail
        rw [← Z.out]
        go_wp2_with fail
        refine (CMP.out _ (Below.refl _ _)).mono ?_
        rintro e w' ⟨rfl, hB⟩
        have BB := Lib.hid (BW.out.trans (hB.mono BW.out.size))
        clear hB
        go_wp2
        go_ret2
        exact ⟨rfl, BB.out⟩
      rw [Bool.not_eq_true] at k1
      by_cases k4 : (k != 4) = true
      · go_enter Tryz.func19, Tryz.ntmps19
        go_upto_region 1 with fail
        rw [← Z.out]
        go_wp2_with fail
        refine (CMP.out _ (Below.refl _ _)).mono ?_
        rintro e w' ⟨rfl, hB⟩
        have BB := Lib.hid (BW.out.trans (hB.mono BW.out.size))
        clear hB
        go_wp2
        go_ret2
        exact ⟨rfl, BB.out⟩
      rw [Bool.not_eq_true] at k4
      have h4 := Lib.hid (by simpa using k4 : k = 4)
      by_cases k4' : (k' != 4) = true
      · go_enter Tryz.func19, Tryz.ntmps19
        go_upto_region 1 with fail
        rw [← Z.out]
        go_wp2_with fail
        refine (CMP.out _ (Below.refl _ _)).mono ?_
        rintro e w' ⟨rfl, hB⟩
        have BB := Lib.hid (BW.out.trans (hB.mono BW.out.size))
        clear hB
        go_wp2
        go_ret2
        exact ⟨rfl, BB.out⟩
      rw [Bool.not_eq_true] at k4'
      have h4' := Lib.hid (by simpa using k4' : k' = 4)
      by_cases hs : (s.toList == s'.toList) = true
      · have hl : ((ts.len : Int) != (us.len : Int)) = true := by
          rw [bne_iff_ne]
          intro he
          apply hq
          rw [h4.out, h4'.out, hs, decide_eq_true (by omega : ts.len = us.len)]
          rfl
        clear h4 h4'
        go_enter Tryz.func19, Tryz.ntmps19
        go_upto_region 1 with fail
        rw [← Z.out]
        go_wp2_with fail
        refine (CMP.out _ (Below.refl _ _)).mono ?_
        rintro e w' ⟨rfl, hB⟩
        have BB := Lib.hid (BW.out.trans (hB.mono BW.out.size))
        clear hB
        go_wp2
        go_ret2
        exact ⟨rfl, BB.out⟩
      · rw [Bool.not_eq_true] at hs
        clear h4 h4'
        go_enter Tryz.func19, Tryz.ntmps19
        go_upto_region 1 with fail
        rw [← Z.out]
        go_wp2_with fail
        refine (CMP.out _ (Below.refl _ _)).mono ?_
        rintro e w' ⟨rfl, hB⟩
        have BB := Lib.hid (BW.out.trans (hB.mono BW.out.size))
        clear hB
        go_wp2
        go_ret2
        exact ⟨rfl, BB.out⟩

theorem Ts.drop_shape : ∀ (j : Nat) (ts : Ts), shapeL ts = true → shapeL (ts.drop j) = true
  | 0, _, h => h
  | _ + 1, .nil, h => h
  | j + 1, .cons _ _ _ _ _ _ r, h => by
    simp only [shapeL, Bool.and_eq_true] at h
    exact Ts.drop_shape j r h.2

set_option maxRecDepth 100000 in
set_option maxHeartbeats 2000000 in
theorem rord_any : ∀ (sz : Nat) (ts us : Ts), ts.size < sz → ts.size ≤ 1000000 → ∀ (k k' : Int) (s s' : ByteArray) (n n' : Int) (w : World) (p p' : Option Addr) (c c' : Nat), Ts.ok (.cons k s n p c ts .nil) → Ts.ok (.cons k' s' n' p' c' us .nil) → (shapeL ts && headB k s n ts.len) = true → (shapeL us && headB k' s' n' us.len) = true → Ts.At w p ts → Ts.At w p' us →
    Calls Tryz.prog 23 #[.agg #[.int .u8 k, .string s, .int .i64 n, .slice p ts.len c], .agg #[.int .u8 k', .string s', .int .i64 n', .slice p' us.len c']] w fun e w' =>
      e = .returned (.tuple #[.int .i64 (ordH k k' s s' n n' ts us (ordL ts us)).1, .bool (ordH k k' s s' n n' ts us (ordL ts us)).2]) ∧ Below w.heap.size w w' := by
  intro sz
  induction sz with
  | zero => intro ts us h; omega
  | succ sz ih =>
    intro ts us hsz hbig k k' s s' n n' w p p' c c' hok hok' hsh hsh' hat hat'
    have IH := Lib.hid ih
    clear ih
    have OK := Lib.hid hok
    have OK' := Lib.hid hok'
    have SH := Lib.hid hsh
    have SH' := Lib.hid hsh'
    clear hsh hsh'
    have hlen : ts.len ≤ 9223372036854775807 := by have := hok.2.2.2.1; omega
    have hlen' : us.len ≤ 9223372036854775807 := by have := hok'.2.2.2.1; omega
    have hbig' := Lib.hid hbig
    clear hok hok'
    obtain ⟨W2, hW2, hsz2, hB2, hc1, hc2⟩ := box2 w #[.int .u8 k, .string s, .int .i64 n, .slice p ts.len c] #[.int .u8 k', .string s', .int .i64 n', .slice p' us.len c'] 25 25
    have a0 : W2.cell? ⟨w.heap.size, 0, none⟩ = some (.int .u8 k) := hc1 0 _ rfl
    have a1 : W2.cell? ⟨w.heap.size, 1, none⟩ = some (.string s) := hc1 1 _ rfl
    have a2 : W2.cell? ⟨w.heap.size, 2, none⟩ = some (.int .i64 n) := hc1 2 _ rfl
    have a3 : W2.cell? ⟨w.heap.size, 3, none⟩ = some (.slice p ts.len c) := hc1 3 _ rfl
    have b0 : W2.cell? ⟨w.heap.size + 1, 0, none⟩ = some (.int .u8 k') := hc2 0 _ rfl
    have b1 : W2.cell? ⟨w.heap.size + 1, 1, none⟩ = some (.string s') := hc2 1 _ rfl
    have b2 : W2.cell? ⟨w.heap.size + 1, 2, none⟩ = some (.int .i64 n') := hc2 2 _ rfl
    have b3 : W2.cell? ⟨w.heap.size + 1, 3, none⟩ = some (.slice p' us.len c') := hc2 3 _ rfl
    have BW := Lib.hid hB2
    have AT := Lib.hid (hat.below hB2)
    have AT' := Lib.hid (hat'.below hB2)
    have Z := Lib.hid hW2
    have HS2 := Lib.hid hsz2
    clear hB2 hc1 hc2 hW2 hat hat' hsz2
    by_cases hv : ((k == 1) && (k' == 1)) = true
    · have HO : Hid (ordH k k' s s' n n' ts us (ordL ts us) = (0, n == n')) := Lib.hid (by unfold ordH; rw [if_pos hv])
      rw [Bool.and_eq_true] at hv
      obtain ⟨hv1, hv2⟩ := hv
      rw [HO.out]
      go_enter Tryz.func23, Tryz.ntmps23
      go_upto_region 1 with fail
      rw [← Z.out]
      go_upto_region 2 with fail
      go_quiet (fail)
      go_wp2
      go_ret2
      exact ⟨rfl, below_drewN BW.out _⟩
    have NV := Lib.hid hv
    by_cases hq : ((k == 4) && ((k' == 4) && ((s.toList == s'.toList) && decide (ts.len = us.len)))) = true
    · have HO : Hid (ordH k k' s s' n n' ts us (ordL ts us) = ordL ts us) := Lib.hid (by unfold ordH; rw [if_neg NV.out, if_pos hq])
      rw [HO.out]
      simp only [Bool.and_eq_true, decide_eq_true_eq] at hq
      obtain ⟨q1, q2, q3, q4⟩ := hq
      have HL := Lib.hid q4
      have e1 : (k == 1) = false := by rw [beq_iff_eq] at q1; rw [q1]; rfl
      have e2 : (k != 4) = false := by rw [beq_iff_eq] at q1; rw [q1]; rfl
      have e3 : (k' != 4) = false := by rw [beq_iff_eq] at q2; rw [q2]; rfl
      have e4 : (k != k') = false := by rw [beq_iff_eq] at q1 q2; rw [q1, q2]; rfl
      have e5 : ((ts.len : Int) != (us.len : Int)) = false := by rw [q4]; simp
      clear q1 q2 q4 hv
      go_enter Tryz.func23, Tryz.ntmps23
      go_upto_region 1 with fail
      rw [← Z.out]
      go_wp2
      clear a0 a1 a2 b0 b1 b2 e1 e2 e3 e4 e5 q3
      go_loopw [6] (fun i wr => ∃ j : Nat, j ≤ ts.len ∧ i = .int .i64 j ∧ Hid (ordL (ts.drop j) (us.drop j) = ordL ts us) ∧ Below W2.heap.size W2 wr) (fun i _ => ts.len - (intOf i).toNat)
      case atStart => exact ⟨0, Nat.zero_le _, rfl, Lib.hid rfl, Below.refl _ _⟩
      case round =>
        rename_i wr _
        obtain ⟨j, hk, rfl, R, hB⟩ := hrel
        have B := Lib.hid hB
        obtain ⟨b, o, hp, hlies⟩ := AT.out
        obtain ⟨b', o', hp', hlies'⟩ := AT'.out
        have a3' := (hB.cell (p := ⟨w.heap.size, 3, none⟩) (by have := HS2.out; simp only; omega)).trans a3
        have b3' := (hB.cell (p := ⟨w.heap.size + 1, 3, none⟩) (by have := HS2.out; simp only; omega)).trans b3
        by_cases hlt : j < ts.len
        · have hlt' : j < us.len := by have := HL.out; omega
          obtain ⟨kk, s1, nn, pp, cc, kids, rest, D, he, hz1, hO1⟩ := Ts.elem hlies hB OK.out.2.2.2.2.2.1 hlt
          obtain ⟨kk', s1', nn', pp', cc', kids', rest', D', he', hz1', hO2⟩ := Ts.elem hlies' hB OK'.out.2.2.2.2.2.1 hlt'
          have E := Lib.hid he
          have E' := Lib.hid he'
          have O1 := Lib.hid hO1
          have O2 := Lib.hid hO2
          have hp2 : p = some ⟨b, o, none⟩ := by
            rcases hp with rfl | rfl
            · simp [Ts.len] at hlt
            · rfl
          have hp2' : p' = some ⟨b', o', none⟩ := by
            rcases hp' with rfl | rfl
            · simp [Ts.len] at hlt'
            · rfl
          subst hp2 hp2'
          have hzA : w.heap.size < wr.heap.size := by have := HS2.out; have := hB.size; omega
          have hzB : w.heap.size + 1 < wr.heap.size := by have := HS2.out; have := hB.size; omega
          have A3 := Lib.hid a3'
          have B3' := Lib.hid b3'
          have hsh := Ts.drop_shape j ts (by have h := SH.out; rw [Bool.and_eq_true] at h; exact h.1)
          have hsh' := Ts.drop_shape j us (by have h := SH'.out; rw [Bool.and_eq_true] at h; exact h.1)
          rw [D.out] at hsh
          rw [D'.out] at hsh'
          simp only [shapeL, Bool.and_eq_true] at hsh hsh'
          have S1 : Hid ((shapeL kids && headB kk s1 nn kids.len) = true) := Lib.hid (by rw [hsh.1.1, hsh.1.2]; rfl)
          have S2 : Hid ((shapeL kids' && headB kk' s1' nn' kids'.len) = true) := Lib.hid (by rw [hsh'.1.1, hsh'.1.2]; rfl)
          clear hsh hsh'
          clear hB he he' hO1 hO2 hp hp' a3 b3 hlies hlies'
          obtain ⟨x, hx⟩ : ∃ x, x = ordH kk kk' s1 s1' nn nn' kids kids' (ordL kids kids') := ⟨_, rfl⟩
          have X := Lib.hid hx
          clear hx
          go_upto_region 8 with fail
          clear a3' b3'
          refine region_by_facts (fun W_ => Below wr.heap.size wr W_) [fun u _ => u = .pointer (some ⟨w.heap.size, 3, none⟩), fun u _ => u = .slice (some ⟨b, o, none⟩) ts.len c, fun u _ => u = .int .i64 j, fun u _ => u = .pointer (some ⟨b, o + j * 4, none⟩), fun u _ => u = .agg #[.int .u8 kk, .string s1, .int .i64 nn, .slice pp kids.len cc], fun u _ => u = .pointer (some ⟨w.heap.size + 1, 3, none⟩), fun u _ => u = .slice (some ⟨b', o', none⟩) us.len c', fun u _ => u = .int .i64 j, fun u _ => u = .pointer (some ⟨b', o' + j * 4, none⟩), fun u _ => u = .agg #[.int .u8 kk', .string s1', .int .i64 nn', .slice pp' kids'.len cc'], fun u _ => u = .tuple #[.int .i64 x.1, .bool x.2], fun u _ => u = .tuple #[.int .i64 x.1, .bool x.2], fun u _ => u = .int .i64 x.1, fun u _ => u = .bool x.2, fun u _ => u = .int .i64 x.1, fun u _ => u = .bool x.2]
            ⟨.eq _, .eq _, .eq _, .eq _, .eq _, .eq _, .eq _, .eq _, .eq _, .eq _, .eq _, .eq _, .eq _, .eq _, .eq _, .eq _, trivial⟩ (by kernel_rfl) (by kernel_rfl) (by kernel_rfl) ?h0 ?steps ?done
          case h0 => exact (Below.refl _ _).drew
          case steps =>
            refine ⟨?_, ?_, ?_, ?_, ?_, ?_, ?_, ?_, ?_, ?_, ?_, ?_, ?_, ?_, ?_, ?_, trivial⟩
            · intro g_ W_ hI hd K hK
              simp only [frameOf, Act.put, List.setIfInBounds_toArray, List.set_cons_zero, List.set_cons_succ]
              go_simp
              refine hK.out (.pointer (some ⟨w.heap.size, 3, none⟩)) _ W_ ?_ hI (Below.refl _ _) rfl
              simp only [frameOf, Act.put, List.setIfInBounds_toArray, List.set_cons_zero, List.set_cons_succ, Nat.zero_add, Nat.reduceAdd]
            · intro g_ W_ hI hd K hK
              simp only [frameOf, Act.put, List.setIfInBounds_toArray, List.set_cons_zero, List.set_cons_succ]
              have h0 : g_ 0 = .pointer (some ⟨w.heap.size, 3, none⟩) := hd 0 (by kernel_rfl)
              rw [h0]
              have c3 := (hI.cell (p := ⟨w.heap.size, 3, none⟩) hzA).trans A3.out
              go_simp
              refine hK.out (.slice (some ⟨b, o, none⟩) ts.len c) _ W_ ?_ hI (Below.refl _ _) rfl
              simp only [frameOf, Act.put, List.setIfInBounds_toArray, List.set_cons_zero, List.set_cons_succ, Nat.zero_add, Nat.reduceAdd, h0]
            · intro g_ W_ hI hd K hK
              simp only [frameOf, Act.put, List.setIfInBounds_toArray, List.set_cons_zero, List.set_cons_succ]
              go_simp
              refine hK.out (.int .i64 j) _ W_ ?_ hI (Below.refl _ _) rfl
              simp only [frameOf, Act.put, List.setIfInBounds_toArray, List.set_cons_zero, List.set_cons_succ, Nat.zero_add, Nat.reduceAdd]
            · intro g_ W_ hI hd K hK
              simp only [frameOf, Act.put, List.setIfInBounds_toArray, List.set_cons_zero, List.set_cons_succ]
              have h1 : g_ 1 = .slice (some ⟨b, o, none⟩) ts.len c := hd 1 (by kernel_rfl)
              have h2 : g_ 2 = .int .i64 j := hd 2 (by kernel_rfl)
              rw [h1, h2]
              go_simp
              refine hK.out (.pointer (some ⟨b, o + j * 4, none⟩)) _ W_ ?_ hI (Below.refl _ _) rfl
              simp only [frameOf, Act.put, List.setIfInBounds_toArray, List.set_cons_zero, List.set_cons_succ, Nat.zero_add, Nat.reduceAdd, h1, h2]
            · intro g_ W_ hI hd K hK
              simp only [frameOf, Act.put, List.setIfInBounds_toArray, List.set_cons_zero, List.set_cons_succ]
              have h3 : g_ 3 = .pointer (some ⟨b, o + j * 4, none⟩) := hd 3 (by kernel_rfl)
              rw [h3]
              have e_ := E.out.below hI
              have c0 := e_.c0
              have c1 := e_.c1
              have c2 := e_.c2
              have c3 := e_.c3
              go_simp
              refine hK.out (.agg #[.int .u8 kk, .string s1, .int .i64 nn, .slice pp kids.len cc]) _ W_ ?_ hI (Below.refl _ _) rfl
              simp only [frameOf, Act.put, List.setIfInBounds_toArray, List.set_cons_zero, List.set_cons_succ, Nat.zero_add, Nat.reduceAdd, h3]
            · intro g_ W_ hI hd K hK
              simp only [frameOf, Act.put, List.setIfInBounds_toArray, List.set_cons_zero, List.set_cons_succ]
              go_simp
              refine hK.out (.pointer (some ⟨w.heap.size + 1, 3, none⟩)) _ W_ ?_ hI (Below.refl _ _) rfl
              simp only [frameOf, Act.put, List.setIfInBounds_toArray, List.set_cons_zero, List.set_cons_succ, Nat.zero_add, Nat.reduceAdd]
            · intro g_ W_ hI hd K hK
              simp only [frameOf, Act.put, List.setIfInBounds_toArray, List.set_cons_zero, List.set_cons_succ]
              have h5 : g_ 5 = .pointer (some ⟨w.heap.size + 1, 3, none⟩) := hd 5 (by kernel_rfl)
              rw [h5]
              have c3 := (hI.cell (p := ⟨w.heap.size + 1, 3, none⟩) hzB).trans B3'.out
              go_simp
              refine hK.out (.slice (some ⟨b', o', none⟩) us.len c') _ W_ ?_ hI (Below.refl _ _) rfl
              simp only [frameOf, Act.put, List.setIfInBounds_toArray, List.set_cons_zero, List.set_cons_succ, Nat.zero_add, Nat.reduceAdd, h5]
            · intro g_ W_ hI hd K hK
              simp only [frameOf, Act.put, List.setIfInBounds_toArray, List.set_cons_zero, List.set_cons_succ]
              go_simp
              refine hK.out (.int .i64 j) _ W_ ?_ hI (Below.refl _ _) rfl
              simp only [frameOf, Act.put, List.setIfInBounds_toArray, List.set_cons_zero, List.set_cons_succ, Nat.zero_add, Nat.reduceAdd]
            · intro g_ W_ hI hd K hK
              simp only [frameOf, Act.put, List.setIfInBounds_toArray, List.set_cons_zero, List.set_cons_succ]
              have h6 : g_ 6 = .slice (some ⟨b', o', none⟩) us.len c' := hd 6 (by kernel_rfl)
              have h7 : g_ 7 = .int .i64 j := hd 7 (by kernel_rfl)
              rw [h6, h7]
              go_simp
              refine hK.out (.pointer (some ⟨b', o' + j * 4, none⟩)) _ W_ ?_ hI (Below.refl _ _) rfl
              simp only [frameOf, Act.put, List.setIfInBounds_toArray, List.set_cons_zero, List.set_cons_succ, Nat.zero_add, Nat.reduceAdd, h6, h7]
            · intro g_ W_ hI hd K hK
              simp only [frameOf, Act.put, List.setIfInBounds_toArray, List.set_cons_zero, List.set_cons_succ]
              have h8 : g_ 8 = .pointer (some ⟨b', o' + j * 4, none⟩) := hd 8 (by kernel_rfl)
              rw [h8]
              have e_ := E'.out.below hI
              have c0 := e_.c0
              have c1 := e_.c1
              have c2 := e_.c2
              have c3 := e_.c3
              go_simp
              refine hK.out (.agg #[.int .u8 kk', .string s1', .int .i64 nn', .slice pp' kids'.len cc']) _ W_ ?_ hI (Below.refl _ _) rfl
              simp only [frameOf, Act.put, List.setIfInBounds_toArray, List.set_cons_zero, List.set_cons_succ, Nat.zero_add, Nat.reduceAdd, h8]
            · intro g_ W_ hI hd K hK
              simp only [frameOf, Act.put, List.setIfInBounds_toArray, List.set_cons_zero, List.set_cons_succ]
              have h4 : g_ 4 = .agg #[.int .u8 kk, .string s1, .int .i64 nn, .slice pp kids.len cc] := hd 4 (by kernel_rfl)
              have h9 : g_ 9 = .agg #[.int .u8 kk', .string s1', .int .i64 nn', .slice pp' kids'.len cc'] := hd 9 (by kernel_rfl)
              rw [h4, h9]
              go_simp
              refine (IH.out kids kids' (by omega) (by have := hbig'.out; omega) kk kk' s1 s1' nn nn' W_ pp pp' cc cc' O1.out O2.out S1.out S2.out (E.out.below hI).tat (E'.out.below hI).tat).mono ?_
              rintro e w' ⟨rfl, hB⟩
              rw [← X.out]
              refine hK.out (.tuple #[.int .i64 x.1, .bool x.2]) _ _ ?_ (hI.trans (hB.mono hI.size)) hB rfl
              simp only [frameOf, Act.put, List.setIfInBounds_toArray, List.set_cons_zero, List.set_cons_succ, Nat.zero_add, Nat.reduceAdd, h4, h9]
            · intro g_ W_ hI hd K hK
              simp only [frameOf, Act.put, List.setIfInBounds_toArray, List.set_cons_zero, List.set_cons_succ]
              have h10 : g_ 10 = .tuple #[.int .i64 x.1, .bool x.2] := hd 10 (by kernel_rfl)
              rw [h10]
              go_simp
              refine hK.out (.tuple #[.int .i64 x.1, .bool x.2]) _ W_ ?_ hI (Below.refl _ _) rfl
              simp only [frameOf, Act.put, List.setIfInBounds_toArray, List.set_cons_zero, List.set_cons_succ, Nat.zero_add, Nat.reduceAdd, h10]
            · intro g_ W_ hI hd K hK
              simp only [frameOf, Act.put, List.setIfInBounds_toArray, List.set_cons_zero, List.set_cons_succ]
              have h11 : g_ 11 = .tuple #[.int .i64 x.1, .bool x.2] := hd 11 (by kernel_rfl)
              rw [h11]
              go_simp
              refine hK.out (.int .i64 x.1) _ W_ ?_ hI (Below.refl _ _) rfl
              simp only [frameOf, Act.put, List.setIfInBounds_toArray, List.set_cons_zero, List.set_cons_succ, Nat.zero_add, Nat.reduceAdd, h11]
            · intro g_ W_ hI hd K hK
              simp only [frameOf, Act.put, List.setIfInBounds_toArray, List.set_cons_zero, List.set_cons_succ]
              have h11 : g_ 11 = .tuple #[.int .i64 x.1, .bool x.2] := hd 11 (by kernel_rfl)
              rw [h11]
              go_simp
              refine hK.out (.bool x.2) _ W_ ?_ hI (Below.refl _ _) rfl
              simp only [frameOf, Act.put, List.setIfInBounds_toArray, List.set_cons_zero, List.set_cons_succ, Nat.zero_add, Nat.reduceAdd, h11]
            · intro g_ W_ hI hd K hK
              simp only [frameOf, Act.put, List.setIfInBounds_toArray, List.set_cons_zero, List.set_cons_succ]
              have h12 : g_ 12 = .int .i64 x.1 := hd 12 (by kernel_rfl)
              rw [h12]
              go_simp
              refine hK.out (.int .i64 x.1) _ W_ ?_ hI (Below.refl _ _) rfl
              simp only [frameOf, Act.put, List.setIfInBounds_toArray, List.set_cons_zero, List.set_cons_succ, Nat.zero_add, Nat.reduceAdd, h12]
            · intro g_ W_ hI hd K hK
              simp only [frameOf, Act.put, List.setIfInBounds_toArray, List.set_cons_zero, List.set_cons_succ]
              have h13 : g_ 13 = .bool x.2 := hd 13 (by kernel_rfl)
              rw [h13]
              go_simp
              refine hK.out (.bool x.2) _ W_ ?_ hI (Below.refl _ _) rfl
              simp only [frameOf, Act.put, List.setIfInBounds_toArray, List.set_cons_zero, List.set_cons_succ, Nat.zero_add, Nat.reduceAdd, h13]
          case done =>
            intro f_ W_ hI hd
            have h14 : f_ 14 = .int .i64 x.1 := hd 14 (by decide)
            have h15 : f_ 15 = .bool x.2 := hd 15 (by decide)
            simp only [frameOf, Act.put, List.setIfInBounds_toArray, List.set_cons_zero, List.set_cons_succ, Nat.zero_add, Nat.reduceAdd, h14, h15]
            have B3 := Lib.hid (B.out.trans (hI.mono B.out.size))
            clear hd h14 h15 hI
            obtain ⟨d, v⟩ := x
            by_cases hd0 : (d != 0) = true
            · have HR : Hid (ordL ts us = (d, v)) := Lib.hid (by
                rw [← R.out, D.out, D'.out]
                simp only [ordL, ← X.out, hd0, Bool.true_or, if_true])
              go_wp2
              go_ret2
              rw [HR.out]
              exact ⟨rfl, BW.out.trans (B3.out.mono BW.out.size)⟩
            rw [Bool.not_eq_true] at hd0
            cases v with
            | false =>
              have HR : Hid (ordL ts us = (d, false)) := Lib.hid (by
                rw [← R.out, D.out, D'.out]
                simp only [ordL, ← X.out, hd0, Bool.not_false, Bool.or_true, if_true])
              go_wp2
              go_ret2
              rw [HR.out]
              exact ⟨rfl, BW.out.trans (B3.out.mono BW.out.size)⟩
            | true =>
              have R' : Hid (ordL (ts.drop (j + 1)) (us.drop (j + 1)) = ordL ts us) := Lib.hid (by
                rw [Ts.drop_succ j ts D.out, Ts.drop_succ j us D'.out, ← R.out, D.out, D'.out]
                simp only [ordL, ← X.out, hd0, Bool.not_true, Bool.or_false, Bool.false_eq_true, if_false])
              go_wp2
              go_roundw
              case rel => exact ⟨j + 1, by omega, by go_num, R', B3.out⟩
              case measure => simp [intOf]; omega
        · have hke : j = ts.len := by omega
          have hd : ts.drop j = .nil := Ts.len_zero (by rw [Ts.drop_len]; omega)
          have hd' : us.drop j = .nil := Ts.len_zero (by rw [Ts.drop_len]; have := HL.out; omega)
          have h := R.out
          rw [hd, hd'] at h
          have H := Lib.hid h
          clear h hd hd' hke hB R
          go_wp2
          go_ret2
          exact ⟨by rw [← H.out]; rfl, BW.out.trans (B.out.mono BW.out.size)⟩
    · have HO : Hid (ordH k k' s s' n n' ts us (ordL ts us) = (cmpT k k' s s' n n' ts us (cmpL ts us), true)) := Lib.hid (by unfold ordH; rw [if_neg NV.out, if_neg hq])
      rw [HO.out]
      obtain ⟨C, hC⟩ : ∃ C, C = cmpT k k' s s' n n' ts us (cmpL ts us) := ⟨_, rfl⟩
      have CE := Lib.hid hC
      rw [← hC]
      clear hC HO
      have hcmp : ∀ W, Below W2.heap.size W2 W → Calls Tryz.prog 57 #[.agg #[.int .u8 k, .string s, .int .i64 n, .slice p ts.len c], .agg #[.int .u8 k', .string s', .int .i64 n', .slice p' us.len c']] W fun e w' => e = .returned (.int .i64 C) ∧ Below W.heap.size W w' := fun W hB => by
        rw [CE.out]
        exact rcompare_any _ ts (Nat.lt_succ_self _) hbig'.out us k k' s s' n n' W p p' c c' OK.out OK'.out SH.out SH'.out (AT.out.below hB) (AT'.out.below hB)
      have CMP := Lib.hid hcmp
      clear hcmp
      clear hv
      by_cases k1 : (k == 1) = true
      · have k1' : (k' == 1) = false := by
          rw [Bool.eq_false_iff]
          intro h
          exact NV.out (by rw [k1, h]; rfl)
        have k4 : (k != 4) = true := by rw [beq_iff_eq] at k1; rw [k1]; rfl
        by_cases kk : (k != k') = true
        · go_enter Tryz.func23, Tryz.ntmps23
          go_upto_region 1 with fail
          rw [← Z.out]
          go_wp2_with fail
          refine (CMP.out _ (Below.refl _ _)).mono ?_
          rintro e w' ⟨rfl, hB⟩
          have BB := Lib.hid (BW.out.trans (hB.mono BW.out.size))
          clear hB
          go_wp2
          go_ret2
          exact ⟨rfl, BB.out⟩
        · rw [Bool.not_eq_true] at kk
          go_enter Tryz.func23, Tryz.ntmps23
          go_upto_region 1 with fail
          rw [← Z.out]
          go_wp2_with fail
          refine (CMP.out _ (Below.refl _ _)).mono ?_
          rintro e w' ⟨rfl, hB⟩
          have BB := Lib.hid (BW.out.trans (hB.mono BW.out.size))
          clear hB
          go_wp2
          go_ret2
          exact ⟨rfl, BB.out⟩
      rw [Bool.not_eq_true] at k1
      by_cases kk : (k != k') = true
      · go_enter Tryz.func23, Tryz.ntmps23
        go_upto_region 1 with fail
        rw [← Z.out]
        go_wp2_with fail
        refine (CMP.out _ (Below.refl _ _)).mono ?_
        rintro e w' ⟨rfl, hB⟩
        have BB := Lib.hid (BW.out.trans (hB.mono BW.out.size))
        clear hB
        go_wp2
        go_ret2
        exact ⟨rfl, BB.out⟩
      rw [Bool.not_eq_true] at kk
      have hkk := Lib.hid (by simpa using kk : k = k')
      by_cases k4 : (k != 4) = true
      · go_enter Tryz.func23, Tryz.ntmps23
        go_upto_region 1 with fail
        rw [← Z.out]
        go_wp2_with fail
        refine (CMP.out _ (Below.refl _ _)).mono ?_
        rintro e w' ⟨rfl, hB⟩
        have BB := Lib.hid (BW.out.trans (hB.mono BW.out.size))
        clear hB
        go_wp2
        go_ret2
        exact ⟨rfl, BB.out⟩
      rw [Bool.not_eq_true] at k4
      have h4' := Lib.hid (by rw [← hkk.out]; simpa using k4 : k' = 4)
      have h4 := Lib.hid (by simpa using k4 : k = 4)
      clear hkk
      by_cases hs : (s.toList == s'.toList) = true
      · have hl : ((ts.len : Int) != (us.len : Int)) = true := by
          rw [bne_iff_ne]
          intro he
          apply hq
          rw [h4.out, h4'.out, hs, decide_eq_true (by omega : ts.len = us.len)]
          rfl
        clear h4 h4'
        go_enter Tryz.func23, Tryz.ntmps23
        go_upto_region 1 with fail
        rw [← Z.out]
        go_wp2_with fail
        refine (CMP.out _ (Below.refl _ _)).mono ?_
        rintro e w' ⟨rfl, hB⟩
        have BB := Lib.hid (BW.out.trans (hB.mono BW.out.size))
        clear hB
        go_wp2
        go_ret2
        exact ⟨rfl, BB.out⟩
      · rw [Bool.not_eq_true] at hs
        clear h4 h4'
        go_enter Tryz.func23, Tryz.ntmps23
        go_upto_region 1 with fail
        rw [← Z.out]
        go_wp2_with fail
        refine (CMP.out _ (Below.refl _ _)).mono ?_
        rintro e w' ⟨rfl, hB⟩
        have BB := Lib.hid (BW.out.trans (hB.mono BW.out.size))
        clear hB
        go_wp2
        go_ret2
        exact ⟨rfl, BB.out⟩

end Go.Proofs.YtnmhnaanpjlniaaGreat
