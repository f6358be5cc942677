import Derived.Test.YtflomdnjabgnaaaBo
/-
  A term put in a variable's place, walked. (Written by gen_bj.py.)
-/
namespace Go.Proofs.Ytflomdnjabgnaaa
open Go.RowKit

theorem putN_head {v : Int} {O x : Nd} (hO : O.ok) (hx : x.ok) : (0 ≤ (putN v O x).k ∧ (putN v O x).k ≤ 255) ∧ (putN v O x).s.size ≤ 140737488351232 ∧ (-9223372036854775808 ≤ (putN v O x).n ∧ (putN v O x).n ≤ 9223372036854775807) := by
  unfold putN
  split
  · exact ⟨hO.1, hO.2.1, hO.2.2.1⟩
  · exact ⟨hx.1, hx.2.1, hx.2.2.1⟩

theorem putN_yes {v : Int} {O x : Nd} (h1 : (x.k == 1) = true) (h2 : (x.n == v) = true) : putN v O x = O := by unfold putN; rw [h1, h2]; rfl
theorem putN_no {v : Int} {O x : Nd} (h : ((x.k == 1) && (x.n == v)) = false) : putN v O x = ⟨x.k, x.s, x.n, x.p, x.c, putT v O x.kids⟩ := by unfold putN; rw [h]; rfl

set_option maxRecDepth 100000 in
set_option maxHeartbeats 4000000 in
theorem put_yes (C : Nat) (O : Nd) (v : Int) (t : Nd) (hO : O.ok) (h1 : (t.k == 1) = true) (h2 : (t.n == v) = true) (w : World) (hC : C ≤ w.heap.size) (hoat : Ts.AtP (· < C) w O.p O.kids) :
    Calls Try.prog 32 #[.agg #[.int .u8 t.k, .string t.s, .int .i64 t.n, .slice t.p t.kids.len t.c], .int .i64 v, .agg #[.int .u8 O.k, .string O.s, .int .i64 O.n, .slice O.p O.kids.len O.c]] w fun e w' => ∃ val, e = .returned val ∧ MadeN C (putN v O t) w.heap.size val w' ∧ Below w.heap.size w w' := by
  have FXE := Lib.hid (putN_yes (O := O) h1 h2)
  have OO := Lib.hid hO
  have OAT := Lib.hid hoat
  clear hO hoat
  go_enter Try.func32, Try.ntmps32
  go_upto_region 1 with fail
  obtain ⟨W0, hW0⟩ : ∃ W0, W0 = ((w.alloc (.cells #[.int .u8 t.k, .string t.s, .int .i64 t.n, .slice t.p t.kids.len t.c] 24)).alloc (.cells #[.int .u8 O.k, .string O.s, .int .i64 O.n, .slice O.p O.kids.len O.c] 24)).alloc (.cells #[.int .u8 0, .string ⟨#[]⟩, .int .i64 0, .slice none 0 0] 24) := ⟨_, rfl⟩
  rw [← hW0]
  obtain ⟨hX0, hO0, hY0, hs0, hB0⟩ := boxes3 hW0
  have B0 := Lib.hid hB0
  have Z0 := Lib.hid hW0
  have P := hY0.put (y := O)
  have p0 := P.c0
  have p1 := P.c1
  have p2 := P.c2
  have p3 := P.c3
  have c0 := hX0.c0
  have c1 := hX0.c1
  have c2 := hX0.c2
  have c3 := hX0.c3
  have d0 := hO0.c0
  have d1 := hO0.c1
  have d2 := hO0.c2
  have d3 := hO0.c3
  have y0 := hY0.c0
  have y1 := hY0.c1
  have y2 := hY0.c2
  have y3 := hY0.c3
  have yf := hY0.fr
  clear hW0 hB0 hs0
  go_wp2
  exact bodyPost_ret (v := tv O.k O.s O.n O.p O.kids.len O.c) (by simp [results, Try.results32, go_sem, p0, p1, p2, p3, tv]) rfl ⟨_, rfl, by
    rw [FXE.out]
    refine ⟨O.kids, O.p, O.c, rfl, AtP_imp (fun b _ hb => .inl hb) ((OAT.out.stay fun b _ hb => B0.out.block b hb).stay fun b hb _ => ?_), Ts.twin_refl _, OO.out.2.2.2.2.2.1, OO.out.2.2.2.1, OO.out.2.2.2.2.1⟩
    rw [Below.heap_setCell _ _ _ _ (by simp; omega), Below.heap_setCell _ _ _ _ (by simp; omega), Below.heap_setCell _ _ _ _ (by simp; omega), Below.heap_setCell _ _ _ _ (by simp; omega)], below_put4 B0.out (by omega) _ _ _ _⟩

set_option maxRecDepth 100000 in
set_option maxHeartbeats 16000000 in
theorem put_any (C : Nat) (O : Nd) (v : Int) (hO : O.ok) : ∀ (n : Nat) (t : Nd), t.kids.size < n → n ≤ 1000000 → t.ok → ∀ (w : World), C ≤ w.heap.size → Ts.AtP (· < C) w O.p O.kids → Ts.At w t.p t.kids →
    Calls Try.prog 32 #[.agg #[.int .u8 t.k, .string t.s, .int .i64 t.n, .slice t.p t.kids.len t.c], .int .i64 v, .agg #[.int .u8 O.k, .string O.s, .int .i64 O.n, .slice O.p O.kids.len O.c]] w fun e w' => ∃ val, e = .returned val ∧ MadeN C (putN v O t) w.heap.size val w' ∧ Below w.heap.size w w' := by
  intro n
  induction n using Nat.strongRecOn with
  | ind n ih =>
  intro t hsz hn hok w hC hoat htat
  by_cases hyes : ((t.k == 1) && (t.n == v)) = true
  · rw [Bool.and_eq_true] at hyes
    exact put_yes C O v t hO hyes.1 hyes.2 w hC hoat
  have hno : ((t.k == 1) && (t.n == v)) = false := by simpa using hyes
  have FXE := Lib.hid (putN_no (O := O) hno)
  have NO := Lib.hid hno
  have OAT := Lib.hid hoat
  have TAT := Lib.hid htat
  have OK := Lib.hid hok
  have OO := Lib.hid hO
  have hXl : t.kids.len ≤ 1000000 := by have := Ts.len_size t.kids; omega
  clear hok hoat htat hO hyes hno
  go_enter Try.func32, Try.ntmps32
  go_upto_region 1 with fail
  obtain ⟨W0, hW0⟩ : ∃ W0, W0 = ((w.alloc (.cells #[.int .u8 t.k, .string t.s, .int .i64 t.n, .slice t.p t.kids.len t.c] 24)).alloc (.cells #[.int .u8 O.k, .string O.s, .int .i64 O.n, .slice O.p O.kids.len O.c] 24)).alloc (.cells #[.int .u8 0, .string ⟨#[]⟩, .int .i64 0, .slice none 0 0] 24) := ⟨_, rfl⟩
  rw [← hW0]
  obtain ⟨hX0, hO0, hY0, hs0, hB0⟩ := boxes3 hW0
  have Z0 := Lib.hid hW0
  have c0 := hX0.c0
  have c1 := hX0.c1
  have c2 := hX0.c2
  have c3 := hX0.c3
  clear hW0
  go_cut [17] from 9 to 18 (fun s17 wx => s17 = .bool false ∧ wx = W0)
  case first =>
    by_cases e1 : (t.k == 1) = true
    · have e2 : (t.n == v) = false := by have := NO.out; rw [e1] at this; simpa using this
      go_wp2_with fail
      go_meet
      exact ⟨rfl, rfl⟩
    · replace e1 : (t.k == 1) = false := by simpa using e1
      go_wp2_with fail
      go_meet
      exact ⟨rfl, rfl⟩
  case rest =>
  obtain ⟨rfl, hw'⟩ := hcut
  have hw' := hw'.symm
  subst hw'
  go_upto_region 5 with fail
  obtain ⟨T, hT⟩ : ∃ T, T = w.heap.size + 3 := ⟨_, rfl⟩
  rw [← hT] at hs0
  obtain ⟨W2, hW2, hs2, hB2, hc2, hf2⟩ := alloc_new W0 #[.int .u8 t.k, .string t.s, .int .i64 t.n, .slice none 0 0] 24
  rw [hs0] at hs2 hc2 hf2
  have hIn : MpIn (putT v O) C t t T (T + 1) w W2 0 (.slice none 0 0) .nil W2 :=
    ⟨Nat.zero_le _, rfl, ⟨hc2 0 _ rfl, hc2 1 _ rfl, hc2 2 _ rfl, hc2 3 _ rfl, hf2⟩, OwnC.start _ _ _ _, (fun rs h => h), (fun _ _ => rfl), ⟨Nat.le_refl _, by omega⟩, hB0.trans (hB2.mono hB0.size)⟩
  have IN := Lib.hid hIn
  have BX := Lib.hid (hX0.below hB2)
  have BO := Lib.hid (hO0.below hB2)
  have BY := Lib.hid (hY0.below hB2)
  have Z2 := Lib.hid hW2
  have TT := Lib.hid hT
  have hTl : w.heap.size + 2 < T := by omega
  clear hIn hc2 hf2 hB2 hX0 hO0 hY0 hB0 c0 c1 c2 c3 hW2
  rw [← hT, ← Z2.out]
  clear hT
  go_wp2_with fail
  go_loopw [8] (fun si wr => ∃ (j : Nat) (rv : Value) (acc : Ts), si = .int .i64 j ∧ Hid (MpIn (putT v O) C t t T (T + 1) w W2 j rv acc wr)) (fun i _ => t.kids.len - (intOf i).toNat)
  case atStart => exact ⟨0, .slice none 0 0, .nil, rfl, IN⟩
  case round =>
    obtain ⟨j, rv, acc, rfl, AI⟩ := hrel
    have hjl := AI.out.jl
    have hsz2 := AI.out.sz
    have hbx : BoxIs w.heap.size t wr := BX.out.of_block (AI.out.old _ (by omega))
    have hbo : BoxIs (w.heap.size + 1) O wr := BO.out.of_block (AI.out.old _ (by omega))
    by_cases hlt : j < t.kids.len
    · obtain ⟨b, o, hXp, hlies⟩ := TAT.out.below AI.out.B
      replace hXp := Ts.some_of hXp hlt
      obtain ⟨k, s, m, p, c, kids, rest, hd, hEl, hsz1, hok1⟩ := Ts.elem hlies (Below.refl _ _) OK.out.2.2.2.2.2.1 hlt
      have happ := AI.out.app
      rw [hd.out, (put_mapper v O).cons] at happ
      have hdn : t.kids.drop (j + 1) = rest := Ts.drop_succ j _ hd.out
      have c3 := hbx.c3
      rw [hXp] at c3
      have AP := Lib.hid happ
      have DN := Lib.hid hdn
      have EL := Lib.hid hEl
      have OK1 := Lib.hid hok1
      have BO1 := Lib.hid hbo
      have hblt : b < wr.heap.size := hEl.lt
      have e3 := AI.out.out.c3
      have hwN : w.heap.size < wr.heap.size := by omega
      clear hlies hXp hd hEl hok1 happ hdn hbx hbo
      go_upto_region 8 with fail
      have LT := Lib.hid hlt
      refine region_facts_mid (fun W_ => Below wr.heap.size wr W_) [fun u _ => u = .pointer (some ⟨T, 3, none⟩), fun u _ => u = rv, fun u _ => u = .pointer (some ⟨w.heap.size, 3, none⟩), fun u _ => u = .slice (some ⟨b, o, none⟩) t.kids.len t.c, fun u _ => u = .int .i64 j, fun u _ => u = .pointer (some ⟨b, o + j * 4, none⟩), fun u _ => u = .agg #[.int .u8 k, .string s, .int .i64 m, .slice p kids.len c], fun u _ => u = .int .i64 v, fun u _ => u = .agg #[.int .u8 O.k, .string O.s, .int .i64 O.n, .slice O.p O.kids.len O.c], fun u W => MadeN C (putN v O ⟨k, s, m, p, c, kids⟩) wr.heap.size u W, fun u W => OneN C (putN v O ⟨k, s, m, p, c, kids⟩) wr.heap.size u W] (fun u W => ∃ (q : Option Addr) (e : Nat) (us : Ts), OwnC C (T + 1) 24 u (acc.app (.cons (putN v O ⟨k, s, m, p, c, kids⟩).k (putN v O ⟨k, s, m, p, c, kids⟩).s (putN v O ⟨k, s, m, p, c, kids⟩).n q e us .nil)) W ∧ Ts.twin us (putN v O ⟨k, s, m, p, c, kids⟩).kids ∧ Below (T + 1) wr W) 11 (fun i => if i = 12 then some (.pointer (some ⟨T, 3, none⟩)) else none)
        ⟨.eq _, .eq _, .eq _, .eq _, .eq _, .eq _, .eq _, .eq _, .eq _, (fun _ _ _ h hB => h.below hB), (fun _ _ _ h hB => h.below hB), trivial⟩ (by kernel_rfl) (by kernel_rfl) (by kernel_rfl) (by kernel_rfl) _ rfl (Below.refl _ _).drew ?_ (by decide) rfl ?hll ?hlf
      case hll =>
        intro j' c' h
        by_cases e : j' = 12
        · subst e; decide
        · simp [e] at h
      case hlf =>
        intro j' c' h W'
        by_cases e : j' = 12
        · subst e; trivial
        · simp [e] at h
      refine ⟨?_, ?_, ?_, ?_, ?_, ?_, ?_, ?_, ?_, ?_, ?_, ?_, ?_, ?_, trivial⟩
      · refine KStep.of_early (by decide) (by decide) rfl ?_
        intro g_ W_ hz hI hd K hK
        simp only [frameOf, Act.put, List.setIfInBounds_toArray, List.set_cons_zero, List.set_cons_succ]
        go_simp
        refine hK.out (.pointer (some ⟨T, 3, none⟩)) _ W_ ?_ hI (Below.refl _ _) rfl
        simp only [frameOf, Act.put, List.setIfInBounds_toArray, List.set_cons_zero, List.set_cons_succ, Nat.zero_add, Nat.reduceAdd]
      · refine KStep.of_early (by decide) (by decide) rfl ?_
        intro g_ W_ hz hI hd K hK
        simp only [frameOf, Act.put, List.setIfInBounds_toArray, List.set_cons_zero, List.set_cons_succ]
        have h0 : g_ 0 = .pointer (some ⟨T, 3, none⟩) := hd 0 (by kernel_rfl)
        rw [h0]
        have c9 := ((stays hI).1 T 3 (World.block_lt_of_cell? _ _ e3)).trans e3
        go_simp
        refine hK.out rv _ W_ ?_ hI (Below.refl _ _) rfl
        simp only [frameOf, Act.put, List.setIfInBounds_toArray, List.set_cons_zero, List.set_cons_succ, Nat.zero_add, Nat.reduceAdd, h0]
      · refine KStep.of_early (by decide) (by decide) rfl ?_
        intro g_ W_ hz hI hd K hK
        simp only [frameOf, Act.put, List.setIfInBounds_toArray, List.set_cons_zero, List.set_cons_succ]
        go_simp
        refine hK.out (.pointer (some ⟨w.heap.size, 3, none⟩)) _ W_ ?_ hI (Below.refl _ _) rfl
        simp only [frameOf, Act.put, List.setIfInBounds_toArray, List.set_cons_zero, List.set_cons_succ, Nat.zero_add, Nat.reduceAdd]
      · refine KStep.of_early (by decide) (by decide) rfl ?_
        intro g_ W_ hz hI hd K hK
        simp only [frameOf, Act.put, List.setIfInBounds_toArray, List.set_cons_zero, List.set_cons_succ]
        have h2 : g_ 2 = .pointer (some ⟨w.heap.size, 3, none⟩) := hd 2 (by kernel_rfl)
        rw [h2]
        have c9 := ((stays hI).1 w.heap.size 3 hwN).trans c3
        go_simp
        refine hK.out (.slice (some ⟨b, o, none⟩) t.kids.len t.c) _ W_ ?_ hI (Below.refl _ _) rfl
        simp only [frameOf, Act.put, List.setIfInBounds_toArray, List.set_cons_zero, List.set_cons_succ, Nat.zero_add, Nat.reduceAdd, h2]
      · refine KStep.of_early (by decide) (by decide) rfl ?_
        intro g_ W_ hz hI hd K hK
        simp only [frameOf, Act.put, List.setIfInBounds_toArray, List.set_cons_zero, List.set_cons_succ]
        go_simp
        refine hK.out (.int .i64 j) _ W_ ?_ hI (Below.refl _ _) rfl
        simp only [frameOf, Act.put, List.setIfInBounds_toArray, List.set_cons_zero, List.set_cons_succ, Nat.zero_add, Nat.reduceAdd]
      · refine KStep.of_early (by decide) (by decide) rfl ?_
        intro g_ W_ hz hI hd K hK
        simp only [frameOf, Act.put, List.setIfInBounds_toArray, List.set_cons_zero, List.set_cons_succ]
        have h3 : g_ 3 = .slice (some ⟨b, o, none⟩) t.kids.len t.c := hd 3 (by kernel_rfl)
        have h4 : g_ 4 = .int .i64 j := hd 4 (by kernel_rfl)
        rw [h3, h4]
        go_simp
        refine hK.out (.pointer (some ⟨b, o + j * 4, none⟩)) _ W_ ?_ hI (Below.refl _ _) rfl
        simp only [frameOf, Act.put, List.setIfInBounds_toArray, List.set_cons_zero, List.set_cons_succ, Nat.zero_add, Nat.reduceAdd, h3, h4]
      · refine KStep.of_early (by decide) (by decide) rfl ?_
        intro g_ W_ hz hI hd K hK
        simp only [frameOf, Act.put, List.setIfInBounds_toArray, List.set_cons_zero, List.set_cons_succ]
        have h5 : g_ 5 = .pointer (some ⟨b, o + j * 4, none⟩) := hd 5 (by kernel_rfl)
        rw [h5]
        have EW := EL.out.below hI
        have c0 := EW.c0
        have c1 := EW.c1
        have c2 := EW.c2
        have c4 := EW.c3
        go_simp
        refine hK.out (.agg #[.int .u8 k, .string s, .int .i64 m, .slice p kids.len c]) _ W_ ?_ hI (Below.refl _ _) rfl
        simp only [frameOf, Act.put, List.setIfInBounds_toArray, List.set_cons_zero, List.set_cons_succ, Nat.zero_add, Nat.reduceAdd, h5]
      · refine KStep.of_early (by decide) (by decide) rfl ?_
        intro g_ W_ hz hI hd K hK
        simp only [frameOf, Act.put, List.setIfInBounds_toArray, List.set_cons_zero, List.set_cons_succ]
        go_simp
        refine hK.out (.int .i64 v) _ W_ ?_ hI (Below.refl _ _) rfl
        simp only [frameOf, Act.put, List.setIfInBounds_toArray, List.set_cons_zero, List.set_cons_succ, Nat.zero_add, Nat.reduceAdd]
      · refine KStep.of_early (by decide) (by decide) rfl ?_
        intro g_ W_ hz hI hd K hK
        simp only [frameOf, Act.put, List.setIfInBounds_toArray, List.set_cons_zero, List.set_cons_succ]
        have XW := BO1.out.below hI
        have c0 := XW.c0
        have c1 := XW.c1
        have c2 := XW.c2
        have c4 := XW.c3
        go_simp
        refine hK.out (.agg #[.int .u8 O.k, .string O.s, .int .i64 O.n, .slice O.p O.kids.len O.c]) _ W_ ?_ hI (Below.refl _ _) rfl
        simp only [frameOf, Act.put, List.setIfInBounds_toArray, List.set_cons_zero, List.set_cons_succ, Nat.zero_add, Nat.reduceAdd]
      · refine KStep.of_early (by decide) (by decide) rfl ?_
        intro g_ W_ hz hI hd K hK
        simp only [frameOf, Act.put, List.setIfInBounds_toArray, List.set_cons_zero, List.set_cons_succ]
        have h6 : g_ 6 = .agg #[.int .u8 k, .string s, .int .i64 m, .slice p kids.len c] := hd 6 (by kernel_rfl)
        have h7 : g_ 7 = .int .i64 v := hd 7 (by kernel_rfl)
        have h8 : g_ 8 = .agg #[.int .u8 O.k, .string O.s, .int .i64 O.n, .slice O.p O.kids.len O.c] := hd 8 (by kernel_rfl)
        rw [h6, h7, h8]
        go_simp
        refine (ih (kids.size + 1) (by omega) ⟨k, s, m, p, c, kids⟩ (Nat.lt_succ_self _) (by omega) OK1.out W_ (by have := hI.size; omega) (OAT.out.stay fun b hb _ => (AI.out.B.trans (hI.mono AI.out.B.size)).block b (Nat.lt_of_lt_of_le hb hC)) (EL.out.tat.below hI)).mono ?_
        rintro e w' ⟨v', rfl, hR, hB⟩
        refine hK.out v' _ w' ?_ (hI.trans (hB.mono hI.size)) hB (hR.mono hI.size)
        simp only [frameOf, Act.put, List.setIfInBounds_toArray, List.set_cons_zero, List.set_cons_succ, Nat.zero_add, Nat.reduceAdd, h6, h7, h8]
      · refine KStep.of_early (by decide) (by decide) rfl ?_
        intro g_ W_ hz hI hd K hK
        simp only [frameOf, Act.put, List.setIfInBounds_toArray, List.set_cons_zero, List.set_cons_succ]
        obtain ⟨us, q, e, h9, hq9, ha9, hk9, hc9, hn9⟩ := hd 9 (by kernel_rfl)
        rw [h9]
        unfold tv at h9 ⊢
        go_simp
        refine hK.out (.slice (some ⟨W_.heap.size, 0, none⟩) 1 1) _ _ ?_ (hI.alloc hI.size _) ((Below.refl _ _).alloc (Nat.le_refl _) _) (OneN.new (putN_head (x := ⟨k, s, m, p, c, kids⟩) OO.out OK1.out).1 (putN_head (x := ⟨k, s, m, p, c, kids⟩) OO.out OK1.out).2.1 (putN_head (x := ⟨k, s, m, p, c, kids⟩) OO.out OK1.out).2.2 hq9 ha9 hk9 hc9 hn9)
        simp only [frameOf, Act.put, List.setIfInBounds_toArray, List.set_cons_zero, List.set_cons_succ, Nat.zero_add, Nat.reduceAdd, h9]
      · refine KStep.of_mid rfl (by decide) rfl ?_
        intro g_ W_ hz hI hd K hK
        simp only [frameOf, Act.put, List.setIfInBounds_toArray, List.set_cons_zero, List.set_cons_succ]
        have h1 : g_ 1 = rv := hd 1 (by decide) (by decide) rfl
        have h9 := hd 10 (by decide) (by decide) rfl
        replace h9 : OneN C (putN v O ⟨k, s, m, p, c, kids⟩) wr.heap.size (g_ 10) W_ := h9
        obtain ⟨R, q, e, us, e9, hUat, hUok, hUk, hUa⟩ := h9
        rw [h1, e9]
        refine if_wanted rfl ?_
        have hown := AI.out.own.below hI
        have hlt2 := hown.1.lt
        have hsI := hI.size
        have hal := AI.out.al
        refine wp_app_terms _ _ rfl (T + 1) rv acc.len (cellsL acc) rfl hown.1 (some ⟨R, 0, none⟩) (.cons (putN v O ⟨k, s, m, p, c, kids⟩).k (putN v O ⟨k, s, m, p, c, kids⟩).s (putN v O ⟨k, s, m, p, c, kids⟩).n q e us .nil) 1 rfl (fun h => by cases h) hUat (by simp only [Ts.len]; omega) (by omega) ?_
        intro v' w' hown' hgr hob
        refine hK.out v' _ w' ?_ ⟨q, e, us, OwnC.push0 hown (by omega) hown' hgr hob hUok (m := wr.heap.size) ⟨hUk, trivial⟩ hsz2.2 (fun q hq => ⟨(hlt2 q hq).1, (AI.out.own.1.lt q hq).2⟩), hUa, (hI.mono hsz2.2).grown hgr (by omega) (fun q hq => (hlt2 q hq).1)⟩
        simp only [frameOf, Act.put, List.setIfInBounds_toArray, List.set_cons_zero, List.set_cons_succ, Nat.zero_add, Nat.reduceAdd, h1, e9]
      · refine KStep.of_late (by decide) (by decide) rfl ?_
        intro g_ W_ hz K hK
        simp only [frameOf, Act.put, List.setIfInBounds_toArray, List.set_cons_zero, List.set_cons_succ]
        go_simp
        refine hK.out _ ?_
        simp only [frameOf, Act.put, List.setIfInBounds_toArray, List.set_cons_zero, List.set_cons_succ, Nat.zero_add, Nat.reduceAdd]
      · refine KStep.of_last (by decide) rfl rfl ?_
        intro g_ W_ hz hJ hd K hK
        simp only [frameOf, Act.put, List.setIfInBounds_toArray, List.set_cons_zero, List.set_cons_succ]
        obtain ⟨q, e, us, hO, hUa, hBT⟩ := hJ
        have h11 : g_ 12 = .pointer (some ⟨T, 3, none⟩) := hd 12 _ rfl
        obtain ⟨q2, d2, e10, -, -, -⟩ := hO.read
        rw [h11, e10]
        rw [e10] at hO
        have hout := AI.out.out.of_block (hBT.block T (by omega))
        have c9 := hout.c3
        have f9 := hout.fr 3
        have HO := Lib.hid hO
        have OU := Lib.hid hout
        have BT := Lib.hid hBT
        have E10 := Lib.hid e10
        have H11 := Lib.hid h11
        have UA := Lib.hid hUa
        clear hO hout hBT hd hz h11 e10 hUa
        go_simp
        refine hK.out undef _ _ ?_ ?_
        · simp only [frameOf, Act.put, List.setIfInBounds_toArray, List.set_cons_zero, List.set_cons_succ, Nat.zero_add, Nat.reduceAdd, H11.out, E10.out]
        · simp only [frameOf, Act.put, List.setIfInBounds_toArray, List.set_cons_zero, List.set_cons_succ, Nat.zero_add, Nat.reduceAdd, H11.out, E10.out]
          clear hK K
          go_wp2
          go_roundw
          case rel =>
            have hBs := BT.out.size
            refine ⟨j + 1, _, _, by go_num, Lib.hid ⟨hlt, by rw [app_len, AI.out.al]; rfl, OU.out.put _, HO.out.far fun b hb => Below.heap_setCell _ _ _ _ (by simp; omega), fun rs hrs => ?_, fun b hb => ?_, by simp; omega, (AI.out.B.trans (BT.out.mono (by omega))).setCell (p := ⟨T, 3, none⟩) (by simp; omega) _⟩⟩
            · rw [DN.out] at hrs
              rw [app_assoc]
              exact AP.out _ ⟨rfl, rfl, rfl, UA.out, hrs⟩
            · rw [Below.heap_setCell _ _ _ _ (by simp; omega)]
              exact (BT.out.block b (by omega)).trans (AI.out.old b hb)
          case measure => simp [intOf]; omega
    · obtain ⟨q, c, e1, hqa, hqc, hqn⟩ := AI.out.own.read
      have happ := AI.out.app .nil (by rw [Ts.drop_end hlt]; exact trivial)
      rw [app_nil] at happ
      have hby : BoxIs (w.heap.size + 1 + 1) ⟨0, ⟨#[]⟩, 0, none, 0, .nil⟩ wr := BY.out.of_block (AI.out.old _ (by omega))
      have o0 := AI.out.out.c0
      have o1 := AI.out.out.c1
      have o2 := AI.out.out.c2
      have o3 := AI.out.out.c3
      rw [e1] at o3
      have c3 := hbx.c3
      have y0 := hby.c0
      have y1 := hby.c1
      have y2 := hby.c2
      have y3 := hby.c3
      have yf := hby.fr
      have QA := Lib.hid hqa
      have QC := Lib.hid (And.intro hqc hqn)
      have AP := Lib.hid happ
      have HBY := Lib.hid hby
      clear e1 hqa hqc hqn happ hbx hbo hby
      go_wp2
      have P := HBY.out.put (y := ⟨t.k, t.s, t.n, q, c, acc⟩)
      have p0 := P.c0
      have p1 := P.c1
      have p2 := P.c2
      have p3 := P.c3
      exact bodyPost_ret (v := tv t.k t.s t.n q acc.len c) (by simp [results, Try.results32, go_sem, p0, p1, p2, p3, tv]) rfl ⟨_, rfl, by
        rw [FXE.out]
        exact ⟨acc, q, c, rfl, (AtP_imp (fun b _ hb => ⟨hb, by omega⟩) QA.out : Ts.AtP (fun b => (b < C ∨ T + 1 ≤ b) ∧ (b < C ∨ w.heap.size ≤ b)) wr q acc).stay (fun b hb _ => by
          rw [Below.heap_setCell _ _ _ _ (by simp; omega), Below.heap_setCell _ _ _ _ (by simp; omega), Below.heap_setCell _ _ _ _ (by simp; omega), Below.heap_setCell _ _ _ _ (by simp; omega)]) |> AtP_imp (fun b _ hb => hb.2), AP.out, AI.out.own.2.1, QC.out.1, QC.out.2⟩, below_put4 AI.out.B (by omega) _ _ _ _⟩

end Go.Proofs.Ytflomdnjabgnaaa
