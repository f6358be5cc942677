import Derived.Test.YtflomdnjabgnaaaBi
import Derived.Test.YtflomdnjabgnaaaDh
/-
  A term's like with other variables, walked. (Written by gen_dk.py.)
-/
namespace Go.Proofs.Ytflomdnjabgnaaa
open Go.RowKit

theorem smN_bound {d : Int} (hd : 0 ≤ d ∧ d ≤ 1099511627776) {x : Nd} (h : smN 100 x) (hok : x.ok) : -9223372036854775808 ≤ (shN d x).n ∧ (shN d x).n ≤ 9223372036854775807 := by
  unfold shN
  simp only
  split
  · rename_i hk
    have := h.1 hk
    omega
  · exact hok.2.2.1

theorem smT_drop {M : Int} : ∀ {ts : Ts} {j : Nat}, smT M ts → smT M (ts.drop j)
  | .nil, 0, _ => trivial
  | .nil, _ + 1, _ => trivial
  | .cons .., 0, h => h
  | .cons k s n p c kids rest, j + 1, h => smT_drop (ts := rest) h.2.2

theorem shT_size (d : Int) : ∀ ts : Ts, (shT d ts).size = ts.size
  | .nil => rfl
  | .cons k s n p c kids rest => by simp only [shT, Ts.size, shT_size d kids, shT_size d rest]

theorem ShT.of_twin (d : Int) : ∀ {ts us : Ts}, Ts.twin us (shT d ts) → ShT d ts us
  | .nil, .nil, _ => trivial
  | .nil, .cons .., h => h.elim
  | .cons .., .nil, h => h.elim
  | .cons k s n p c kids rest, .cons k' s' n' p' c' kids' rest', h => ⟨h.1, h.2.1, h.2.2.1, ShT.of_twin d h.2.2.2.1, ShT.of_twin d h.2.2.2.2⟩

set_option maxRecDepth 100000 in
set_option maxHeartbeats 16000000 in
theorem shift4_any (d : Int) (hd : 0 ≤ d ∧ d ≤ 1099511627776) : ∀ (n : Nat) (t : Nd), t.kids.size < n → n ≤ 1000000 → t.ok → smN 100 t → ∀ (w : World), Ts.At w t.p t.kids →
    Calls Try.prog 38 #[.agg #[.int .u8 t.k, .string t.s, .int .i64 t.n, .slice t.p t.kids.len t.c], .int .i64 d] w fun e w' => ∃ val, e = .returned val ∧ MadeN 0 (shN d t) w.heap.size val w' ∧ Below w.heap.size w w' := by
  intro n
  induction n using Nat.strongRecOn with
  | ind n ih =>
  intro t hsz hn hok hsm w htat
  have TAT := Lib.hid htat
  have OK := Lib.hid hok
  have SM := Lib.hid hsm
  have HD := Lib.hid hd
  have hXl : t.kids.len ≤ 1000000 := by have := Ts.len_size t.kids; omega
  clear hok htat hsm hd
  go_enter Try.func38, Try.ntmps38
  go_upto_region 1 with fail
  obtain ⟨W0, hW0⟩ : ∃ W0, W0 = (w.alloc (.cells #[.int .u8 t.k, .string t.s, .int .i64 t.n, .slice t.p t.kids.len t.c] 24)).alloc (.cells #[.int .u8 0, .string ⟨#[]⟩, .int .i64 0, .slice none 0 0] 24) := ⟨_, rfl⟩
  rw [← hW0]
  obtain ⟨hX0, hY0, hs0, hB0⟩ := boxes2 hW0
  have c0 := hX0.c0
  have c1 := hX0.c1
  have c2 := hX0.c2
  have c3 := hX0.c3
  obtain ⟨T, hT⟩ : ∃ T, T = w.heap.size + 2 := ⟨_, rfl⟩
  rw [← hT] at hs0
  have TT := Lib.hid hT
  have hTl : w.heap.size + 1 < T := by omega
  obtain ⟨W2, hW2, hs2, hB2, hc2, hf2⟩ := alloc_new W0 #[.int .u8 t.k, .string t.s, .int .i64 t.n, .slice none 0 0] 24
  rw [hs0] at hs2 hc2 hf2
  have hout : OutIs T t (.slice none 0 0) W2 := ⟨hc2 0 _ rfl, hc2 1 _ rfl, hc2 2 _ rfl, hc2 3 _ rfl, hf2⟩
  have OU := Lib.hid hout
  have BX := Lib.hid (hX0.below hB2)
  have BY := Lib.hid (hY0.below hB2)
  have BB := Lib.hid (hB0.trans (hB2.mono hB0.size))
  have Z2 := Lib.hid hW2
  clear hW0 hX0 hY0 hB0 hc2 hf2 hB2 hW2 hout
  go_upto_region 3 with fail
  rw [← hT, ← Z2.out]
  clear c0 c1 c2 c3 hT
  have c0 := BX.out.c0
  have c1 := BX.out.c1
  have c2 := BX.out.c2
  have c3 := BX.out.c3
  have o0 := OU.out.c0
  have o1 := OU.out.c1
  have o2 := OU.out.c2
  have o3 := OU.out.c3
  have of := OU.out.fr
  go_upto_if 11 with fail
  go_cut [] from 12 to 17 (fun wx => Hid (OutIs T (shN d t) (.slice none 0 0) wx ∧ (∀ b, b < T → wx.heap[b]? = W2.heap[b]?) ∧ wx.heap.size = W2.heap.size ∧ Below w.heap.size w wx))
  case first =>
    by_cases e1 : (t.k == 1) = true
    · have hb := smN_bound HD.out SM.out OK.out
      have hn2 : (shN d t).n = t.n + d := by unfold shN; rw [if_pos e1]
      rw [hn2] at hb
      go_wp2
      go_meet
      exact Lib.hid ⟨⟨by rw [World.cell?_setCell_other _ _ _ _ (by simp)]; exact o0, by rw [World.cell?_setCell_other _ _ _ _ (by simp)]; exact o1, by rw [World.cell?_setCell_same _ _ _ o2, hn2], by rw [World.cell?_setCell_other _ _ _ _ (by simp)]; exact o3, fun i => by simp [of i]⟩, fun b hb => Below.heap_setCell _ _ _ _ (by simp; omega), by simp, BB.out.setCell (p := ⟨T, 2, none⟩) (by simp; omega) _⟩
    · have hn2 : (shN d t).n = t.n := by unfold shN; rw [if_neg e1]
      rw [Bool.not_eq_true] at e1
      go_wp2
      go_meet
      refine Lib.hid ⟨⟨o0, o1, by rw [hn2]; exact o2, o3, of⟩, fun _ _ => rfl, rfl, BB.out⟩
  case rest =>
  obtain ⟨hO, hold, hsz3, hBx⟩ := hcut.out
  have OUT := Lib.hid hO
  have OLD := Lib.hid hold
  have BXX := Lib.hid hBx
  have IN : Hid (MpIn (shT d) 0 t (shN d t) T (T + 1) w wc 0 (.slice none 0 0) .nil wc) :=
    Lib.hid ⟨Nat.zero_le _, rfl, hO, OwnC.start _ _ _ _, (fun rs h => h), (fun _ _ => rfl), ⟨Nat.le_refl _, by omega⟩, hBx⟩
  replace BX := Lib.hid (BX.out.of_block (hold _ (by omega)))
  replace BY := Lib.hid (BY.out.of_block (hold _ (by omega)))
  clear hcut hO hold hBx OU BB c0 c1 c2 c3 o0 o1 o2 o3 of Z2
  go_wp2_with fail
  go_loopw [6] (fun si wr => ∃ (j : Nat) (rv : Value) (acc : Ts), si = .int .i64 j ∧ Hid (MpIn (shT d) 0 t (shN d t) T (T + 1) w wc j rv acc wr)) (fun i _ => t.kids.len - (intOf i).toNat)
  case atStart => exact ⟨0, .slice none 0 0, .nil, rfl, IN⟩
  case round =>
    obtain ⟨j, rv, acc, rfl, AI⟩ := hrel
    have hjl := AI.out.jl
    have hsz2 := AI.out.sz
    have hbx : BoxIs w.heap.size t wr := BX.out.of_block (AI.out.old _ (by omega))
    by_cases hlt : j < t.kids.len
    · obtain ⟨b, o, hXp, hlies⟩ := TAT.out.below AI.out.B
      replace hXp := Ts.some_of hXp hlt
      obtain ⟨k, s, m, p, c, kids, rest, hd, hEl, hsz1, hok1⟩ := Ts.elem hlies (Below.refl _ _) OK.out.2.2.2.2.2.1 hlt
      have happ := AI.out.app
      have hsm1 := smT_drop (j := j) SM.out.2
      rw [hd.out] at hsm1
      rw [hd.out, (sh_mapper d).cons] at happ
      have hdn : t.kids.drop (j + 1) = rest := Ts.drop_succ j _ hd.out
      have c3 := hbx.c3
      rw [hXp] at c3
      have AP := Lib.hid happ
      have DN := Lib.hid hdn
      have EL := Lib.hid hEl
      have OK1 := Lib.hid hok1
      have SM1 : Hid (smN 100 ⟨k, s, m, p, c, kids⟩) := Lib.hid ⟨hsm1.1, hsm1.2.1⟩
      have NB1 := Lib.hid (smN_bound HD.out SM1.out OK1.out)
      have hblt : b < wr.heap.size := hEl.lt
      have e3 := AI.out.out.c3
      have hwN : w.heap.size < wr.heap.size := by omega
      clear hlies hXp hd hEl hok1 happ hdn hbx hsm1
      go_upto_region 8 with fail
      have LT := Lib.hid hlt
      refine region_facts_mid (fun W_ => Below wr.heap.size wr W_) [fun u _ => u = .pointer (some ⟨T, 3, none⟩), fun u _ => u = rv, fun u _ => u = .pointer (some ⟨w.heap.size, 3, none⟩), fun u _ => u = .slice (some ⟨b, o, none⟩) t.kids.len t.c, fun u _ => u = .int .i64 j, fun u _ => u = .pointer (some ⟨b, o + j * 4, none⟩), fun u _ => u = .agg #[.int .u8 k, .string s, .int .i64 m, .slice p kids.len c], fun u _ => u = .int .i64 d, fun u W => MadeN 0 (shN d ⟨k, s, m, p, c, kids⟩) wr.heap.size u W, fun u W => OneN 0 (shN d ⟨k, s, m, p, c, kids⟩) wr.heap.size u W] (fun u W => ∃ (q : Option Addr) (e : Nat) (us : Ts), OwnC 0 (T + 1) 24 u (acc.app (.cons (shN d ⟨k, s, m, p, c, kids⟩).k (shN d ⟨k, s, m, p, c, kids⟩).s (shN d ⟨k, s, m, p, c, kids⟩).n q e us .nil)) W ∧ Ts.twin us (shN d ⟨k, s, m, p, c, kids⟩).kids ∧ Below (T + 1) wr W) 10 (fun i => if i = 11 then some (.pointer (some ⟨T, 3, none⟩)) else none)
        ⟨.eq _, .eq _, .eq _, .eq _, .eq _, .eq _, .eq _, .eq _, (fun _ _ _ h hB => h.below hB), (fun _ _ _ h hB => h.below hB), trivial⟩ (by kernel_rfl) (by kernel_rfl) (by kernel_rfl) (by kernel_rfl) _ rfl (Below.refl _ _).drew ?_ (by decide) rfl ?hll ?hlf
      case hll =>
        intro j' c' h
        by_cases e : j' = 11
        · subst e; decide
        · simp [e] at h
      case hlf =>
        intro j' c' h W'
        by_cases e : j' = 11
        · subst e; trivial
        · simp [e] at h
      refine ⟨?_, ?_, ?_, ?_, ?_, ?_, ?_, ?_, ?_, ?_, ?_, ?_, ?_, trivial⟩
      · refine KStep.of_early (by decide) (by decide) rfl ?_
        intro g_ W_ hz hI hd K hK
        simp only [frameOf, Act.put, List.setIfInBounds_toArray, List.set_cons_zero, List.set_cons_succ]
        go_simp
        refine hK.out (.pointer (some ⟨T, 3, none⟩)) _ W_ ?_ hI (Below.refl _ _) rfl
        simp only [frameOf, Act.put, List.setIfInBounds_toArray, List.set_cons_zero, List.set_cons_succ, Nat.zero_add, Nat.reduceAdd]
      · refine KStep.of_early (by decide) (by decide) rfl ?_
        intro g_ W_ hz hI hd K hK
        simp only [frameOf, Act.put, List.setIfInBounds_toArray, List.set_cons_zero, List.set_cons_succ]
        have h0 : g_ 0 = .pointer (some ⟨T, 3, none⟩) := hd 0 (by kernel_rfl)
        rw [h0]
        have c9 := ((stays hI).1 T 3 (World.block_lt_of_cell? _ _ e3)).trans e3
        go_simp
        refine hK.out rv _ W_ ?_ hI (Below.refl _ _) rfl
        simp only [frameOf, Act.put, List.setIfInBounds_toArray, List.set_cons_zero, List.set_cons_succ, Nat.zero_add, Nat.reduceAdd, h0]
      · refine KStep.of_early (by decide) (by decide) rfl ?_
        intro g_ W_ hz hI hd K hK
        simp only [frameOf, Act.put, List.setIfInBounds_toArray, List.set_cons_zero, List.set_cons_succ]
        go_simp
        refine hK.out (.pointer (some ⟨w.heap.size, 3, none⟩)) _ W_ ?_ hI (Below.refl _ _) rfl
        simp only [frameOf, Act.put, List.setIfInBounds_toArray, List.set_cons_zero, List.set_cons_succ, Nat.zero_add, Nat.reduceAdd]
      · refine KStep.of_early (by decide) (by decide) rfl ?_
        intro g_ W_ hz hI hd K hK
        simp only [frameOf, Act.put, List.setIfInBounds_toArray, List.set_cons_zero, List.set_cons_succ]
        have h2 : g_ 2 = .pointer (some ⟨w.heap.size, 3, none⟩) := hd 2 (by kernel_rfl)
        rw [h2]
        have c9 := ((stays hI).1 w.heap.size 3 hwN).trans c3
        go_simp
        refine hK.out (.slice (some ⟨b, o, none⟩) t.kids.len t.c) _ W_ ?_ hI (Below.refl _ _) rfl
        simp only [frameOf, Act.put, List.setIfInBounds_toArray, List.set_cons_zero, List.set_cons_succ, Nat.zero_add, Nat.reduceAdd, h2]
      · refine KStep.of_early (by decide) (by decide) rfl ?_
        intro g_ W_ hz hI hd K hK
        simp only [frameOf, Act.put, List.setIfInBounds_toArray, List.set_cons_zero, List.set_cons_succ]
        go_simp
        refine hK.out (.int .i64 j) _ W_ ?_ hI (Below.refl _ _) rfl
        simp only [frameOf, Act.put, List.setIfInBounds_toArray, List.set_cons_zero, List.set_cons_succ, Nat.zero_add, Nat.reduceAdd]
      · refine KStep.of_early (by decide) (by decide) rfl ?_
        intro g_ W_ hz hI hd K hK
        simp only [frameOf, Act.put, List.setIfInBounds_toArray, List.set_cons_zero, List.set_cons_succ]
        have h3 : g_ 3 = .slice (some ⟨b, o, none⟩) t.kids.len t.c := hd 3 (by kernel_rfl)
        have h4 : g_ 4 = .int .i64 j := hd 4 (by kernel_rfl)
        rw [h3, h4]
        go_simp
        refine hK.out (.pointer (some ⟨b, o + j * 4, none⟩)) _ W_ ?_ hI (Below.refl _ _) rfl
        simp only [frameOf, Act.put, List.setIfInBounds_toArray, List.set_cons_zero, List.set_cons_succ, Nat.zero_add, Nat.reduceAdd, h3, h4]
      · refine KStep.of_early (by decide) (by decide) rfl ?_
        intro g_ W_ hz hI hd K hK
        simp only [frameOf, Act.put, List.setIfInBounds_toArray, List.set_cons_zero, List.set_cons_succ]
        have h5 : g_ 5 = .pointer (some ⟨b, o + j * 4, none⟩) := hd 5 (by kernel_rfl)
        rw [h5]
        have EW := EL.out.below hI
        have c0 := EW.c0
        have c1 := EW.c1
        have c2 := EW.c2
        have c4 := EW.c3
        go_simp
        refine hK.out (.agg #[.int .u8 k, .string s, .int .i64 m, .slice p kids.len c]) _ W_ ?_ hI (Below.refl _ _) rfl
        simp only [frameOf, Act.put, List.setIfInBounds_toArray, List.set_cons_zero, List.set_cons_succ, Nat.zero_add, Nat.reduceAdd, h5]
      · refine KStep.of_early (by decide) (by decide) rfl ?_
        intro g_ W_ hz hI hd K hK
        simp only [frameOf, Act.put, List.setIfInBounds_toArray, List.set_cons_zero, List.set_cons_succ]
        go_simp
        refine hK.out (.int .i64 d) _ W_ ?_ hI (Below.refl _ _) rfl
        simp only [frameOf, Act.put, List.setIfInBounds_toArray, List.set_cons_zero, List.set_cons_succ, Nat.zero_add, Nat.reduceAdd]
      · refine KStep.of_early (by decide) (by decide) rfl ?_
        intro g_ W_ hz hI hd K hK
        simp only [frameOf, Act.put, List.setIfInBounds_toArray, List.set_cons_zero, List.set_cons_succ]
        have h6 : g_ 6 = .agg #[.int .u8 k, .string s, .int .i64 m, .slice p kids.len c] := hd 6 (by kernel_rfl)
        have h7 : g_ 7 = .int .i64 d := hd 7 (by kernel_rfl)
        rw [h6, h7]
        go_simp
        refine (ih (kids.size + 1) (by omega) ⟨k, s, m, p, c, kids⟩ (Nat.lt_succ_self _) (by omega) OK1.out SM1.out W_ (EL.out.tat.below hI)).mono ?_
        rintro e w' ⟨v', rfl, hR, hB⟩
        refine hK.out v' _ w' ?_ (hI.trans (hB.mono hI.size)) hB (hR.mono hI.size)
        simp only [frameOf, Act.put, List.setIfInBounds_toArray, List.set_cons_zero, List.set_cons_succ, Nat.zero_add, Nat.reduceAdd, h6, h7]
      · refine KStep.of_early (by decide) (by decide) rfl ?_
        intro g_ W_ hz hI hd K hK
        simp only [frameOf, Act.put, List.setIfInBounds_toArray, List.set_cons_zero, List.set_cons_succ]
        obtain ⟨us, q, e, h9, hq9, ha9, hk9, hc9, hn9⟩ := hd 8 (by kernel_rfl)
        rw [h9]
        unfold tv at h9 ⊢
        go_simp
        refine hK.out (.slice (some ⟨W_.heap.size, 0, none⟩) 1 1) _ _ ?_ (hI.alloc hI.size _) ((Below.refl _ _).alloc (Nat.le_refl _) _) (OneN.new OK1.out.1 OK1.out.2.1 NB1.out hq9 ha9 hk9 hc9 hn9)
        simp only [frameOf, Act.put, List.setIfInBounds_toArray, List.set_cons_zero, List.set_cons_succ, Nat.zero_add, Nat.reduceAdd, h9]
      · refine KStep.of_mid rfl (by decide) rfl ?_
        intro g_ W_ hz hI hd K hK
        simp only [frameOf, Act.put, List.setIfInBounds_toArray, List.set_cons_zero, List.set_cons_succ]
        have h1 : g_ 1 = rv := hd 1 (by decide) (by decide) rfl
        have h9 := hd 9 (by decide) (by decide) rfl
        replace h9 : OneN 0 (shN d ⟨k, s, m, p, c, kids⟩) wr.heap.size (g_ 9) W_ := h9
        obtain ⟨R, q, e, us, e9, hUat, hUok, hUk, hUa⟩ := h9
        rw [h1, e9]
        refine if_wanted rfl ?_
        have hown := AI.out.own.below hI
        have hlt2 := hown.1.lt
        have hsI := hI.size
        have hal := AI.out.al
        refine wp_app_terms _ _ rfl (T + 1) rv acc.len (cellsL acc) rfl hown.1 (some ⟨R, 0, none⟩) (.cons (shN d ⟨k, s, m, p, c, kids⟩).k (shN d ⟨k, s, m, p, c, kids⟩).s (shN d ⟨k, s, m, p, c, kids⟩).n q e us .nil) 1 rfl (fun h => by cases h) hUat (by simp only [Ts.len]; omega) (by omega) ?_
        intro v' w' hown' hgr hob
        refine hK.out v' _ w' ?_ ⟨q, e, us, OwnC.push0 hown (by omega) hown' hgr hob hUok (m := wr.heap.size) ⟨hUk, trivial⟩ hsz2.2 (fun q hq => ⟨(hlt2 q hq).1, (AI.out.own.1.lt q hq).2⟩), hUa, (hI.mono hsz2.2).grown hgr (by omega) (fun q hq => (hlt2 q hq).1)⟩
        simp only [frameOf, Act.put, List.setIfInBounds_toArray, List.set_cons_zero, List.set_cons_succ, Nat.zero_add, Nat.reduceAdd, h1, e9]
      · refine KStep.of_late (by decide) (by decide) rfl ?_
        intro g_ W_ hz K hK
        simp only [frameOf, Act.put, List.setIfInBounds_toArray, List.set_cons_zero, List.set_cons_succ]
        go_simp
        refine hK.out _ ?_
        simp only [frameOf, Act.put, List.setIfInBounds_toArray, List.set_cons_zero, List.set_cons_succ, Nat.zero_add, Nat.reduceAdd]
      · refine KStep.of_last (by decide) rfl rfl ?_
        intro g_ W_ hz hJ hd K hK
        simp only [frameOf, Act.put, List.setIfInBounds_toArray, List.set_cons_zero, List.set_cons_succ]
        obtain ⟨q, e, us, hO, hUa, hBT⟩ := hJ
        have h11 : g_ 11 = .pointer (some ⟨T, 3, none⟩) := hd 11 _ rfl
        obtain ⟨q2, d2, e10, -, -, -⟩ := hO.read
        rw [h11, e10]
        rw [e10] at hO
        have hout := AI.out.out.of_block (hBT.block T (by omega))
        have c9 := hout.c3
        have f9 := hout.fr 3
        have HO := Lib.hid hO
        have OU := Lib.hid hout
        have BT := Lib.hid hBT
        have E10 := Lib.hid e10
        have H11 := Lib.hid h11
        have UA := Lib.hid hUa
        clear hO hout hBT hd hz h11 e10 hUa
        go_simp
        refine hK.out undef _ _ ?_ ?_
        · simp only [frameOf, Act.put, List.setIfInBounds_toArray, List.set_cons_zero, List.set_cons_succ, Nat.zero_add, Nat.reduceAdd, H11.out, E10.out]
        · simp only [frameOf, Act.put, List.setIfInBounds_toArray, List.set_cons_zero, List.set_cons_succ, Nat.zero_add, Nat.reduceAdd, H11.out, E10.out]
          clear hK K
          go_wp2
          go_roundw
          case rel =>
            have hBs := BT.out.size
            refine ⟨j + 1, _, _, by go_num, Lib.hid ⟨hlt, by rw [app_len, AI.out.al]; rfl, OU.out.put _, HO.out.far fun b hb => Below.heap_setCell _ _ _ _ (by simp; omega), fun rs hrs => ?_, fun b hb => ?_, by simp; omega, (AI.out.B.trans (BT.out.mono (by omega))).setCell (p := ⟨T, 3, none⟩) (by simp; omega) _⟩⟩
            · rw [DN.out] at hrs
              rw [app_assoc]
              exact AP.out _ ⟨rfl, rfl, rfl, UA.out, hrs⟩
            · rw [Below.heap_setCell _ _ _ _ (by simp; omega)]
              exact (BT.out.block b (by omega)).trans (AI.out.old b hb)
          case measure => simp [intOf]; omega
    · obtain ⟨q, c, e1, hqa, hqc, hqn⟩ := AI.out.own.read
      have happ := AI.out.app .nil (by rw [Ts.drop_end hlt]; exact trivial)
      rw [app_nil] at happ
      have hby : BoxIs (w.heap.size + 1) ⟨0, ⟨#[]⟩, 0, none, 0, .nil⟩ wr := BY.out.of_block (AI.out.old _ (by omega))
      have o0 := AI.out.out.c0
      have o1 := AI.out.out.c1
      have o2 := AI.out.out.c2
      have o3 := AI.out.out.c3
      rw [e1] at o3
      have c3 := hbx.c3
      have y0 := hby.c0
      have y1 := hby.c1
      have y2 := hby.c2
      have y3 := hby.c3
      have yf := hby.fr
      have QA := Lib.hid hqa
      have QC := Lib.hid (And.intro hqc hqn)
      have AP := Lib.hid happ
      have HBY := Lib.hid hby
      clear e1 hqa hqc hqn happ hbx hby
      go_wp2
      have P := HBY.out.put (y := ⟨(shN d t).k, (shN d t).s, (shN d t).n, q, c, acc⟩)
      have p0 := P.c0
      have p1 := P.c1
      have p2 := P.c2
      have p3 := P.c3
      exact bodyPost_ret (v := tv (shN d t).k (shN d t).s (shN d t).n q acc.len c) (by simp [results, Try.results38, go_sem, p0, p1, p2, p3, tv]) rfl ⟨_, rfl, 
        ⟨acc, q, c, rfl, (AtP_imp (fun b _ hb => ⟨hb, by omega⟩) QA.out : Ts.AtP (fun b => (b < 0 ∨ T + 1 ≤ b) ∧ (b < 0 ∨ w.heap.size ≤ b)) wr q acc).stay (fun b hb _ => by
          rw [Below.heap_setCell _ _ _ _ (by simp; omega), Below.heap_setCell _ _ _ _ (by simp; omega), Below.heap_setCell _ _ _ _ (by simp; omega), Below.heap_setCell _ _ _ _ (by simp; omega)]) |> AtP_imp (fun b _ hb => hb.2), AP.out, AI.out.own.2.1, QC.out.1, QC.out.2⟩, below_put4 AI.out.B (by omega) _ _ _ _⟩

end Go.Proofs.Ytflomdnjabgnaaa
/-
  Layer 4: what is applied, as plain terms.
-/
namespace Go.Proofs.Ytflomdnjabgnaaa
open Go.RowKit

/-- what is applied becomes what the terms become -/
theorem App_ev {θ : Int → Tm} {σ : Sb} (hs : Sat θ σ) (hE : Ends σ) {l : List Nd} {us : Ts} (h : App σ l us) : evs θ us = l.map (ev θ) := by
  induction h with
  | nil => rfl
  | @cons t rest p c ks rs h1 h2 ih1 ih2 =>
    simp only [evs, List.map_cons, ih1, ih2]
    congr 1
    rw [← ev_wk hs hE t, ev, evs_elems]

/-- how many are visited -/
theorem vis_len {θ : Int → Tm} {σ : Sb} (hm : Mg θ σ) (hE : Ends σ) (hg : goodS σ) : ∀ (f : Nat) {l : List Nd}, (∀ t ∈ l, goodN t) → (vis σ f l).length = min f (szs (l.map (ev θ)))
  | 0, l, _ => by simp [vis]
  | f + 1, [], _ => by simp [vis, szs]
  | f + 1, t :: rest, hl => by
    have hgt := good_wk hg hE (hl t (List.mem_cons_self ..))
    have ih := vis_len hm hE hg f (l := elems (wk σ t).kids ++ rest) (fun x hx => by
      rcases List.mem_append.1 hx with hx | hx
      · exact goodT_elems hgt.2 x hx
      · exact hl x (List.mem_cons_of_mem _ hx))
    have app : ∀ a b : List Tm, szs (a ++ b) = szs a + szs b := by
      intro a b
      induction a with
      | nil => simp [szs]
      | cons x a ih => simp only [List.cons_append, szs, ih]; omega
    have hz : (ev θ t).sz = szs ((elems (wk σ t).kids).map (ev θ)) + 1 := by
      rw [← ev_wk hm.1 hE]
      by_cases hk : ((wk σ t).k == 1) = true
      · rw [ev, if_pos hk, hm.2 _ (wk_free hE hk), (hgt.1 hk).2]
        simp [Tm.sz, elems, szs]
      · rw [ev, if_neg hk, Tm.sz, evs_elems]
    simp only [vis, List.length_cons, List.map_cons, szs]
    rw [ih, List.map_append, app, hz]
    omega

/-- terms whose variables have no name -/
def nameT : Ts → Prop
  | .nil => True
  | .cons k s _ _ _ kids rest => ((k == 1) = true → s = ⟨#[]⟩ ∧ kids = .nil) ∧ nameT kids ∧ nameT rest

theorem toList_inj {a b : ByteArray} (h : a.toList = b.toList) : a = b := by
  rw [ByteArray.toList_eq, ByteArray.toList_eq] at h
  cases a
  cases b
  simp only [Array.toList_inj] at h
  rw [h]

/-- under plain variables a term can be told from another -/
theorem evs_inj : ∀ {us vs : Ts}, nameT us → nameT vs → evs Tm.var us = evs Tm.var vs → Ts.twin us vs
  | .nil, .nil, _, _, _ => trivial
  | .nil, .cons .., _, _, h => by simp [evs] at h
  | .cons .., .nil, _, _, h => by simp [evs] at h
  | .cons k s n p c kids rest, .cons k' s' n' p' c' kids' rest', h1, h2, h => by
    simp only [evs, List.cons.injEq] at h
    obtain ⟨h3, h4⟩ := h
    have hr := evs_inj h1.2.2 h2.2.2 h4
    by_cases e1 : (k == 1) = true
    · by_cases e2 : (k' == 1) = true
      · rw [if_pos e1, if_pos e2] at h3
        injection h3 with h3
        obtain ⟨g1, g2⟩ := h1.1 e1
        obtain ⟨g3, g4⟩ := h2.1 e2
        subst g1 g2 g3 g4 h3
        simp only [beq_iff_eq] at e1 e2
        exact ⟨e1.trans e2.symm, rfl, rfl, trivial, hr⟩
      · rw [if_pos e1, if_neg e2] at h3
        cases h3
    · by_cases e2 : (k' == 1) = true
      · rw [if_neg e1, if_pos e2] at h3
        cases h3
      · rw [if_neg e1, if_neg e2] at h3
        injection h3 with a1 a2 a3 a4
        exact ⟨a1, toList_inj a2, a3, evs_inj h1.2.1 h2.2.1 a4, hr⟩

/-- what is applied whole: its variables are not bound -/
theorem evs_fix {θ : Int → Tm} {σ : Sb} (hm : Mg θ σ) : ∀ {us : Ts}, FixT σ us → evs θ us = evs Tm.var us
  | .nil, _ => rfl
  | .cons k s n p c kids rest, h => by
    simp only [evs, evs_fix hm h.2.1, evs_fix hm h.2.2]
    congr 1
    by_cases e : (k == 1) = true
    · rw [if_pos e, if_pos e]
      rcases h.1 with h1 | h1
      · rw [h1] at e; cases e
      · exact hm.2 n h1
    · rw [if_neg e, if_neg e]

end Go.Proofs.Ytflomdnjabgnaaa
