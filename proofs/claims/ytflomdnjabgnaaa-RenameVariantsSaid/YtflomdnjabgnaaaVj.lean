import Derived.Test.YtflomdnjabgnaaaVh
/-
  Layer 5: the counter: each number that it is asked for has a number of its own.
-/
namespace Go.Proofs.Ytflomdnjabgnaaa
open Go.RowKit Go.Maps

def stepC : List Int → Int → Int × List Int := fun st n => if st.contains n = true then (((st.idxOf n : Nat) : Int), st) else (((st.length : Nat) : Int), st ++ [n])

/-- what the counter remembers -/
def CI (NB MB : Nat) (st : List Int) (W : World) : Prop :=
  W.cell? ⟨NB, 0, none⟩ = some (.map (some MB)) ∧ ∃ D : DataW Unit, W.ownsMap Try.prog 2 (plainElem Try.prog 2) MB st.length D ∧ Maps.size D = st.length ∧ (∀ n, Maps.has D (.int .i64 n) = st.contains n) ∧ (∀ (i : Nat) (h : i < st.length), ∀ z, D.atKey (.int .i64 st[i]) z = .lit (.int .i64 i))

theorem wf_i64 {n : Int} (h : -9223372036854775808 ≤ n ∧ n ≤ 9223372036854775807) : (Lit.int .i64 n).wf = true := by
  have hmin : IntKind.i64.min = -9223372036854775808 := rfl
  have hmax : IntKind.i64.max = 9223372036854775807 := rfl
  simp only [Lit.wf, Bool.and_eq_true, decide_eq_true_eq, hmin, hmax]; exact h

theorem CI.push {NB MB : Nat} {st : List Int} {W W' : World} {n : Int} {D : DataW Unit} (hD : W.ownsMap Try.prog 2 (plainElem Try.prog 2) MB st.length D) (hs : Maps.size D = st.length) (hh : ∀ n, Maps.has D (.int .i64 n) = st.contains n) (ha : ∀ (i : Nat) (h : i < st.length), ∀ z, D.atKey (.int .i64 st[i]) z = .lit (.int .i64 i))
    (hbox : W'.cell? ⟨NB, 0, none⟩ = some (.map (some MB))) (hown : W'.ownsMap Try.prog 2 (plainElem Try.prog 2) MB (st.length + 1) (D.put (.int .i64 n) (.lit (.int .i64 (st.length : Nat))))) (hn : st.contains n = false) : CI NB MB (st ++ [n]) W' := by
  have K := Maps.int_keyed Try.underlying2
  have hm := hD.isMap
  have ht := hD.tidy K
  have hnm : n ∉ st := by simpa using hn
  refine ⟨hbox, _, by simpa using hown, ?_, fun m => ?_, fun i h z => ?_⟩
  · rw [Maps.size_put ht, hh, hn]
    simp [hs]
  · by_cases e : m = n
    · subst e
      rw [Maps.has_put_same hm (show WideAt.IsKeyLit (.int .i64 m) from trivial)]
      simp
    · rw [Maps.has_put_other (by simpa using e), hh]
      simp [e]
  · by_cases hi : i < st.length
    · have e1 : (st ++ [n])[i] = st[i] := List.getElem_append_left hi
      have e2 : st[i] ≠ n := fun e => hnm (e ▸ List.getElem_mem hi)
      rw [e1, Maps.atKey_put_other (by simpa using e2), ha i hi]
    · have e0 : i = st.length := by simp at h; omega
      subst e0
      have e1 : (st ++ [n])[st.length] = n := by simp
      rw [e1, Maps.atKey_put_same hm (show WideAt.IsKeyLit (.int .i64 n) from trivial)]

theorem zeroI64 (w : World) : (zeroValue 2).run Try.prog w = .ok (.int .i64 0) w := by kernel_rfl

set_option maxRecDepth 100000 in
set_option maxHeartbeats 1000000 in
theorem counter1_any (n : Int) (hn : -9223372036854775808 ≤ n ∧ n ≤ 9223372036854775807) (NB MB : Nat) (st : List Int) (hst : st.length < 1000000) (W : World) (hne : NB ≠ MB) (hci : CI NB MB st W) :
    Calls Try.prog 87 #[.int .i64 n, .pointer (some ⟨NB, 0, none⟩)] W fun e w' => e = .returned (.int .i64 (stepC st n).1) ∧ CI NB MB (stepC st n).2 w' ∧ (w' = W ∨ W.grownBy w' (some MB)) := by
  have hkey : keyOf Try.prog 2 (.int .i64 n) = some (.int .i64 n) := Maps.keyOf_int_mk Try.underlying2 (wf_i64 hn)
  have CIH := Lib.hid hci
  obtain ⟨hbox, D, hown, hs, hh, ha⟩ := hci
  have K := Maps.int_keyed Try.underlying2
  have S := Lib.hid hs
  have HH := Lib.hid hh
  have HA := Lib.hid ha
  by_cases hin : st.contains n = true
  · have hhas : Maps.has D (.int .i64 n) = true := by rw [hh]; exact hin
    have hmem : n ∈ st := by simpa using hin
    have hlt : st.idxOf n < st.length := List.idxOf_lt_length_iff.2 hmem
    have hat0 := ha (st.idxOf n) hlt (.lit (.int .i64 0))
    rw [List.getElem_idxOf hlt] at hat0
    have HAT := Lib.hid hat0
    have HIN := Lib.hid hin
    clear hs hh ha hin hmem hat0
    go_enter Try.func87, Try.ntmps87
    go_wp2_with (at_lookup; refine wpList_lookup_own_ok_int _ rfl _ _ 121 rfl 2 2 .i64 K Try.underlying121 Try.underlying2 (zeroI64 _) MB st.length D rfl hown _ _ rfl hkey ?_; intro c hat hwc; have HC := Lib.hid hat; clear hat)
    go_ret
    have hc : c = ((st.idxOf n : Nat) : Int) := by
      have := HC.out.symm.trans HAT.out
      simpa using this
    have e1 : stepC st n = (((st.idxOf n : Nat) : Int), st) := by unfold stepC; rw [if_pos HIN.out]
    rw [e1]
    exact ⟨by rw [← hc]; rfl, CIH.out, .inl rfl⟩
  · rw [Bool.not_eq_true] at hin
    have hhas : Maps.has D (.int .i64 n) = false := by rw [hh]; exact hin
    have HIN := Lib.hid hin
    have hval : plainElem (H := Unit) Try.prog 2 (.int .i64 (st.length : Nat)) = some (.lit (.int .i64 (st.length : Nat)), []) := plainElem_int Try.underlying2 (wf_i64 (by omega))
    clear hh ha hin
    go_enter Try.func87, Try.ntmps87
    go_wp2_with (first
      | (at_lookup; refine wpList_lookup_own_ok_int _ rfl _ _ 121 rfl 2 2 .i64 K Try.underlying121 Try.underlying2 (zeroI64 _) MB st.length D rfl hown _ _ rfl hkey ?_; intro c hat hwc; clear hat)
      | (at_len; refine wpList_len_own _ rfl _ 121 rfl 2 2 Try.underlying121 _ MB st.length D rfl hown ?_; rw [S.out])
      | (at_mapUpdate; refine wpList_mapUpdate_own _ rfl _ _ _ 121 rfl 2 2 K Try.underlying121 _ MB st.length D rfl hown (by unfold maxLen; omega) _ _ _ rfl rfl hkey _ [] hval ?_; intro w1 hown1 hgrow1; have X := Lib.hid (And.intro hown1 hgrow1); clear hown1 hgrow1))
    go_ret
    have e1 : stepC st n = (((st.length : Nat) : Int), st ++ [n]) := by unfold stepC; rw [if_neg (by rw [HIN.out]; simp)]
    rw [e1]
    have hb : w1.cell? ⟨NB, 0, none⟩ = some (.map (some MB)) := (World.cell?_of_block (a := ⟨NB, 0, none⟩) (X.out.2.block NB (World.block_lt_of_cell? _ _ hbox) (by simpa using hne))).trans hbox
    exact ⟨rfl, CI.push hown S.out HH.out HA.out hb X.out.1 HIN.out, .inr X.out.2⟩

theorem nm_counter (NB MB B0 Bn : Nat) (hne : NB ≠ MB) (h1 : NB < Bn) (h2 : MB < Bn) (h3 : B0 ≤ MB) : Nm stepC List.length 87 NB (CI NB MB) (fun b => b = NB ∨ b = MB) B0 Bn where
  own := fun b hb => by rcases hb with rfl | rfl; exact h1; exact h2
  stay := fun st W W' hc hk _ => by
    obtain ⟨a, D, b, c⟩ := hc
    refine ⟨(World.cell?_of_block (a := ⟨NB, 0, none⟩) (hk NB (.inl rfl))).trans a, D, ?_, c⟩
    obtain ⟨es, ck, hh, rest⟩ := b
    exact ⟨es, ck, (hk MB (.inr rfl)).trans hh, rest⟩
  grow := fun st n => by
    unfold stepC
    split
    · simp
    · simp
  fits := fun st W n _ hn hs => by
    unfold stepC
    split
    · have := List.idxOf_le_length (a := n) (l := st)
      simp only
      omega
    · simp only
      omega
  call := fun st W n hc hs hn hb => (counter1_any n hn NB MB st hs W hne hc).mono fun e w' ⟨he, hc', hw⟩ => by
    rcases hw with rfl | hg
    · exact ⟨he, hc', Nat.le_refl _, Below.refl _ _, fun _ _ _ => rfl⟩
    · exact ⟨he, hc', hg.size, (Below.refl _ _).grown hg (by omega) (fun k hk => by have := Option.some.inj hk; omega), fun b hb' hns => hg.block b hb' (fun e => hns (.inr (Option.some.inj e)))⟩
end Go.Proofs.Ytflomdnjabgnaaa
/-
  Layer 5: counter, Canon.
-/
namespace Go.Proofs.Ytflomdnjabgnaaa
open Go.RowKit Go.Maps

set_option maxRecDepth 100000 in
theorem counter_any (w : World) : Calls Try.prog 74 #[] w fun e w' => e = .returned (.func (.func 87) #[] #[.pointer (some ⟨w.heap.size + 1, 0, none⟩)]) ∧ w'.heap.size = w.heap.size + 2 ∧ CI (w.heap.size + 1) w.heap.size [] w' ∧ Below w.heap.size w w' := by
  have hmm := @run_makeMap Try.prog
  go_enter Try.func74, Try.ntmps74
  go_wp2
  clear hmm
  go_ret
  refine ⟨rfl, by simp, ⟨?_, .map [], ?_, rfl, fun n => rfl, fun i h => by simp at h⟩, below2 _ _ _⟩
  · rw [_root_.Go.Joins.cell_alloc_mark_at _ _ _ _ _ 0 (by simp)]; rfl
  · have := World.ownsMap_made (H := Unit) w Try.prog 2 (plainElem Try.prog 2)
    exact this.alloc _

set_option maxRecDepth 100000 in
theorem canon_any (ts : Ts) (hbig : ts.size ≤ 900000) (hok : ts.ok) (w : World) (p : Option Addr) (c : Nat) (hat : Ts.At w p ts) :
    Calls Try.prog 41 #[.slice p ts.len c] w fun e w' => ∃ us q, e = .returned (.slice q us.len us.len) ∧ Ts.AtB w.heap.size w' q us ∧ Ts.twin us (renT stepC ts []).1 ∧ us.ok ∧ (q = none → us.len = 0) ∧ Below w.heap.size w w' := by
  have OK := Lib.hid hok
  have AT := Lib.hid hat
  clear hok hat
  go_enter Try.func41, Try.ntmps41
  go_wp2_with fail
  refine (counter_any w).mono ?_
  rintro e w1 ⟨rfl, hs1, hci, hB1⟩
  have hat1 := AT.out.atP.stay (w' := w1) fun b hb _ => hB1.block b hb
  have CI1 := Lib.hid hci
  have A1 := Lib.hid hat1
  have B1 := Lib.hid hB1
  clear hci hat1 hB1
  go_wp2_with fail
  refine (renamed_counter ts hbig OK.out [] w1 (nm_counter (w.heap.size + 1) w.heap.size w.heap.size w1.heap.size (by omega) (by omega) (by omega) (Nat.le_refl _)) p c A1.out (by omega) CI1.out (by simp; omega)).mono ?_
  rintro e w2 ⟨us, q, rfl, h1, h2, h3, h4, _, h5, h6, _⟩
  have H1 := Lib.hid h1
  have H2 := Lib.hid h2
  have H3 := Lib.hid h3
  have H6 := Lib.hid h6
  clear h1 h2 h3 h6
  go_wp2
  go_ret
  exact ⟨us, q, rfl, H1.out.stay (by omega) fun _ _ _ _ => rfl, H2.out, H3.out, h4, B1.out.trans H6.out⟩
end Go.Proofs.Ytflomdnjabgnaaa
