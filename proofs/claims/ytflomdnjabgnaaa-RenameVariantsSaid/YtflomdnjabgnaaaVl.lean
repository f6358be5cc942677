import Derived.Test.YtflomdnjabgnaaaVj
import Derived.Deep.RegionHeld3
import Derived.Deep.DeepCutAuto
/-
  Layer 5: variants.
-/
namespace Go.Proofs.Ytflomdnjabgnaaa
open Go.RowKit Go.Maps

/-- alike, the variables by their names -/
def varB (ts us : Ts) (sa sb : List Int) : Bool := alike (renT stepC ts sa).1 (renT stepC us sb).1

theorem varB_cons (k : Int) (s : ByteArray) (n : Int) (p : Option Addr) (c : Nat) (kids rest : Ts) (k' : Int) (s' : ByteArray) (n' : Int) (p' : Option Addr) (c' : Nat) (kids' rest' : Ts) (sa sb : List Int) :
    varB (.cons k s n p c kids rest) (.cons k' s' n' p' c' kids' rest') sa sb =
      (headAlike k k' s s' (if (k == 1) = true then stepC sa n else (n, sa)).1 (if (k' == 1) = true then stepC sb n' else (n', sb)).1 &&
        (varB kids kids' (if (k == 1) = true then stepC sa n else (n, sa)).2 (if (k' == 1) = true then stepC sb n' else (n', sb)).2 &&
         varB rest rest' (renT stepC kids (if (k == 1) = true then stepC sa n else (n, sa)).2).2 (renT stepC kids' (if (k' == 1) = true then stepC sb n' else (n', sb)).2).2)) := by
  simp only [varB, renT, alike, headAlike, Bool.and_assoc]

/-- two counters that remember apart -/
structure Two (A MA B MB : Nat) (B0 : Nat) (sa sb : List Int) (w : World) : Prop where
  a : CI A MA sa w
  b : CI B MB sb w

/-- where they lie -/
structure Apart (A MA B MB B0 Bn : Nat) : Prop where
  h1 : A ≠ MA
  h2 : B ≠ MB
  h3 : A ≠ MB
  h4 : B ≠ MA
  h5 : MA ≠ MB
  a : B0 ≤ A ∧ A < Bn
  b : B0 ≤ B ∧ B < Bn
  ma : B0 ≤ MA ∧ MA < Bn
  mb : B0 ≤ MB ∧ MB < Bn

/-- what a call leaves as it was -/
structure Kq (B0 MA MB : Nat) (w w' : World) : Prop where
  size : w.heap.size ≤ w'.heap.size
  B : Below B0 w w'
  old : ∀ b, b < w.heap.size → b ≠ MA → b ≠ MB → w'.heap[b]? = w.heap[b]?

theorem Kq.refl {B0 MA MB : Nat} (w : World) : Kq B0 MA MB w w := ⟨Nat.le_refl _, Below.refl _ _, fun _ _ _ _ => rfl⟩
theorem Kq.trans {B0 MA MB : Nat} {w w1 w2 : World} (h : Kq B0 MA MB w w1) (h' : Kq B0 MA MB w1 w2) : Kq B0 MA MB w w2 :=
  ⟨Nat.le_trans h.size h'.size, h.B.trans h'.B, fun b hb h1 h2 => (h'.old b (Nat.lt_of_lt_of_le hb h.size) h1 h2).trans (h.old b hb h1 h2)⟩

theorem CI.move {NB MB : Nat} {st : List Int} {W W' : World} (h : CI NB MB st W) (h1 : W'.heap[NB]? = W.heap[NB]?) (h2 : W'.heap[MB]? = W.heap[MB]?) : CI NB MB st W' := by
  obtain ⟨a, D, b, c⟩ := h
  refine ⟨(World.cell?_of_block (a := ⟨NB, 0, none⟩) h1).trans a, D, ?_, c⟩
  obtain ⟨es, ck, hh, rest⟩ := b
  exact ⟨es, ck, h2.trans hh, rest⟩

theorem count_any (n : Int) (hn : -9223372036854775808 ≤ n ∧ n ≤ 9223372036854775807) (NB MB B0 : Nat) (st : List Int) (hst : st.length < 1000000) (hne : NB ≠ MB) (hB : B0 ≤ MB) (W0 W : World) (hci : CI NB MB st W0) (hh : W.heap = W0.heap) (hW : B0 ≤ W.heap.size) :
    Calls Try.prog 87 #[.int .i64 n, .pointer (some ⟨NB, 0, none⟩)] W fun e w' => e = .returned (.int .i64 (stepC st n).1) ∧ CI NB MB (stepC st n).2 w' ∧ W.heap.size ≤ w'.heap.size ∧ Below B0 W w' ∧ ∀ b, b < W.heap.size → b ≠ MB → w'.heap[b]? = W.heap[b]? :=
  (counter1_any n hn NB MB st hst W hne (hci.move (by rw [hh]) (by rw [hh]))).mono fun e w' ⟨he, hc', hw⟩ => by
    rcases hw with rfl | hg
    · exact ⟨he, hc', Nat.le_refl _, Below.refl _ _, fun _ _ _ => rfl⟩
    · refine ⟨he, hc', hg.size, ?_, fun b hb' hns => hg.block b hb' (fun e => hns (Option.some.inj e))⟩
      exact ⟨hg.os, hg.tape, hg.output, hg.size, fun b hb => hg.block b (by omega) (fun e => by have := Option.some.inj e; omega)⟩

set_option maxRecDepth 100000 in
set_option maxHeartbeats 4000000 in
theorem variants_rec {A MA B MB B0 Bn : Nat} (P : Apart A MA B MB B0 Bn) :
    ∀ (sz : Nat) (ts us : Ts), ts.size < sz → ts.size ≤ 900000 → us.size ≤ 900000 → ts.ok → us.ok → ∀ (sa sb : List Int) (w : World) (p q : Option Addr) (c d : Nat), Ts.AtP (· < B0) w p ts → Ts.AtP (· < B0) w q us → CI A MA sa w → CI B MB sb w → sa.length + ts.size ≤ 1000000 → sb.length + us.size ≤ 1000000 → Bn ≤ w.heap.size →
    Calls Try.prog 76 #[.slice p ts.len c, .slice q us.len d, .func (.func 87) #[] #[.pointer (some ⟨A, 0, none⟩)], .func (.func 87) #[] #[.pointer (some ⟨B, 0, none⟩)]] w fun e w' =>
      e = .returned (.bool (varB ts us sa sb)) ∧ (varB ts us sa sb = true → CI A MA (renT stepC ts sa).2 w' ∧ CI B MB (renT stepC us sb).2 w') ∧ Kq B0 MA MB w w' := by
  intro sz
  induction sz with
  | zero => intro ts us h; omega
  | succ sz ih =>
    intro ts us hsz hbig hbig' hok hok' sa sb w p q c d hat hat' hca hcb hna hnb hBn
    have hls := Ts.len_size ts
    have hls' := Ts.len_size us
    obtain ⟨bt, ot, hpt, hlt⟩ := hat
    obtain ⟨bu, ou, hpu, hlu⟩ := hat'
    have OKT := Lib.hid hok
    have OKU := Lib.hid hok'
    have PT := Lib.hid hpt
    have PU := Lib.hid hpu
    have LT := Lib.hid hlt
    have LU := Lib.hid hlu
    have CA := Lib.hid hca
    have CB := Lib.hid hcb
    clear hok hok' hpt hpu hlt hlu hca hcb
    by_cases hll : ((ts.len : Int) != (us.len : Int)) = true
    · have hv : varB ts us sa sb = false := by
        cases h : varB ts us sa sb with
        | false => rfl
        | true =>
          have h1 := alike_len _ _ h
          rw [renT_len, renT_len] at h1
          simp [h1] at hll
      have HV := Lib.hid hv
      clear hv
      go_enter Try.func76, Try.ntmps76
      go_wp2
      go_ret
      exact ⟨by rw [HV.out]; rfl, ⟨(fun h => absurd (HV.out.symm.trans h) (by simp)), Kq.refl _⟩⟩
    · rw [Bool.not_eq_true] at hll
      have hlen : ts.len = us.len := by have h := hll; simp at h; omega
      have HLEN := Lib.hid hlen
      clear hlen
      go_enter Try.func76, Try.ntmps76
      go_wp2_with fail
      go_loopw [19] (fun s19 wr => ∃ (j : Nat) (ja jb : List Int), j ≤ ts.len ∧ s19 = .int .i64 j ∧ Hid (varB (ts.drop j) (us.drop j) ja jb = varB ts us sa sb) ∧ Hid ((renT stepC (ts.drop j) ja).2 = (renT stepC ts sa).2 ∧ (renT stepC (us.drop j) jb).2 = (renT stepC us sb).2) ∧ Hid (CI A MA ja wr) ∧ Hid (CI B MB jb wr) ∧ Hid (Kq B0 MA MB w wr) ∧
        ja.length + (ts.drop j).size ≤ 1000000 ∧ jb.length + (us.drop j).size ≤ 1000000) (fun i _ => ts.len - (intOf i).toNat)
      case atStart => exact ⟨0, sa, sb, Nat.zero_le _, rfl, Lib.hid rfl, Lib.hid ⟨rfl, rfl⟩, CA, CB, Lib.hid (Kq.refl _), hna, hnb⟩
      case round =>
        obtain ⟨j, ja, jb, hj, rfl, RV, RS, RA, RB, RK, hja, hjb⟩ := hrel
        by_cases hjl : j < ts.len
        · have hjl' : j < us.len := by have := HLEN.out; omega
          have hpt := Ts.some_of PT.out hjl
          have hpu := Ts.some_of PU.out hjl'
          subst hpt hpu
          have hkp := RK.out
          have hws := hkp.size
          obtain ⟨k, s, n, pp, cc, kids, rest, HD, EL, hatk, hbB, hsz1, hoke⟩ := Ts.elemP (Ts.liesP_stay (fun x hx _ => hkp.B.block x hx) ts LT.out) OKT.out hjl
          obtain ⟨k', s', n', pp', cc', kids', rest', HD', EL', hatk', hbB', hsz1', hoke'⟩ := Ts.elemP (Ts.liesP_stay (fun x hx _ => hkp.B.block x hx) us LU.out) OKU.out hjl'
          have c0 := EL.c0
          have c1 := EL.c1
          have c2 := EL.c2
          have c3 := EL.c3
          have d0 := EL'.c0
          have d1 := EL'.c1
          have d2 := EL'.c2
          have d3 := EL'.c3
          obtain ⟨W2, hW2, hs2, hB2, hc2, hf2⟩ := alloc_new wr #[.int .u8 k, .string s, .int .i64 n, .slice pp kids.len cc] 24
          obtain ⟨W3, hW3, hs3', hB32, hd3, hg3⟩ := alloc_new W2 #[.int .u8 k', .string s', .int .i64 n', .slice pp' kids'.len cc'] 24
          have hs3 : W3.heap.size = wr.heap.size + 2 := by omega
          have hB3 : Below wr.heap.size wr W3 := hB2.trans (hB32.mono (by omega))
          have hc3 : ∀ i u, (#[.int .u8 k, .string s, .int .i64 n, .slice pp kids.len cc] : Array Value)[i]? = some u → W3.cell? ⟨wr.heap.size, i, none⟩ = some u := fun i u h => ((stays hB32).1 _ _ (by omega)).trans (hc2 i u h)
          have p2 := hc3 2 _ rfl
          have p3 := hc3 3 _ rfl
          have q2 := hd3 2 _ rfl
          have q3 := hd3 3 _ rfl
          have pf : W3.frozen? ⟨wr.heap.size, 2, none⟩ = false := ((stays hB32).2 _ _ (by omega)).trans (hf2 2)
          have qf := hg3 2
          rw [hs2] at q2 q3 qf
          rw [hW2] at hW3
          have CA3 := Lib.hid (RA.out.move (hB3.block A (by have := P.a; omega)) (hB3.block MA (by have := P.ma; omega)))
          have CB3 := Lib.hid (RB.out.move (hB3.block B (by have := P.b; omega)) (hB3.block MB (by have := P.mb; omega)))
          have PX := Lib.hid (And.intro p2 (And.intro p3 (And.intro q2 (And.intro q3 (And.intro pf qf)))))
          have ZW2 := Lib.hid hW2
          clear p2 p3 q2 q3 pf qf hW2 hc2 hf2 hg3 hB2 hB32
          have b0 := fun o => cell_alloc_old o d0
          have b1 := fun o => cell_alloc_old o d1
          have b2 := fun o => cell_alloc_old o d2
          have b3 := fun o => cell_alloc_old o d3
          clear hc3 hd3
          obtain ⟨n1, a1, hna1⟩ : ∃ n1 a1, (if (k == 1) = true then stepC ja n else (n, ja)) = (n1, a1) := ⟨_, _, rfl⟩
          obtain ⟨n2, b1', hnb1⟩ : ∃ n2 b1', (if (k' == 1) = true then stepC jb n' else (n', jb)) = (n2, b1') := ⟨_, _, rfl⟩
          have hvc : varB ts us sa sb = (headAlike k k' s s' n1 n2 && (varB kids kids' a1 b1' && varB rest rest' (renT stepC kids a1).2 (renT stepC kids' b1').2)) := by
            rw [← RV.out, HD.out, HD'.out, varB_cons, hna1, hnb1]
          have VC := Lib.hid hvc
          have NA := Lib.hid hna1
          have NB := Lib.hid hnb1
          have KW3 : Hid (Kq B0 MA MB wr W3) := Lib.hid ⟨hB3.size, hB3.mono (by have := P.a; omega), fun b hb _ _ => hB3.block b hb⟩
          clear hvc hna1 hnb1 hkp
          have OKE := Lib.hid hoke
          have OKE' := Lib.hid hoke'
          have hnn := hoke.2.2.1
          have hnn' := hoke'.2.2.1
          have hcc := hoke.2.2.2.1
          have hcc' := hoke'.2.2.2.1
          have hga := renT_cnt stepC List.length (nm_counter 0 1 0 2 (by omega) (by omega) (by omega) (by omega)).grow kids a1
          have hgb := renT_cnt stepC List.length (nm_counter 0 1 0 2 (by omega) (by omega) (by omega) (by omega)).grow kids' b1'
          have hl1 : a1.length ≤ ja.length + 1 := by
            have := (nm_counter 0 1 0 2 (by omega) (by omega) (by omega) (by omega)).grow ja n
            have e := congrArg Prod.snd NA.out
            simp only at e
            rw [← e]
            split <;> simp_all
          have hl2 : b1'.length ≤ jb.length + 1 := by
            have := (nm_counter 0 1 0 2 (by omega) (by omega) (by omega) (by omega)).grow jb n'
            have e := congrArg Prod.snd NB.out
            simp only at e
            rw [← e]
            split <;> simp_all
          rw [HD.out] at hja
          rw [HD'.out] at hjb
          simp only [Ts.size] at hja hjb
          clear hoke hoke'
          by_cases hkk : (k != k') = true
          · have hfalse : varB ts us sa sb = false := by rw [VC.out]; simp [headAlike, show k ≠ k' from by simpa using hkk]
            have FA := Lib.hid hfalse
            clear hfalse
            go_wp2
            rw [← hW3]
            go_ret
            exact ⟨by rw [FA.out]; rfl, ⟨(fun h => absurd (FA.out.symm.trans h) (by simp)), RK.out.trans KW3.out⟩⟩
          rw [Bool.not_eq_true] at hkk
          by_cases hss : (s.toList == s'.toList) = false
          · have hfalse : varB ts us sa sb = false := by rw [VC.out]; simp [headAlike, hss]
            have FA := Lib.hid hfalse
            clear hfalse
            go_wp2
            rw [← hW3]
            go_ret
            exact ⟨by rw [FA.out]; rfl, ⟨(fun h => absurd (FA.out.symm.trans h) (by simp)), RK.out.trans KW3.out⟩⟩
          rw [Bool.not_eq_false] at hss
          by_cases hk1 : (k == 1) = true
          · obtain ⟨p2, p3, q2, q3, pf, qf⟩ := PX.out
            have e1 : stepC ja n = (n1, a1) := by have := NA.out; rwa [if_pos hk1] at this
            have hk1' : (k' == 1) = true := by have h1 : k = k' := (by simpa using hkk); rw [← h1]; exact hk1
            have e2 : stepC jb n' = (n2, b1') := by have := NB.out; rwa [if_pos hk1'] at this
            have E1 := Lib.hid e1
            have E2 := Lib.hid e2
            clear e1 e2 hk1'
            go_wp2_with fail
            rw [← hW3]
            have Z3 := Lib.hid hW3
            clear hW3
            have hjal : ja.length < 1000000 := by omega
            have hjbl : jb.length < 1000000 := by omega
            have hPa := P.a
            have hPb := P.b
            have hPma := P.ma
            have hPmb := P.mb
            have z1 : wr.heap.size ≠ MA := by omega
            have z2 : wr.heap.size + 1 ≠ MA := by omega
            have z3 : wr.heap.size ≠ MB := by omega
            have z4 : wr.heap.size + 1 ≠ MB := by omega
            have z5 : wr.heap.size < W3.heap.size := by omega
            have z6 : wr.heap.size + 1 < W3.heap.size := by omega
            have CLA := Lib.hid (count_any n hnn A MA B0 ja hjal P.h1 hPma.1 W3 W3.drew CA3.out rfl (show B0 ≤ W3.heap.size by omega))
            have BA3 : ∀ {w4 : World}, (∀ b, b < W3.drew.heap.size → b ≠ MA → w4.heap[b]? = W3.drew.heap[b]?) → w4.heap[B]? = W3.heap[B]? ∧ w4.heap[MB]? = W3.heap[MB]? := fun h => ⟨h B (show B < W3.heap.size by omega) (fun e => P.h4 e), h MB (show MB < W3.heap.size by omega) (fun e => P.h5 e.symm)⟩
            have z7 : A < W3.heap.size := by omega
            have z8 : MA < W3.heap.size := by omega
            go_region_with (first
              | (go_at_call_of 87 (Value.int .i64 n); refine CLA.out.mono ?_; rintro e w4 ⟨rfl, hciA, hsA, hBA, hoA⟩; have p2A := (World.cell?_of_block (a := ⟨wr.heap.size, 2, none⟩) (hoA _ z5 z1)).trans p2; have p3A := (World.cell?_of_block (a := ⟨wr.heap.size, 3, none⟩) (hoA _ z5 z1)).trans p3; have q2A := (World.cell?_of_block (a := ⟨wr.heap.size + 1, 2, none⟩) (hoA _ z6 z2)).trans q2; have q3A := (World.cell?_of_block (a := ⟨wr.heap.size + 1, 3, none⟩) (hoA _ z6 z2)).trans q3; have pfA := (World.frozen?_of_block (a := ⟨wr.heap.size, 2, none⟩) (hoA _ z5 z1)).trans pf; have qfA := (World.frozen?_of_block (a := ⟨wr.heap.size + 1, 2, none⟩) (hoA _ z6 z2)).trans qf; have CB4 := Lib.hid (CB3.out.move (BA3 hoA).1 (BA3 hoA).2); have CLB := Lib.hid (count_any n' hnn' B MB B0 jb hjbl P.h2 hPmb.1 w4 w4 CB4.out rfl (Nat.le_trans (show B0 ≤ W3.heap.size by omega) hsA)); have OA := Lib.hid hoA; have CIA := Lib.hid hciA; have BA := Lib.hid hBA; clear hoA hciA hBA; rw [E1.out])
              | (go_at_call_of 87 (Value.int .i64 n'); refine CLB.out.mono ?_; rintro e w5 ⟨rfl, hciB, hsB, hBB, hoB⟩; have p2B := (World.cell?_of_block (a := ⟨wr.heap.size, 2, none⟩) (hoB _ (Nat.lt_of_lt_of_le z5 hsA) z3)).trans p2A; have p3B := (World.cell?_of_block (a := ⟨wr.heap.size, 3, none⟩) (hoB _ (Nat.lt_of_lt_of_le z5 hsA) z3)).trans p3A; have q2B := (World.cell?_of_block (a := ⟨wr.heap.size + 1, 2, none⟩) (hoB _ (Nat.lt_of_lt_of_le z6 hsA) z4)).trans q2A; have q3B := (World.cell?_of_block (a := ⟨wr.heap.size + 1, 3, none⟩) (hoB _ (Nat.lt_of_lt_of_le z6 hsA) z4)).trans q3A; have pfB := (World.frozen?_of_block (a := ⟨wr.heap.size, 2, none⟩) (hoB _ (Nat.lt_of_lt_of_le z5 hsA) z3)).trans pfA; have qfB := (World.frozen?_of_block (a := ⟨wr.heap.size + 1, 2, none⟩) (hoB _ (Nat.lt_of_lt_of_le z6 hsA) z4)).trans qfA; have OB := Lib.hid hoB; have CIB := Lib.hid hciB; have BB := Lib.hid hBB; clear hoB hciB hBB; rw [E2.out]))
            all_goals
              obtain ⟨Wc, hWc⟩ : ∃ Wc, Wc = (w5.setCell ⟨wr.heap.size, 2, none⟩ (Value.int .i64 n1)).setCell ⟨wr.heap.size + 1, 2, none⟩ (Value.int .i64 n2) := ⟨_, rfl⟩
              rw [← hWc]
              have hbc : ∀ b, b ≠ wr.heap.size → b ≠ wr.heap.size + 1 → Wc.heap[b]? = w5.heap[b]? := fun b h1 h2 => by
                rw [hWc, Below.heap_setCell _ _ _ _ (by simpa using h2), Below.heap_setCell _ _ _ _ (by simpa using h1)]
              have hsc : Wc.heap.size = w5.heap.size := by rw [hWc]; simp
              have hsA' : W3.heap.size ≤ w4.heap.size := hsA
              have BA' : Below B0 W3 w4 := ⟨BA.out.os, BA.out.tape, BA.out.output, BA.out.size, BA.out.block⟩
              have x1 : (⟨wr.heap.size + 1, 2, none⟩ : Addr) ≠ ⟨wr.heap.size, 2, none⟩ := by simp
              have v2 : Wc.cell? ⟨wr.heap.size, 2, none⟩ = some (.int .i64 n1) := by rw [hWc, World.cell?_setCell_other _ _ _ _ (by simp)]; exact World.cell?_setCell_same _ _ _ p2B
              have v3 : Wc.cell? ⟨wr.heap.size, 3, none⟩ = some (.slice pp kids.len cc) := by rw [hWc, World.cell?_setCell_other _ _ _ _ (by simp), World.cell?_setCell_other _ _ _ _ (by simp)]; exact p3B
              have u2 : Wc.cell? ⟨wr.heap.size + 1, 2, none⟩ = some (.int .i64 n2) := by rw [hWc]; exact World.cell?_setCell_same _ _ _ (by rw [World.cell?_setCell_other _ _ _ _ (by simp)]; exact q2B)
              have u3 : Wc.cell? ⟨wr.heap.size + 1, 3, none⟩ = some (.slice pp' kids'.len cc') := by rw [hWc, World.cell?_setCell_other _ _ _ _ (by simp), World.cell?_setCell_other _ _ _ _ (by simp)]; exact q3B
              have KWc : Hid (Kq B0 MA MB wr Wc) := Lib.hid (by
                have hBw : Below B0 wr w5 := ((KW3.out.B.trans BA').trans BB.out)
                refine ⟨by omega, ?_, fun b hb h1 h2 => ?_⟩
                · rw [hWc]
                  exact (hBw.setCell (p := ⟨wr.heap.size, 2, none⟩) (show B0 ≤ wr.heap.size by omega) _).setCell (p := ⟨wr.heap.size + 1, 2, none⟩) (show B0 ≤ wr.heap.size + 1 by omega) _
                · exact (hbc b (by omega) (by omega)).trans ((OB.out b (by omega) h2).trans ((OA.out b (show b < W3.heap.size by omega) h1).trans (KW3.out.old b hb h1 h2))))
              have CAc : Hid (CI A MA a1 Wc) := Lib.hid (by
                have h := CIA.out
                rw [E1.out] at h
                have y1 : A ≠ MB := P.h3
                have y2 : MA ≠ MB := P.h5
                exact (h.move (OB.out A (by omega) y1) (OB.out MA (by omega) y2)).move (hbc A (by omega) (by omega)) (hbc MA (by omega) (by omega)))
              have CBc : Hid (CI B MB b1' Wc) := Lib.hid (by
                have h := CIB.out
                rw [E2.out] at h
                exact h.move (hbc B (by omega) (by omega)) (hbc MB (by omega) (by omega)))
              have hwc := KWc.out.size
              have ATA : Hid (Ts.AtP (· < B0) Wc pp kids) := Lib.hid (hatk.stay fun b hb _ => KWc.out.B.block b hb)
              have ATB : Hid (Ts.AtP (· < B0) Wc pp' kids') := Lib.hid (hatk'.stay fun b hb _ => KWc.out.B.block b hb)
              clear hWc hbc hsc x1 hatk hatk' c0 c1 c2 c3 d0 d1 d2 d3 b0 b1 b2 b3 p2 p3 q2 q3 pf qf p2A p3A q2A q3A pfA qfA p2B p3B q2B q3B pfB qfB z1 z2 z3 z4 z5 z6 z7 z8 CLA CLB BA3 OA OB BA BB CIA CIB hsA hsB hsA' BA'
              by_cases hne : (n1 != n2) = true
              · have hfalse : varB ts us sa sb = false := by rw [VC.out]; simp [headAlike, show n1 ≠ n2 from by simpa using hne]
                have FA := Lib.hid hfalse
                clear hfalse
                go_wp2
                go_ret
                exact ⟨by rw [FA.out]; rfl, ⟨(fun h => absurd (FA.out.symm.trans h) (by simp)), RK.out.trans KWc.out⟩⟩
              · rw [Bool.not_eq_true] at hne
                have HEAD : Hid (headAlike k k' s s' n1 n2 = true) := Lib.hid (by simp only [headAlike, hss, Bool.true_and]; simp at hkk hne; simp [hkk, hne])
                go_wp2_with fail
                refine (ih kids kids' (by omega) (by omega) (by omega) OKE.out.2.2.2.2.2.1 OKE'.out.2.2.2.2.2.1 a1 b1' Wc pp pp' cc cc' ATA.out ATB.out CAc.out CBc.out (by omega) (by omega) (by omega)).mono ?_
                rintro e w6 ⟨rfl, hci6, hk6⟩
                have KF := Lib.hid ((RK.out.trans KWc.out).trans hk6)
                have C6 := Lib.hid hci6
                clear hci6 hk6
                by_cases hvk : varB kids kids' a1 b1' = true
                · have hv2 : varB rest rest' (renT stepC kids a1).2 (renT stepC kids' b1').2 = varB ts us sa sb := by
                    rw [VC.out, hvk, HEAD.out, Bool.true_and, Bool.true_and]
                  have V2 := Lib.hid hv2
                  have VK := Lib.hid hvk
                  rw [hvk]
                  clear hv2 hvk
                  go_wp2
                  go_roundw
                  case rel =>
                    have r1 := RS.out
                    rw [HD.out, HD'.out] at r1
                    simp only [renT, NA.out, NB.out] at r1
                    refine ⟨j + 1, (renT stepC kids a1).2, (renT stepC kids' b1').2, by omega, by go_num, Lib.hid ?_, Lib.hid ?_, Lib.hid (C6.out VK.out).1, Lib.hid (C6.out VK.out).2, KF, ?_, ?_⟩
                    · rw [Ts.drop_succ j ts HD.out, Ts.drop_succ j us HD'.out]; exact V2.out
                    · rw [Ts.drop_succ j ts HD.out, Ts.drop_succ j us HD'.out]; exact r1
                    · rw [Ts.drop_succ j ts HD.out]; omega
                    · rw [Ts.drop_succ j us HD'.out]; omega
                  case measure => simp [intOf]; omega
                · rw [Bool.not_eq_true] at hvk
                  have hfalse : varB ts us sa sb = false := by rw [VC.out, hvk]; simp
                  have FA := Lib.hid hfalse
                  rw [hvk]
                  clear hfalse hvk
                  go_wp2
                  go_ret
                  exact ⟨by rw [FA.out]; rfl, ⟨(fun h => absurd (FA.out.symm.trans h) (by simp)), KF.out⟩⟩
          · rw [Bool.not_eq_true] at hk1
            obtain ⟨p2, p3, q2, q3, pf, qf⟩ := PX.out
            have hk1' : (k' == 1) = false := by have h1 : k = k' := (by simpa using hkk); rw [← h1]; exact hk1
            have e1 : n1 = n ∧ a1 = ja := by have := NA.out; rw [if_neg (by rw [hk1]; simp)] at this; cases this; exact ⟨rfl, rfl⟩
            have e2 : n2 = n' ∧ b1' = jb := by have := NB.out; rw [if_neg (by rw [hk1']; simp)] at this; cases this; exact ⟨rfl, rfl⟩
            obtain ⟨rfl, rfl⟩ := e1
            obtain ⟨rfl, rfl⟩ := e2
            clear hk1'
            by_cases hne : (n1 != n2) = true
            · have hfalse : varB ts us sa sb = false := by rw [VC.out]; simp [headAlike, show n1 ≠ n2 from by simpa using hne]
              have FA := Lib.hid hfalse
              clear hfalse
              go_wp2
              rw [← hW3]
              go_ret
              exact ⟨by rw [FA.out]; rfl, ⟨(fun h => absurd (FA.out.symm.trans h) (by simp)), RK.out.trans KW3.out⟩⟩
            · rw [Bool.not_eq_true] at hne
              have HEAD : Hid (headAlike k k' s s' n1 n2 = true) := Lib.hid (by simp only [headAlike, hss, Bool.true_and]; simp at hkk hne; simp [hkk, hne])
              go_wp2_with fail
              rw [← hW3]
              obtain ⟨Wc, hWc⟩ : ∃ Wc, Wc = W3 := ⟨_, rfl⟩
              rw [← hWc]
              have KWc : Hid (Kq B0 MA MB wr Wc) := Lib.hid (by rw [hWc]; exact KW3.out)
              have CAc : Hid (CI A MA a1 Wc) := Lib.hid (by rw [hWc]; exact CA3.out)
              have CBc : Hid (CI B MB b1' Wc) := Lib.hid (by rw [hWc]; exact CB3.out)
              have ATA : Hid (Ts.AtP (· < B0) Wc pp kids) := Lib.hid (hatk.stay fun b hb _ => KWc.out.B.block b hb)
              have ATB : Hid (Ts.AtP (· < B0) Wc pp' kids') := Lib.hid (hatk'.stay fun b hb _ => KWc.out.B.block b hb)
              have hwc := KWc.out.size
              clear hWc hatk hatk' c0 c1 c2 c3 d0 d1 d2 d3 b0 b1 b2 b3 p2 p3 q2 q3 pf qf
              refine (ih kids kids' (by omega) (by omega) (by omega) OKE.out.2.2.2.2.2.1 OKE'.out.2.2.2.2.2.1 a1 b1' Wc pp pp' cc cc' ATA.out ATB.out CAc.out CBc.out (by omega) (by omega) (by omega)).mono ?_
              rintro e w6 ⟨rfl, hci6, hk6⟩
              have KF := Lib.hid ((RK.out.trans KWc.out).trans hk6)
              have C6 := Lib.hid hci6
              clear hci6 hk6
              by_cases hvk : varB kids kids' a1 b1' = true
              · have hv2 : varB rest rest' (renT stepC kids a1).2 (renT stepC kids' b1').2 = varB ts us sa sb := by
                  rw [VC.out, hvk, HEAD.out, Bool.true_and, Bool.true_and]
                have V2 := Lib.hid hv2
                have VK := Lib.hid hvk
                rw [hvk]
                clear hv2 hvk
                go_wp2
                go_roundw
                case rel =>
                  have r1 := RS.out
                  rw [HD.out, HD'.out] at r1
                  simp only [renT, NA.out, NB.out] at r1
                  refine ⟨j + 1, (renT stepC kids a1).2, (renT stepC kids' b1').2, by omega, by go_num, Lib.hid ?_, Lib.hid ?_, Lib.hid (C6.out VK.out).1, Lib.hid (C6.out VK.out).2, KF, ?_, ?_⟩
                  · rw [Ts.drop_succ j ts HD.out, Ts.drop_succ j us HD'.out]; exact V2.out
                  · rw [Ts.drop_succ j ts HD.out, Ts.drop_succ j us HD'.out]; exact r1
                  · rw [Ts.drop_succ j ts HD.out]; omega
                  · rw [Ts.drop_succ j us HD'.out]; omega
                case measure => simp [intOf]; omega
              · rw [Bool.not_eq_true] at hvk
                have hfalse : varB ts us sa sb = false := by rw [VC.out, hvk]; simp
                have FA := Lib.hid hfalse
                rw [hvk]
                clear hfalse hvk
                go_wp2
                go_ret
                exact ⟨by rw [FA.out]; rfl, ⟨(fun h => absurd (FA.out.symm.trans h) (by simp)), KF.out⟩⟩
        · have hd1 := Ts.drop_end hjl
          have hd2 := Ts.drop_end (ts := us) (j := j) (by have := HLEN.out; omega)
          have r1 := RS.out
          have r2 := RV.out
          rw [hd1, hd2] at r1 r2
          have HV : Hid (varB ts us sa sb = true) := Lib.hid r2.symm
          have H1 : Hid (ja = (renT stepC ts sa).2 ∧ jb = (renT stepC us sb).2) := Lib.hid r1
          clear hd1 hd2 r1 r2
          go_wp2
          go_ret
          exact ⟨by rw [HV.out]; rfl, ⟨(fun _ => ⟨by rw [← H1.out.1]; exact RA.out, by rw [← H1.out.2]; exact RB.out⟩), RK.out⟩⟩
end Go.Proofs.Ytflomdnjabgnaaa
/-
  Layer 5: Variants; terms that are known.
-/
namespace Go.Proofs.Ytflomdnjabgnaaa
open Go.RowKit Go.Maps

set_option maxRecDepth 100000 in
set_option maxHeartbeats 1000000 in
theorem variants_any (ts us : Ts) (hbig : ts.size ≤ 900000) (hbig' : us.size ≤ 900000) (hok : ts.ok) (hok' : us.ok) (w : World) (p q : Option Addr) (c d : Nat) (hat : Ts.At w p ts) (hat' : Ts.At w q us) :
    Calls Try.prog 43 #[.slice p ts.len c, .slice q us.len d] w fun e w' => e = .returned (.bool (varB ts us [] [])) ∧ Below w.heap.size w w' := by
  have OK := Lib.hid hok
  have OK' := Lib.hid hok'
  have AT := Lib.hid hat
  have AT' := Lib.hid hat'
  clear hok hok' hat hat'
  go_enter Try.func43, Try.ntmps43
  go_wp2_with fail
  refine (counter_any w).mono ?_
  rintro e w1 ⟨rfl, hs1, hci1, hB1⟩
  have C1 := Lib.hid hci1
  have B1 := Lib.hid hB1
  have HS1 := Lib.hid hs1
  clear hci1 hB1 hs1
  go_wp2_with fail
  refine (counter_any w1).mono ?_
  rintro e w2 ⟨rfl, hs2, hci2, hB2⟩
  have hs1 := HS1.out
  have hB := B1.out.trans (hB2.mono (by omega))
  have C1' := Lib.hid (C1.out.move (hB2.block _ (by omega)) (hB2.block _ (by omega)))
  have C2 := Lib.hid hci2
  have A1 := Lib.hid (AT.out.atP.stay (w' := w2) fun b hb _ => hB.block b hb)
  have A2 := Lib.hid (AT'.out.atP.stay (w' := w2) fun b hb _ => hB.block b hb)
  have BB := Lib.hid hB
  clear hci2 hB2 hB
  have P : Apart (w.heap.size + 1) w.heap.size (w1.heap.size + 1) w1.heap.size w.heap.size w2.heap.size := ⟨by omega, by omega, by omega, by omega, by omega, by omega, by omega, by omega, by omega⟩
  clear hs1 hs2
  go_wp2_with fail
  refine (variants_rec P _ ts us (Nat.lt_succ_self _) hbig hbig' OK.out OK'.out [] [] w2 p q c d A1.out A2.out C1'.out C2.out (by simp; omega) (by simp; omega) (Nat.le_refl _)).mono ?_
  rintro e w3 ⟨rfl, _, hk⟩
  have K := Lib.hid hk
  clear hk
  go_wp2
  go_ret
  exact ⟨rfl, BB.out.trans K.out.B⟩
end Go.Proofs.Ytflomdnjabgnaaa
