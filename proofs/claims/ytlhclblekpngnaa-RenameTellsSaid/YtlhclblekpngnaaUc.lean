/-
  The reference's Vars.
-/
import Derived.Test.YtlhclblekpngnaaTz
import Derived.Laws.AppendOwnNone
namespace Go.Proofs.Ytlhclblekpngnaa
open Go.RowKit

def rv : Ts → List Int → List Int
  | .nil, acc => acc
  | .cons k _ n _ _ kids rest, acc => rv rest (((if (k == 1) = true then [n] else []) ++ rv kids []).foldl addNum acc)

theorem rv_eq : ∀ (ts : Ts) (acc : List Int), rv ts acc = ((nodesOf ts).map Ts.mark).foldl newNum acc
  | .nil, _ => rfl
  | .cons k s n p c kids rest, acc => by
    have h1 := rv_eq kids []
    have h2 : rv kids [] = numsOf ((nodesOf kids).map Ts.mark) := h1
    simp only [rv]
    rw [rv_eq rest, h2, List.foldl_append, addNums_numsOf]
    simp only [nodesOf, List.map_cons, List.map_append, List.foldl_cons, List.foldl_append]
    congr 2
    by_cases hk : (k == 1) = true
    · rw [if_pos hk]
      show addNum acc n = newNum acc (k, n)
      rw [newNum, if_pos hk]; rfl
    · rw [if_neg hk]
      show acc = newNum acc (k, n)
      rw [newNum, if_neg hk]

theorem newNums_len : ∀ (l : List (Int × Int)) (acc : List Int), acc.length ≤ (l.foldl newNum acc).length ∧ (l.foldl newNum acc).length ≤ acc.length + l.length := by
  intro l
  induction l with
  | nil => intro acc; simp
  | cons x l ih =>
    intro acc
    have h := ih (newNum acc x)
    have h2 : acc.length ≤ (newNum acc x).length ∧ (newNum acc x).length ≤ acc.length + 1 := by
      unfold newNum
      split
      · split
        · omega
        · simp
      · omega
    simp only [List.foldl_cons, List.length_cons]
    omega

theorem rv_len (ts : Ts) (acc : List Int) : acc.length ≤ (rv ts acc).length ∧ (rv ts acc).length ≤ acc.length + ts.size := by
  rw [rv_eq]
  have := newNums_len ((nodesOf ts).map Ts.mark) acc
  rw [List.length_map, nodesOf_length] at this
  exact this

theorem addNums_len : ∀ (l acc : List Int), acc.length ≤ (l.foldl addNum acc).length ∧ (l.foldl addNum acc).length ≤ acc.length + l.length := by
  intro l
  induction l with
  | nil => intro acc; simp
  | cons x l ih =>
    intro acc
    have h := ih (addNum acc x)
    have h2 : acc.length ≤ (addNum acc x).length ∧ (addNum acc x).length ≤ acc.length + 1 := by
      unfold addNum
      split
      · omega
      · simp
    simp only [List.foldl_cons, List.length_cons]
    omega

theorem own_stay {w w' : World} {base n size : Nat} {e : TypeId} {v : Value} {xs : List Value} (h : w.ownsRow base e size v n xs) (hk : ∀ k, v.ownBlock = some k → w'.heap[k]? = w.heap[k]?) : w'.ownsRow base e size v n xs := by
  rcases h.2 with ⟨rfl, h0⟩ | ⟨g, cap, cur, rfl, hb, hg, h2⟩
  · exact ⟨h.1, .inl ⟨rfl, h0⟩⟩
  · exact ⟨h.1, .inr ⟨g, cap, cur, rfl, hb, (hk g rfl).trans hg, h2⟩⟩

theorem own_built (w : World) (x : Value) (e : TypeId) {base : Nat} (hb : base ≤ w.heap.size) : (w.alloc (.cells #[x] e)).ownsRow base e 1 (.slice (some ⟨w.heap.size, 0, none⟩) 1 1) 1 [x] :=
  ⟨rfl, .inr ⟨w.heap.size, 1, #[x], rfl, hb, heap_alloc_new w _, Nat.le_refl _, by unfold maxLen; omega, rfl, rfl⟩⟩

/-- between two rounds of the inner loop: what is told so far is a row of the call's own; what is to come lies elsewhere -/
def Mid (w : World) (p5 : Option Addr) (zs : List Int) (W : World) (v3 : Value) (acc : List Int) : Prop :=
  W.ownsRow w.heap.size 2 1 v3 acc.length (acc.map (Value.int .i64)) ∧
  (∃ b5 o5, (zs = [] ∨ p5 = some ⟨b5, o5, none⟩) ∧ (∀ (i : Nat) (h : i < zs.length), W.cell? ⟨b5, o5 + i, none⟩ = some (.int .i64 zs[i])) ∧ v3.ownBlock ≠ some b5) ∧ Below w.heap.size w W

theorem Mid.start {w : World} {p5 : Option Addr} {zs : List Int} {W : World} {v3 : Value} {acc : List Int} (h : W.ownsRow w.heap.size 2 1 v3 acc.length (acc.map (Value.int .i64))) (hi : IsInts W p5 zs) (hB : Below w.heap.size w W)
    (hne : ∀ b5 o5, p5 = some ⟨b5, o5, none⟩ → v3.ownBlock ≠ some b5) : Mid w p5 zs W v3 acc := by
  refine ⟨h, ?_, hB⟩
  obtain ⟨b5, o5, h1, h2⟩ := hi
  rcases h1 with rfl | h1
  · exact ⟨W.heap.size, 0, .inl rfl, fun i hi => by simp at hi, fun e => by have := (h.lt _ e).2; omega⟩
  · exact ⟨b5, o5, .inr h1, h2, hne _ _ h1⟩

theorem Mid.push {w : World} {p5 : Option Addr} {zs : List Int} {W w2 : World} {v3 v' : Value} {acc : List Int} {z : Int} {o : Obj} (h : Mid w p5 zs W v3 acc) (hown : w2.ownsRow w.heap.size 2 1 v' (acc.length + 1) (acc.map (Value.int .i64) ++ [.int .i64 z]))
    (hg : (W.alloc o).grownBy w2 v3.ownBlock) (hob : v'.ownBlock = v3.ownBlock ∨ v'.ownBlock = some (W.alloc o).heap.size) (hz : zs ≠ []) : Mid w p5 zs w2 v' (acc ++ [z]) := by
  obtain ⟨h1, ⟨b5, o5, h2, h3, h4⟩, h5⟩ := h
  refine ⟨by simpa using hown, ⟨b5, o5, h2, fun i hi => ?_, ?_⟩, ?_⟩
  · have hlt : b5 < W.heap.size := World.block_lt_of_cell? _ _ (h3 i hi)
    exact ((World.cell?_of_block (a := ⟨b5, o5 + i, none⟩) (hg.block b5 (by simp; omega) (fun e => h4 e.symm))).trans (World.cell?_of_block (a := ⟨b5, o5 + i, none⟩) (Below.heap_alloc _ _ _ hlt))).trans (h3 i hi)
  · have hlt : b5 < W.heap.size := World.block_lt_of_cell? _ _ (h3 0 (List.length_pos_iff.2 hz))
    rcases hob with e | e
    · rw [e]; exact h4
    · rw [e]
      intro e2
      have e3 := Option.some.inj e2
      simp at e3
      omega
  · exact (h5.alloc h5.size _).grown hg (by have := h5.size; simp; omega) (fun k hk => (h1.lt k hk).1)

set_option maxRecDepth 100000 in
set_option maxHeartbeats 1000000 in
theorem rvars_any : ∀ (sz : Nat) (ts : Ts), ts.size < sz → ts.size ≤ 900000 → ts.ok → ∀ (w : World) (p : Option Addr) (c : Nat), Ts.At w p ts →
    Calls Try.prog 24 #[.slice p ts.len c] w fun e w' => ∃ v, e = .returned v ∧ w'.ownsRow w.heap.size 2 1 v (rv ts []).length ((rv ts []).map (Value.int .i64)) ∧ Below w.heap.size w w' := by
  intro sz
  induction sz with
  | zero => intro ts h; omega
  | succ sz ih =>
    intro ts hsz hbig hok w p c hat
    have hls := Ts.len_size ts
    obtain ⟨b, o, hp, hlies⟩ := hat
    have HP := Lib.hid hp
    have LI := Lib.hid hlies
    have OK := Lib.hid hok
    clear hp hlies hok
    obtain ⟨i0, hi, hz0, hz1, hz2⟩ := info_parts infoI64
    go_enter Try.func24, Try.ntmps24
    go_wp2_with fail
    go_loopw [3, 4] (fun s3 s4 wr => ∃ (j : Nat) (acc : List Int), j ≤ ts.len ∧ s4 = .int .i64 j ∧ wr.ownsRow w.heap.size 2 1 s3 acc.length (acc.map (Value.int .i64)) ∧ Hid (rv (ts.drop j) acc = rv ts []) ∧ Below w.heap.size w wr) (fun _ i _ => ts.len - (intOf i).toNat)
    case atStart => exact ⟨0, [], Nat.zero_le _, rfl, World.ownsRow_nil _ _ _ _, Lib.hid rfl, Below.refl _ _⟩
    case round =>
      rename_i wr _
      obtain ⟨j, acc, hj, rfl, hrow, RR, hB⟩ := hrel
      have hal : acc.length ≤ ts.size := by
        have h1 := (rv_len (ts.drop j) acc).1
        rw [RR.out] at h1
        have h2 := (rv_len ts []).2
        simp at h2
        omega
      by_cases hlt : j < ts.len
      · have hp' := Ts.some_of HP.out hlt
        subst hp'
        obtain ⟨k, s, n, pp, cc, kids, rest, HD, EL, hsz1, hoke⟩ := Ts.elem LI.out hB OK.out hlt
        have OKE := Lib.hid hoke
        have hcc := hoke.2.2.2.1
        have hn := hoke.2.2.1
        clear hoke
        have c0 := EL.c0
        have c1 := EL.c1
        have c2 := EL.c2
        have c3 := EL.c3
        have ROW := Lib.hid hrow
        have hrl := ints_of_row hrow
        clear hrow
        go_wp2_with fail
        refine (ih kids (by omega) (by omega) OKE.out.2.2.2.2.2.1 wr pp cc EL.tat).mono ?_
        rintro e v1 ⟨v, rfl, hrow1, hB1⟩
        replace EL := EL.below hB1
        clear c0 c1 c2 c3
        have c0 := EL.c0
        have c1 := EL.c1
        have c2 := EL.c2
        have c3 := EL.c3
        obtain ⟨p3, c3', rfl, hi3, hc3, hc3'⟩ := hrl
        have hz3 := hrow1
        obtain ⟨zs, hzs⟩ : ∃ zs, zs = rv kids [] := ⟨_, rfl⟩
        rw [← hzs] at hrow1 hz3
        have hzl : zs.length ≤ kids.size := by rw [hzs]; have := (rv_len kids []).2; simpa using this
        have hfin : (((if (k == 1) = true then [n] else []) ++ zs).foldl addNum acc).length ≤ ts.size := by
          have h1 := RR.out
          rw [HD.out] at h1
          simp only [rv] at h1
          have h2 := (rv_len rest (((if (k == 1) = true then [n] else []) ++ rv kids []).foldl addNum acc)).1
          rw [h1] at h2
          have h3 := (rv_len ts []).2
          simp only [List.length_nil, Nat.zero_add] at h3
          rw [hzs]
          omega
        have HZS := Lib.hid hzs
        have hBw : Below w.heap.size w v1 := hB.trans (hB1.mono hB.size)
        have ROW1 : Hid (v1.ownsRow w.heap.size 2 1 (.slice p3 acc.length c3') acc.length (acc.map (Value.int .i64))) := Lib.hid (own_stay ROW.out fun q hq => hB1.block q ((ROW.out.lt q hq).2))
        have hown3 : ∀ q, (Value.slice p3 acc.length c3').ownBlock = some q → q < wr.heap.size := fun q hq => (ROW.out.lt q hq).2
        have OW3 := Lib.hid hown3
        clear hzs hi3 hown3
        by_cases hk : (k == 1) = true
        · rw [hk] at hfin
          have hw1 := hB.size
          have hw2 := hB1.size
          obtain ⟨zs1, hzs1⟩ : ∃ zs1, zs1 = n :: zs := ⟨_, rfl⟩
          have ZS1 := Lib.hid hzs1
          have hob3 : Hid ((v1.alloc (.cells #[.int .i64 n] 2)).ownsRow w.heap.size 2 1 (.slice (some ⟨v1.heap.size, 0, none⟩) 1 1) 1 [.int .i64 n]) := Lib.hid (own_built v1 _ _ (by omega))
          clear hzs1 hrow1
          rcases hz3.2 with ⟨rfl, h0⟩ | ⟨g1, cap1, cur1, rfl, hg1, hgh, hgl, hgm, hgs, hgt⟩
          · have hzn : zs = [] := List.length_eq_zero_iff.1 h0
            have HZN := Lib.hid hzn
            clear hz3 h0 hzn
            go_wp2_with (at_builtin; refine wpList_append_own_none rfl _ _ 30 rfl w.heap.size 2 i0 1 Try.underlying30 hi _ _ _ rfl hob3.out rfl ?_)
            obtain ⟨W5, hW5⟩ : ∃ W5, W5 = v1.alloc (.cells #[.int .i64 n] 2) := ⟨_, rfl⟩
            obtain ⟨v5, hv5⟩ : ∃ v5, v5 = Value.slice (some ⟨v1.heap.size, 0, none⟩) 1 1 := ⟨_, rfl⟩
            rw [← hW5, ← hv5]
            have HROW5 : Hid (W5.ownsRow w.heap.size 2 1 v5 zs1.length (zs1.map (Value.int .i64))) := Lib.hid (by rw [hW5, hv5, ZS1.out, HZN.out]; exact hob3.out)
            have HB5 : ∀ q, v5.ownBlock = some q → v1.heap.size ≤ q := fun q hq => by
              rw [hv5] at hq
              have := Option.some.inj hq
              simp at this
              omega
            have ROW3 : Hid (W5.ownsRow w.heap.size 2 1 (.slice p3 acc.length c3') acc.length (acc.map (Value.int .i64))) := Lib.hid (by rw [hW5]; exact ROW1.out.alloc _)
            have BW5 : Below w.heap.size w W5 := by rw [hW5]; exact hBw.alloc (by omega) _
            clear hW5 hv5
            have FK : Hid ((if (k == 1) = true then [n] else []) ++ rv kids [] = zs1) := Lib.hid (by rw [hk, ← HZS.out, ZS1.out]; rfl)
            replace hfin : (zs1.foldl addNum acc).length ≤ ts.size := by rw [ZS1.out]; simpa using hfin
            have hzl1 : zs1.length ≤ 900001 := by rw [ZS1.out]; simp; omega
            obtain ⟨p5, c5, rfl, hi5, hc5, hc5'⟩ := ints_of_row HROW5.out
            have MID : Hid (Mid w p5 zs1 W5 (.slice p3 acc.length c3') acc) := Lib.hid (Mid.start ROW3.out hi5 BW5 (fun b5 o5 e e2 => by
              have h1 := OW3.out _ e2
              have h2 := HB5 b5 (by rw [e]; rfl)
              omega))
            clear hi5 HB5 BW5
            go_wp2_with fail
            go_loopw [3, 6] (fun s3 s6 wr' => ∃ (m : Nat) (acc' : List Int), m ≤ (zs1).length ∧ s6 = .int .i64 m ∧ Mid w p5 (zs1) wr' s3 acc' ∧ Hid (((zs1).drop m).foldl addNum acc' = (zs1).foldl addNum acc)) (fun _ i _ => (zs1).length - (intOf i).toNat)
            case atStart => exact ⟨0, acc, Nat.zero_le _, rfl, MID.out, Lib.hid rfl⟩
            case round =>
              obtain ⟨m, acc', hm, rfl, hmid, RM⟩ := hrel
              have hal' : acc'.length ≤ ts.size := by
                have h1 := (addNums_len ((zs1).drop m) acc').1
                rw [RM.out] at h1
                omega
              obtain ⟨p3', c3', rfl, hi3, hc3, hc3'⟩ := ints_of_row hmid.1
              have MID' := Lib.hid hmid
              obtain ⟨_, ⟨b5, o5, hp5, hcell, _⟩, hBm⟩ := hmid
              by_cases hmz : m < (zs1).length
              · have hp5' := some_of_ints hp5 hmz
                obtain ⟨z, hz⟩ : ∃ z, z = (zs1)[m] := ⟨_, rfl⟩
                have hcz := hcell m hmz
                rw [← hz] at hcz
                have hdr : (zs1).drop m = z :: (zs1).drop (m + 1) := by rw [hz]; exact List.drop_eq_getElem_cons hmz
                have HZ := Lib.hid hz
                have HDR := Lib.hid hdr
                have HI3 := Lib.hid hi3
                have H5 := Lib.hid hp5'
                have HC := Lib.hid hcell
                clear hp5 hcell hz hdr hi3 hp5'
                have E5 := H5.out
                subst E5
                by_cases hin : z ∈ acc'
                · have HIN := Lib.hid hin
                  clear hin
                  go_wp2_with fail
                  refine (in_any acc' z wr p3' c3' (by omega) HI3.out).mono ?_
                  rintro e w10 ⟨rfl, rfl⟩
                  rw [decide_eq_true HIN.out]
                  go_wp2
                  go_roundw
                  case rel =>
                    refine ⟨m + 1, acc', by omega, by go_num, MID'.out, Lib.hid ?_⟩
                    rw [← RM.out, HDR.out, List.foldl_cons, show addNum acc' z = acc' from by simp [addNum, HIN.out]]
                  case measure => simp [intOf]; omega
                · have HIN := Lib.hid hin
                  clear hin
                  have hown0 := MID'.out.1
                  have hzne : (zs1) ≠ [] := fun e => by rw [e] at hmz; simp at hmz
                  have hsz0 := hBm.size
                  go_wp2_with fail
                  refine (in_any acc' z wr p3' c3' (by omega) HI3.out).mono ?_
                  rintro e w10 ⟨rfl, rfl⟩
                  rw [decide_eq_false HIN.out]
                  go_wp2_with (at_builtin; refine wpList_append_own_at _ rfl _ _ 30 rfl w.heap.size 2 i0 (.int .i64 0) 1 8 Try.underlying30 hi hz0 hz1 hz2 rfl (by decide) _ _ _ rfl (hown0.alloc _) ⟨w10.heap.size, 0, none⟩ 1 1 [.int .i64 z] rfl rfl (cell_one_new _ _ _) (by simp [Value.oneCell']) (by unfold maxLen; omega) (by omega) (by simp; omega) ?_; intro v' w2 hown2 hgrow2 hnil hob; have MID2 := Lib.hid (MID'.out.push hown2 hgrow2 hob hzne); clear hown2 hgrow2 hnil hob)
                  go_roundw
                  case rel =>
                    refine ⟨m + 1, acc' ++ [z], by omega, by go_num, MID2.out, Lib.hid ?_⟩
                    rw [← RM.out, HDR.out, List.foldl_cons, show addNum acc' z = acc' ++ [z] from by simp [addNum, HIN.out]]
                  case measure => simp [intOf]; omega
              · clear hcell hp5
                go_wp2
                go_roundw
                case rel =>
                  refine ⟨j + 1, acc', by omega, by go_num, MID'.out.1, Lib.hid ?_, MID'.out.2.2⟩
                  have h1 := RM.out
                  rw [List.drop_eq_nil_of_le (by omega)] at h1
                  rw [← RR.out, HD.out, Ts.drop_succ j ts HD.out]
                  simp only [rv, FK.out]
                  rw [← h1]
                  rfl
                case measure => simp [intOf]; omega
          · have hzi : ∀ (i : Nat) (h : i < zs.length), v1.cell? ⟨g1, 0 + i, none⟩ = some (.int .i64 zs[i]) := by
              obtain ⟨p9, c9, e9, ⟨b9, o9, h9, h9'⟩, _⟩ := ints_of_row hz3
              simp only [Value.slice.injEq] at e9
              intro i h
              rcases h9 with h9 | h9
              · rw [h9] at h; simp at h
              · rw [← e9.1] at h9
                simp only [Option.some.injEq, Addr.mk.injEq] at h9
                rw [h9.1, h9.2.1]
                exact h9' i h
            have HZI := Lib.hid hzi
            have hnews : ∀ j u, (zs.map (Value.int .i64))[j]? = some u → (v1.alloc (.cells #[.int .i64 n] 2)).cell? ((⟨g1, 0, none⟩ : Addr).add j) = some u := by
              intro j u hj
              obtain ⟨z, hz, rfl⟩ := List.mem_map.1 (List.mem_of_getElem? hj)
              have hjl : j < zs.length := by have := (List.getElem?_eq_some_iff.1 hj).1; simpa using this
              have hu := HZI.out j hjl
              have e1 : (Value.int .i64 z) = .int .i64 zs[j] := by
                have h1 := hj
                rw [List.getElem?_map, List.getElem?_eq_getElem hjl] at h1
                exact (Option.some.inj h1).symm
              rw [e1]
              exact cell_alloc_old _ (by rw [Go.WideShapes.add_plain]; exact hu)
            clear hz3 hzi
            go_wp2_with (at_builtin; refine wpList_append_own_at _ rfl _ _ 30 rfl w.heap.size 2 i0 (.int .i64 0) 1 8 Try.underlying30 hi hz0 hz1 hz2 rfl (by decide) _ _ _ rfl hob3.out ⟨g1, 0, none⟩ zs.length cap1 (zs.map (Value.int .i64)) rfl (by simp) hnews (by simp [Value.oneCell']) (by unfold maxLen; omega) (by omega) (by simp; omega) ?_; intro v5 W5 hown2 hgrow2 hnil hob; have X := Lib.hid (And.intro hown2 (And.intro hgrow2 hob)); clear hown2 hgrow2 hnil hob)
            have HROW5 : Hid (W5.ownsRow w.heap.size 2 1 v5 zs1.length (zs1.map (Value.int .i64))) := Lib.hid (by rw [ZS1.out, List.length_cons, Nat.add_comm]; exact X.out.1)
            have HB5 : ∀ q, v5.ownBlock = some q → v1.heap.size ≤ q := fun q hq => by
              rcases X.out.2.2 with h | h
              · rw [hq] at h
                have := Option.some.inj h
                simp at this
                omega
              · rw [hq] at h
                have := Option.some.inj h
                simp at this
                omega
            have hgr : (v1.alloc (.cells #[.int .i64 n] 2)).grownBy W5 (some v1.heap.size) := X.out.2.1
            have ROW3 : Hid (W5.ownsRow w.heap.size 2 1 (.slice p3 acc.length c3') acc.length (acc.map (Value.int .i64))) := Lib.hid (own_stay (ROW1.out.alloc _) fun q hq => by
              have := OW3.out q hq
              exact hgr.block q (by simp; omega) (by simp; omega))
            have BW5 : Below w.heap.size w W5 := (hBw.alloc (by omega) _).grown hgr (by simp; omega) (fun k hk => by have := Option.some.inj hk; omega)
            clear hgr hnews
            have FK : Hid ((if (k == 1) = true then [n] else []) ++ rv kids [] = zs1) := Lib.hid (by rw [hk, ← HZS.out, ZS1.out]; rfl)
            replace hfin : (zs1.foldl addNum acc).length ≤ ts.size := by rw [ZS1.out]; simpa using hfin
            have hzl1 : zs1.length ≤ 900001 := by rw [ZS1.out]; simp; omega
            obtain ⟨p5, c5, rfl, hi5, hc5, hc5'⟩ := ints_of_row HROW5.out
            have MID : Hid (Mid w p5 zs1 W5 (.slice p3 acc.length c3') acc) := Lib.hid (Mid.start ROW3.out hi5 BW5 (fun b5 o5 e e2 => by
              have h1 := OW3.out _ e2
              have h2 := HB5 b5 (by rw [e]; rfl)
              omega))
            clear hi5 HB5 BW5
            go_wp2_with fail
            go_loopw [3, 6] (fun s3 s6 wr' => ∃ (m : Nat) (acc' : List Int), m ≤ (zs1).length ∧ s6 = .int .i64 m ∧ Mid w p5 (zs1) wr' s3 acc' ∧ Hid (((zs1).drop m).foldl addNum acc' = (zs1).foldl addNum acc)) (fun _ i _ => (zs1).length - (intOf i).toNat)
            case atStart => exact ⟨0, acc, Nat.zero_le _, rfl, MID.out, Lib.hid rfl⟩
            case round =>
              obtain ⟨m, acc', hm, rfl, hmid, RM⟩ := hrel
              have hal' : acc'.length ≤ ts.size := by
                have h1 := (addNums_len ((zs1).drop m) acc').1
                rw [RM.out] at h1
                omega
              obtain ⟨p3', c3', rfl, hi3, hc3, hc3'⟩ := ints_of_row hmid.1
              have MID' := Lib.hid hmid
              obtain ⟨_, ⟨b5, o5, hp5, hcell, _⟩, hBm⟩ := hmid
              by_cases hmz : m < (zs1).length
              · have hp5' := some_of_ints hp5 hmz
                obtain ⟨z, hz⟩ : ∃ z, z = (zs1)[m] := ⟨_, rfl⟩
                have hcz := hcell m hmz
                rw [← hz] at hcz
                have hdr : (zs1).drop m = z :: (zs1).drop (m + 1) := by rw [hz]; exact List.drop_eq_getElem_cons hmz
                have HZ := Lib.hid hz
                have HDR := Lib.hid hdr
                have HI3 := Lib.hid hi3
                have H5 := Lib.hid hp5'
                have HC := Lib.hid hcell
                clear hp5 hcell hz hdr hi3 hp5'
                have E5 := H5.out
                subst E5
                by_cases hin : z ∈ acc'
                · have HIN := Lib.hid hin
                  clear hin
                  go_wp2_with fail
                  refine (in_any acc' z wr p3' c3' (by omega) HI3.out).mono ?_
                  rintro e w10 ⟨rfl, rfl⟩
                  rw [decide_eq_true HIN.out]
                  go_wp2
                  go_roundw
                  case rel =>
                    refine ⟨m + 1, acc', by omega, by go_num, MID'.out, Lib.hid ?_⟩
                    rw [← RM.out, HDR.out, List.foldl_cons, show addNum acc' z = acc' from by simp [addNum, HIN.out]]
                  case measure => simp [intOf]; omega
                · have HIN := Lib.hid hin
                  clear hin
                  have hown0 := MID'.out.1
                  have hzne : (zs1) ≠ [] := fun e => by rw [e] at hmz; simp at hmz
                  have hsz0 := hBm.size
                  go_wp2_with fail
                  refine (in_any acc' z wr p3' c3' (by omega) HI3.out).mono ?_
                  rintro e w10 ⟨rfl, rfl⟩
                  rw [decide_eq_false HIN.out]
                  go_wp2_with (at_builtin; refine wpList_append_own_at _ rfl _ _ 30 rfl w.heap.size 2 i0 (.int .i64 0) 1 8 Try.underlying30 hi hz0 hz1 hz2 rfl (by decide) _ _ _ rfl (hown0.alloc _) ⟨w10.heap.size, 0, none⟩ 1 1 [.int .i64 z] rfl rfl (cell_one_new _ _ _) (by simp [Value.oneCell']) (by unfold maxLen; omega) (by omega) (by simp; omega) ?_; intro v' w2 hown2 hgrow2 hnil hob; have MID2 := Lib.hid (MID'.out.push hown2 hgrow2 hob hzne); clear hown2 hgrow2 hnil hob)
                  go_roundw
                  case rel =>
                    refine ⟨m + 1, acc' ++ [z], by omega, by go_num, MID2.out, Lib.hid ?_⟩
                    rw [← RM.out, HDR.out, List.foldl_cons, show addNum acc' z = acc' ++ [z] from by simp [addNum, HIN.out]]
                  case measure => simp [intOf]; omega
              · clear hcell hp5
                go_wp2
                go_roundw
                case rel =>
                  refine ⟨j + 1, acc', by omega, by go_num, MID'.out.1, Lib.hid ?_, MID'.out.2.2⟩
                  have h1 := RM.out
                  rw [List.drop_eq_nil_of_le (by omega)] at h1
                  rw [← RR.out, HD.out, Ts.drop_succ j ts HD.out]
                  simp only [rv, FK.out]
                  rw [← h1]
                  rfl
                case measure => simp [intOf]; omega
        · rw [Bool.not_eq_true] at hk
          rw [hk] at hfin
          have FK : Hid ((if (k == 1) = true then [n] else []) ++ rv kids [] = zs) := Lib.hid (by rw [hk, ← HZS.out]; rfl)
          replace hfin : (zs.foldl addNum acc).length ≤ ts.size := by simpa using hfin
          obtain ⟨p5, c5, rfl, hi5, hc5, hc5'⟩ := ints_of_row hrow1
          have hl5 := hrow1.lt
          have MID : Hid (Mid w p5 zs v1 (.slice p3 acc.length c3') acc) := Lib.hid (Mid.start ROW1.out hi5 hBw (fun b5 o5 e e2 => by
            have h1 := OW3.out _ e2
            have h2 := (hl5 b5 (by rw [e]; rfl)).1
            omega))
          clear hrow1 hz3 hi5 hl5
          go_wp2_with fail
          go_loopw [3, 6] (fun s3 s6 wr' => ∃ (m : Nat) (acc' : List Int), m ≤ (zs).length ∧ s6 = .int .i64 m ∧ Mid w p5 (zs) wr' s3 acc' ∧ Hid (((zs).drop m).foldl addNum acc' = (zs).foldl addNum acc)) (fun _ i _ => (zs).length - (intOf i).toNat)
          case atStart => exact ⟨0, acc, Nat.zero_le _, rfl, MID.out, Lib.hid rfl⟩
          case round =>
            obtain ⟨m, acc', hm, rfl, hmid, RM⟩ := hrel
            have hal' : acc'.length ≤ ts.size := by
              have h1 := (addNums_len ((zs).drop m) acc').1
              rw [RM.out] at h1
              omega
            obtain ⟨p3', c3', rfl, hi3, hc3, hc3'⟩ := ints_of_row hmid.1
            have MID' := Lib.hid hmid
            obtain ⟨_, ⟨b5, o5, hp5, hcell, _⟩, hBm⟩ := hmid
            by_cases hmz : m < (zs).length
            · have hp5' := some_of_ints hp5 hmz
              obtain ⟨z, hz⟩ : ∃ z, z = (zs)[m] := ⟨_, rfl⟩
              have hcz := hcell m hmz
              rw [← hz] at hcz
              have hdr : (zs).drop m = z :: (zs).drop (m + 1) := by rw [hz]; exact List.drop_eq_getElem_cons hmz
              have HZ := Lib.hid hz
              have HDR := Lib.hid hdr
              have HI3 := Lib.hid hi3
              have H5 := Lib.hid hp5'
              have HC := Lib.hid hcell
              clear hp5 hcell hz hdr hi3 hp5'
              have E5 := H5.out
              subst E5
              by_cases hin : z ∈ acc'
              · have HIN := Lib.hid hin
                clear hin
                go_wp2_with fail
                refine (in_any acc' z wr p3' c3' (by omega) HI3.out).mono ?_
                rintro e w10 ⟨rfl, rfl⟩
                rw [decide_eq_true HIN.out]
                go_wp2
                go_roundw
                case rel =>
                  refine ⟨m + 1, acc', by omega, by go_num, MID'.out, Lib.hid ?_⟩
                  rw [← RM.out, HDR.out, List.foldl_cons, show addNum acc' z = acc' from by simp [addNum, HIN.out]]
                case measure => simp [intOf]; omega
              · have HIN := Lib.hid hin
                clear hin
                have hown0 := MID'.out.1
                have hzne : (zs) ≠ [] := fun e => by rw [e] at hmz; simp at hmz
                have hsz0 := hBm.size
                go_wp2_with fail
                refine (in_any acc' z wr p3' c3' (by omega) HI3.out).mono ?_
                rintro e w10 ⟨rfl, rfl⟩
                rw [decide_eq_false HIN.out]
                go_wp2_with (at_builtin; refine wpList_append_own_at _ rfl _ _ 30 rfl w.heap.size 2 i0 (.int .i64 0) 1 8 Try.underlying30 hi hz0 hz1 hz2 rfl (by decide) _ _ _ rfl (hown0.alloc _) ⟨w10.heap.size, 0, none⟩ 1 1 [.int .i64 z] rfl rfl (cell_one_new _ _ _) (by simp [Value.oneCell']) (by unfold maxLen; omega) (by omega) (by simp; omega) ?_; intro v' w2 hown2 hgrow2 hnil hob; have MID2 := Lib.hid (MID'.out.push hown2 hgrow2 hob hzne); clear hown2 hgrow2 hnil hob)
                go_roundw
                case rel =>
                  refine ⟨m + 1, acc' ++ [z], by omega, by go_num, MID2.out, Lib.hid ?_⟩
                  rw [← RM.out, HDR.out, List.foldl_cons, show addNum acc' z = acc' ++ [z] from by simp [addNum, HIN.out]]
                case measure => simp [intOf]; omega
            · clear hcell hp5
              go_wp2
              go_roundw
              case rel =>
                refine ⟨j + 1, acc', by omega, by go_num, MID'.out.1, Lib.hid ?_, MID'.out.2.2⟩
                have h1 := RM.out
                rw [List.drop_eq_nil_of_le (by omega)] at h1
                rw [← RR.out, HD.out, Ts.drop_succ j ts HD.out]
                simp only [rv, FK.out]
                rw [← h1]
                rfl
              case measure => simp [intOf]; omega
      · have hd0 := Ts.drop_end hlt
        have hrr := RR.out
        rw [hd0] at hrr
        have hacc : acc = rv ts [] := hrr
        have HA := Lib.hid hacc
        have HR := Lib.hid hrow
        obtain ⟨p3, c3, rfl, _, _, _⟩ := ints_of_row hrow
        clear hrr hacc hd0 hrow
        go_wp2
        go_ret
        exact ⟨_, rfl, by rw [← HA.out]; exact HR.out, hB⟩
end Go.Proofs.Ytlhclblekpngnaa
