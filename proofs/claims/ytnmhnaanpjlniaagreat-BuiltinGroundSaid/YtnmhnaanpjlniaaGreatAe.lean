import Derived.Test.YtnmhnaanpjlniaaGreatVd
import Derived.Test.YtnmhnaanpjlniaaGreatAd
import Derived.Test.YtnmhnaanpjlniaaGreatTw
import Derived.Test.YtnmhnaanpjlniaaGreatTl
/-
  Layer 3: a term applied, out of a room: what stands between two rounds.
-/
namespace Go.Proofs.YtnmhnaanpjlniaaGreat
open Go.RowKit

abbrev KpA (B0 RM RB : Nat) (w w' : World) : Prop := Kp B0 RM RB (fun _ => False) w w'

/-- the first elements have been put, applied -/
def DoneA (σ : Sb) (RB o lo hi : Nat) (w : World) (K : Ts) (j : Nat) : Prop := ∀ m, m < j → ∀ k s n p c kids rest, K.drop m = .cons k s n p c kids rest →
  ∃ q us, w.cell? ⟨RB, o + m * 4, none⟩ = some (.int .u8 (wk σ ⟨k, s, n, p, c, kids⟩).k) ∧ w.cell? ⟨RB, o + m * 4 + 1, none⟩ = some (.string (wk σ ⟨k, s, n, p, c, kids⟩).s) ∧ w.cell? ⟨RB, o + m * 4 + 2, none⟩ = some (.int .i64 (wk σ ⟨k, s, n, p, c, kids⟩).n) ∧ w.cell? ⟨RB, o + m * 4 + 3, none⟩ = some (.slice q us.len us.len) ∧
    Ts.AtQ (inR RB lo hi) w q us ∧ App σ (elems (wk σ ⟨k, s, n, p, c, kids⟩).kids) us ∧ us.ok ∧ (q = none → us.len = 0) ∧ us.len ≤ 1000000 ∧ (wk σ ⟨k, s, n, p, c, kids⟩).ok

theorem DoneA.made {σ : Sb} {RB o lo hi : Nat} {w : World} {K : Ts} (h : DoneA σ RB o lo hi w K K.len) (hlo : o ≤ lo) (hhi : o + K.len * 4 ≤ hi) : ∃ us : Ts, us.liesQ (inR RB o hi) w RB o ∧ App σ (elems K) us ∧ us.ok := by
  have build : ∀ i, i ≤ K.len → ∃ us : Ts, us.liesQ (inR RB o hi) w RB (o + (K.len - i) * 4) ∧ App σ (elems (K.drop (K.len - i))) us ∧ us.ok := by
    intro i
    induction i with
    | zero =>
      intro _
      refine ⟨.nil, trivial, ?_, trivial⟩
      rw [Ts.len_zero (ts := K.drop (K.len - 0)) (by rw [Ts.drop_len]; omega)]
      exact .nil
    | succ i ih =>
      intro hi'
      obtain ⟨us, h1, h2, h3⟩ := ih (by omega)
      have hlt : K.len - (i + 1) < K.len := by omega
      obtain ⟨k, s, n, p, c, kids, rest, hd⟩ := Ts.drop_cons hlt
      obtain ⟨q, ks, c0, c1, c2, c3, hat, ha, hok', hq, hl, hy⟩ := h _ hlt _ _ _ _ _ _ _ hd
      have hsd := Ts.drop_succ _ K hd
      rw [show K.len - (i + 1) + 1 = K.len - i from by omega] at hsd
      rw [hsd] at h2
      refine ⟨.cons _ _ _ q ks.len ks us, ⟨fun y hy hy' => ⟨rfl, by omega, by omega⟩, c0, c1, c2, c3, hat.stay (fun b y hb => ⟨hb.1, by have := hb.2.1; omega, hb.2.2⟩) (fun _ _ _ => rfl), ?_⟩, ?_, ⟨hy.1, hy.2.1, hy.2.2.1, ⟨Nat.le_refl _, by omega⟩, hq, hok', h3⟩⟩
      · rw [show o + (K.len - (i + 1)) * 4 + 4 = o + (K.len - i) * 4 from by omega]; exact h1
      · rw [hd]; exact .cons ha h2
  obtain ⟨us, h1, h2, h3⟩ := build K.len (Nat.le_refl _)
  rw [Nat.sub_self] at h1 h2
  exact ⟨us, by simpa using h1, h2, h3⟩

/-- between two rounds -/
structure AIn (σ : Sb) (B0 RM RB o rem n : Nat) (K : Ts) (w wr : World) (j oc rem' nj : Nat) : Prop where
  kp : KpA B0 RM RB w wr
  room : Room RM RB oc rem' wr
  e1 : oc + rem' * 4 = o + rem * 4
  e2 : oc + (nj - (K.drop j).len) * 4 = o + n * 4
  e3 : o + K.len * 4 ≤ oc
  cnt : Cnt σ (elems (K.drop j)) nj
  done : DoneA σ RB o (o + K.len * 4) oc wr K j
  row : ∀ y, o ≤ y → y < o + K.len * 4 → (wr.cell? ⟨RB, y, none⟩).isSome
  frow : ∀ y, wr.frozen? ⟨RB, y, none⟩ = w.frozen? ⟨RB, y, none⟩
  out : ∀ y, y < o ∨ oc ≤ y → wr.cell? ⟨RB, y, none⟩ = w.cell? ⟨RB, y, none⟩

theorem AIn.step {σ : Sb} {B0 RM RB o rem n : Nat} {K : Ts} {w wr : World} {j oc rem' nj : Nat} (h : AIn σ B0 RM RB o rem n K w wr j oc rem' nj) (_hRM : B0 ≤ RM) (hRB : B0 ≤ RB) (hne : RM ≠ RB) (hBs : RM < w.heap.size ∧ RB < w.heap.size ∧ B0 ≤ w.heap.size) (hj : j < K.len)
    {k : Int} {s : ByteArray} {z : Int} {pp : Option Addr} {cc : Nat} {kids rest : Ts} (hd : K.drop j = .cons k s z pp cc kids rest) {X : Nd} (hX : wk σ ⟨k, s, z, pp, cc, kids⟩ = X) (hXo : X.ok) {a b : Nat} (_hca : Cnt σ (elems X.kids) a) (hcb : Cnt σ (elems rest) b) (hab : nj = a + b + 1)
    {W4 w5 : World} (k4 : KpA B0 RM RB wr W4) (c4 : ∀ y, W4.cell? ⟨RB, y, none⟩ = wr.cell? ⟨RB, y, none⟩) (f4 : ∀ y, W4.frozen? ⟨RB, y, none⟩ = wr.frozen? ⟨RB, y, none⟩)
    {us : Ts} {q : Option Addr} (hat : Ts.AtQ (inR RB oc (oc + a * 4)) w5 q us) (happ : App σ (elems X.kids) us) (hok : us.ok) (hq : q = none → us.len = 0) (hul : us.len ≤ 1000000) (hroom : Room RM RB (oc + a * 4) (rem' - a) w5) (k5 : KpA B0 RM RB W4 w5)
    (c5 : ∀ y, y < oc ∨ oc + a * 4 ≤ y → w5.cell? ⟨RB, y, none⟩ = W4.cell? ⟨RB, y, none⟩) (f5 : ∀ y, w5.frozen? ⟨RB, y, none⟩ = W4.frozen? ⟨RB, y, none⟩) (har : a ≤ rem') :
    AIn σ B0 RM RB o rem n K w ((((w5.setCell ⟨RB, o + j * 4, none⟩ (.int .u8 X.k)).setCell ⟨RB, o + j * 4 + 1, none⟩ (.string X.s)).setCell ⟨RB, o + j * 4 + 2, none⟩ (.int .i64 X.n)).setCell ⟨RB, o + j * 4 + 3, none⟩ (.slice q us.len us.len)) (j + 1) (oc + a * 4) (rem' - a) b := by
  have hws := h.kp.size
  have e3 := h.e3
  have row5 : ∀ y, o ≤ y → y < o + K.len * 4 → (w5.cell? ⟨RB, y, none⟩).isSome := fun y h1 h2 => by
    rw [c5 y (.inl (by omega)), c4 y]; exact h.row y h1 h2
  obtain ⟨W, hW, z1, z2, z3, q0, q1, q2, q3, z4, z5⟩ := put4 w5 RB (o + j * 4) (.int .u8 X.k) (.string X.s) (.int .i64 X.n) (.slice q us.len us.len) (row5 _ (by omega) (by omega)) (row5 _ (by omega) (by omega)) (row5 _ (by omega) (by omega)) (row5 _ (by omega) (by omega))
  rw [← hW]
  have hheap : ∀ b, b ≠ RB → W.heap[b]? = w5.heap[b]? := fun b h1 => by
    rw [hW, Below.heap_setCell _ _ _ _ (by simpa using h1), Below.heap_setCell _ _ _ _ (by simpa using h1), Below.heap_setCell _ _ _ _ (by simpa using h1), Below.heap_setCell _ _ _ _ (by simpa using h1)]
  have sd := Ts.drop_succ j K hd
  have he2 := h.e2
  rw [hd] at he2
  simp only [Ts.len] at he2
  have hlb := hcb.len
  rw [elems_length] at hlb
  have k45 := (h.kp.trans k4).trans k5
  have cRB : ∀ y, y < o + j * 4 ∨ o + j * 4 + 4 ≤ y → y < oc ∨ oc + a * 4 ≤ y → W.cell? ⟨RB, y, none⟩ = wr.cell? ⟨RB, y, none⟩ := fun y h1 h2 => (z3 y h1).trans ((c5 y h2).trans (c4 y))
  refine ⟨⟨by rw [z1]; exact k45.size, z5 _ _ hRB k45.B, fun x hx h1 h2 h3 => (hheap x h2).trans (k45.old x hx h1 h2 h3)⟩, ?_, ?_, ?_, by omega, ?_, ?_, ?_, ?_, ?_⟩
  · obtain ⟨⟨o', r1, r2⟩, r3, r4, r5⟩ := hroom
    refine ⟨⟨o', (z2 RM 0 hne).trans r1, r2⟩, (z4 _ _).trans r3, fun y h1 h2 => ?_, fun y h1 h2 => (z4 _ _).trans (r5 y h1 h2)⟩
    rw [z3 y (.inr (by omega))]
    exact r4 y h1 h2
  · have := h.e1; omega
  · rw [sd]; omega
  · rw [sd]; exact hcb
  · intro m hm k' s' n' p' c' kd rs hmd
    by_cases e : m = j
    · subst e
      rw [hd] at hmd
      injection hmd with e1 e2 e3' e4 e5 e6 e7
      subst e1 e2 e3' e4 e5 e6 e7
      rw [hX]
      exact ⟨q, us, q0, q1, q2, q3, hat.stay (fun b y hb => ⟨hb.1, by have := hb.2.1; omega, hb.2.2⟩) (fun b y hb => by obtain ⟨rfl, h1, h2⟩ := hb; exact z3 y (.inr (by omega))), happ, hok, hq, hul, hXo⟩
    · obtain ⟨q', us', d0, d1, d2, d3, d4, d5⟩ := h.done m (by omega) _ _ _ _ _ _ _ hmd
      have hy : ∀ i, i < 4 → W.cell? ⟨RB, o + m * 4 + i, none⟩ = wr.cell? ⟨RB, o + m * 4 + i, none⟩ := fun i hi => cRB _ (.inl (by omega)) (.inl (by omega))
      exact ⟨q', us', (hy 0 (by omega)).trans d0, (hy 1 (by omega)).trans d1, (hy 2 (by omega)).trans d2, (hy 3 (by omega)).trans d3, d4.stay (fun b y hb => ⟨hb.1, hb.2.1, by have := hb.2.2; omega⟩) (fun b y hb => by obtain ⟨rfl, h1, h2⟩ := hb; exact cRB y (.inr (by omega)) (.inl h2)), d5⟩
  · intro y h1 h2
    by_cases hx : y < o + j * 4 ∨ o + j * 4 + 4 ≤ y
    · rw [z3 y hx]; exact row5 y h1 h2
    · obtain hx | hx | hx | hx : y = o + j * 4 ∨ y = o + j * 4 + 1 ∨ y = o + j * 4 + 2 ∨ y = o + j * 4 + 3 := by omega
      · rw [hx, q0]; rfl
      · rw [hx, q1]; rfl
      · rw [hx, q2]; rfl
      · rw [hx, q3]; rfl
  · exact fun y => (z4 _ _).trans ((f5 y).trans ((f4 y).trans (h.frow y)))
  · intro y hy
    exact (cRB y (by omega) (by omega)).trans (h.out y (by omega))

theorem AIn.start {σ : Sb} {B0 RM RB o rem n : Nat} {K : Ts} {w : World} (hRM : B0 ≤ RM) (hne : RM ≠ RB) (hc : Cnt σ (elems K) n) (hroom : Room RM RB o rem w) (hrem : n ≤ rem) {o2 m : Nat} (hm : m = rem - K.len) (ho : m = 0 ∨ o2 = o + K.len * 4) :
    AIn σ B0 RM RB o rem n K w (w.setCell ⟨RM, 0, none⟩ (.slice (some ⟨RB, o2, none⟩) m m)) 0 (o + K.len * 4) (rem - K.len) n := by
  have hls := hc.len
  rw [elems_length] at hls
  have hb : ∀ b, b ≠ RM → (w.setCell ⟨RM, 0, none⟩ (.slice (some ⟨RB, o2, none⟩) m m)).heap[b]? = w.heap[b]? := fun b h => Below.heap_setCell _ _ _ _ (by simpa using h)
  have hcl : ∀ b y, b ≠ RM → (w.setCell ⟨RM, 0, none⟩ (.slice (some ⟨RB, o2, none⟩) m m)).cell? ⟨b, y, none⟩ = w.cell? ⟨b, y, none⟩ := fun b y h => World.cell?_of_block (a := ⟨b, y, none⟩) (hb b h)
  obtain ⟨⟨o', r1, r2⟩, r3, r4, r5⟩ := hroom
  refine ⟨⟨by simp, (Below.refl _ _).setCell (p := ⟨RM, 0, none⟩) hRM _, fun b _ h1 _ _ => hb b h1⟩, ⟨⟨o2, ?_, by rw [← hm]; exact ho⟩, by rw [World.frozen?_setCell]; exact r3, fun y h1 h2 => ?_, fun y h1 h2 => ?_⟩, by omega, ?_, Nat.le_refl _, hc, fun m hm => by omega, fun y h1 h2 => ?_, fun y => World.frozen?_setCell _ _ _ _, fun y _ => hcl _ _ (Ne.symm hne)⟩
  · rw [World.cell?_setCell_same _ _ _ r1, hm]
  · rw [hcl _ _ (Ne.symm hne)]; exact r4 y (by omega) (by omega)
  · rw [World.frozen?_setCell]; exact r5 y (by omega) (by omega)
  · simp only [Ts.drop]; omega
  · rw [hcl _ _ (Ne.symm hne)]; exact r4 y (by omega) (by omega)

theorem Room.stay {RM RB o rem : Nat} {w w' : World} (h : Room RM RB o rem w) (h1 : w'.heap[RM]? = w.heap[RM]?) (h2 : w'.heap[RB]? = w.heap[RB]?) : Room RM RB o rem w' := by
  obtain ⟨⟨o', r1, r2⟩, r3, r4, r5⟩ := h
  exact ⟨⟨o', (World.cell?_of_block (a := ⟨RM, 0, none⟩) h1).trans r1, r2⟩, (World.frozen?_of_block (a := ⟨RM, 0, none⟩) h1).trans r3, fun y a b => by rw [World.cell?_of_block (a := ⟨RB, y, none⟩) h2]; exact r4 y a b, fun y a b => (World.frozen?_of_block (a := ⟨RB, y, none⟩) h2).trans (r5 y a b)⟩

end Go.Proofs.YtnmhnaanpjlniaaGreat
/-
  A law for a region that draws its order and writes too: one invariant of what has come up, of the slots' values and of the world; one step an operation.
-/
namespace Go.Proofs.YtnmhnaanpjlniaaGreat
open Go.RowKit

def updL (L : Nat → Bool) (i : Nat) : Nat → Bool := fun j => if j = i then true else L j

def GStep (P : Program) (ops : Array Oper) (Q : Exit → Act → World → Prop) (frame : (Nat → Value) → Act) (G : (Nat → Bool) → (Nat → Value) → World → Prop) (i : Nat) (o : Oper) : Prop :=
  ∀ (L : Nat → Bool) (f : Nat → Value) (w : World), L i = false → (∀ j, waitsOn o j = true → L j = true) → G L f w → ∀ K : Act → World → Prop, Hid (∀ v a' w', a' = (frame f).put o.dst v → G (updL L i) (upd f i v) w' → K a' w') →
    if Region.wanted o (yielded ops (frame f).tmps) = true then Oper.wp P o (frame f) w K Q else K ((frame f).put o.dst undef) w

def GSteps (P : Program) (ops : Array Oper) (Q : Exit → Act → World → Prop) (frame : (Nat → Value) → Act) (G : (Nat → Bool) → (Nat → Value) → World → Prop) : List Oper → Nat → Prop
  | [], _ => True
  | o :: l, i => GStep P ops Q frame G i o ∧ GSteps P ops Q frame G l (i + 1)

theorem GSteps.get {P : Program} {ops : Array Oper} {Q : Exit → Act → World → Prop} {frame : (Nat → Value) → Act} {G : (Nat → Bool) → (Nat → Value) → World → Prop} : ∀ {l : List Oper} {k : Nat}, GSteps P ops Q frame G l k → ∀ {i : Nat} {o : Oper}, l[i]? = some o → GStep P ops Q frame G (k + i) o
  | [], _, _, _, _, h => by simp at h
  | _ :: _, _, h, 0, _, ho => by cases ho; exact h.1
  | _ :: l, k, h, i + 1, o, ho => by
    have := GSteps.get h.2 (i := i) (o := o) (by simpa using ho)
    rw [show k + (i + 1) = k + 1 + i from by omega]
    exact this

section
variable {P : Program} {ops : Array Oper} {Q : Exit → Act → World → Prop} {frame : (Nat → Value) → Act} {G : (Nat → Bool) → (Nat → Value) → World → Prop}

theorem any_inv (hdag : dagB ops.toList 0 = true) (hput : Puts frame ops.toList 0) (hstep : GSteps P ops Q frame G ops.toList 0)
    (hdone : ∀ L f w, (∀ j, j < ops.size → L j = true) → G L f w → Q .normal (frame f) w) :
    ∀ (fuel : Nat) (listed : Array Bool) (f : Nat → Value) (w : World), listed.size = ops.size → listed.toList.count false ≤ fuel → G (fun j => listed.getD j false) f w → wpAny P .any ops Q fuel listed (frame f) w := by
  have all_of : ∀ (listed : Array Bool), listed.size = ops.size → Region.ready .any ops listed = [] → ∀ j, j < ops.size → listed.getD j false = true := by
    intro listed hs hr j
    induction j using Nat.strongRecOn with
    | ind j ih =>
      intro hj
      cases hb : listed.getD j false with
      | true => rfl
      | false =>
        exfalso
        have hm : j ∈ Region.ready .any ops listed := by
          rw [ready_iff]
          refine ⟨hj, ?_, ops[j], by simp [hj], fun i hi => ?_⟩
          · simp only [Array.getD] at hb ⊢
            rw [dif_pos (by omega)] at hb ⊢
            exact hb
          · simp only [waitsOn, Array.any_eq_true', Bool.and_eq_true, beq_iff_eq] at hi
            obtain ⟨e, he, hbe, rfl⟩ := hi
            have := dagB_get hdag (i := j) (o := ops[j]) (by simp [hj]) e he hbe
            exact ih _ (by omega) (by omega)
        rw [hr] at hm; cases hm
  intro fuel
  induction fuel with
  | zero =>
    intro listed f w hs hc hG
    have hall : ∀ j, j < ops.size → listed.getD j false = true := fun j hj => by
      cases hb : listed.getD j false with
      | true => rfl
      | false =>
        exfalso
        have h1 : false ∈ listed.toList := by
          simp only [Array.getD] at hb
          rw [dif_pos (by omega)] at hb
          rw [← hb]
          simp
        have := List.count_pos_iff.2 h1
        omega
    refine ⟨?_, hdone _ f w (fun j hj => hall j hj) hG⟩
    refine List.eq_nil_iff_forall_not_mem.2 fun i hi => ?_
    obtain ⟨h1, h2, _⟩ := (ready_iff listed i).1 hi
    have h3 := hall i h1
    simp only [Array.getD] at h2 h3
    rw [dif_pos (by omega)] at h2 h3
    rw [h2] at h3; cases h3
  | succ fuel ih =>
    intro listed f w hs hc hG
    refine ⟨fun hr => hdone _ f w (fun j hj => all_of listed hs hr j hj) hG, fun i hi => ?_⟩
    obtain ⟨h1, h2, o, ho, h3⟩ := (ready_iff listed i).1 hi
    have hol : ops.toList[i]? = some o := by simpa using ho
    have hli : listed.toList[i]? = some false := by
      simp only [Array.getD] at h2
      rw [dif_pos (by omega)] at h2
      simp only [Array.getElem?_toList]
      rw [Array.getElem?_eq_getElem (by omega)]
      exact congrArg some h2
    have hLi : (fun j => listed.getD j false) i = false := by
      show listed.getD i false = false
      simp only [Array.getD] at h2 ⊢
      rw [dif_pos (by omega)] at h2 ⊢
      exact h2
    have hL : (fun j => (listed.setIfInBounds i true).getD j false) = updL (fun j => listed.getD j false) i := by
      funext j
      simp only [updL]
      by_cases e : j = i
      · subst e
        rw [if_pos rfl]
        simp only [Array.getD, Array.size_setIfInBounds]
        rw [dif_pos (by omega), Array.getInternal_eq_getElem]
        simp
      · rw [if_neg e]
        simp only [Array.getD, Array.size_setIfInBounds]
        split
        · rw [Array.getInternal_eq_getElem, Array.getInternal_eq_getElem, Array.getElem_setIfInBounds_ne _ (fun h => e h.symm)]
        · rfl
    refine wpOp_step ho fun K' hK => ?_
    have hst := GSteps.get hstep hol (fun j => listed.getD j false) f w
    rw [Nat.zero_add] at hst
    refine hst hLi (fun j hj => h3 j hj) hG K' (Lib.hid fun v a' w' ha' hG' => ha' ▸ hK _ _ ?_)
    have hp := Puts.get hput hol f v
    rw [Nat.zero_add] at hp
    rw [hp]
    refine ih _ _ _ (by simp [hs]) ?_ (by rw [hL]; exact hG')
    have := count_set hli
    rw [Array.toList_setIfInBounds]
    omega
end

theorem region_by_inv {P : Program} {ops : Array Oper} {Q : Exit → Act → World → Prop} {id : Nat} {a : Act} {w : World} (G : (Nat → Bool) → (Nat → Value) → World → Prop) (hm : P.follows .mixedOrders = true) (hdag : dagB ops.toList 0 = true) (hap : apartB ops.toList = true)
    (h0 : ∀ f, G (fun _ => false) f w.drew) (hstep : GSteps P ops Q (frameOf a ops.toList 0) G ops.toList 0)
    (hdone : ∀ L f w, (∀ j, j < ops.size → L j = true) → G L f w → Q .normal (frameOf a ops.toList 0 f) w) : (Code.region id ops true).wp P Q a w := by
  rw [← frameOf_self a ops ops.toList 0 fun k => by simp] 
  refine wp_region_any hm ?_
  rw [frameOf_self a ops ops.toList 0 fun k => by simp]
  have h := any_inv hdag (puts_of _ _ (frameOf_put a _ _ hap)) hstep hdone ops.size (Array.replicate ops.size false) (fun j => slotOf a ((ops[j]?).bind (·.dst))) w.drew (by simp) (by simp) (by
    have e : (fun j => (Array.replicate ops.size false).getD j false) = fun _ => false := by
      funext j
      simp only [Array.getD]
      split <;> simp
    rw [e]
    exact h0 _)
  rw [frameOf_self a ops ops.toList 0 fun k => by simp] at h
  exact h








end Go.Proofs.YtnmhnaanpjlniaaGreat
/-
  A law for a region that draws its order and whose last operation writes: each of the others leaves a fact that no growth of memory takes away.
-/
namespace Go.Proofs.YtnmhnaanpjlniaaGreat
open Go.RowKit

/-- each operation but the last is waited for -/
def sinkB (ops : Array Oper) : Bool := (List.range (ops.size - 1)).all fun j => (List.range ops.size).any fun k => decide (j < k) && ((ops[k]?.map fun o => waitsOn o j).getD false)

theorem sink_all {ops : Array Oper} (h : sinkB ops = true) {L : Nat → Bool} (hcl : ∀ (i : Nat) (o : Oper), ops[i]? = some o → (L i = true ∨ i = ops.size - 1) → ∀ j, waitsOn o j = true → L j = true) : ∀ (d j : Nat), j + d = ops.size - 1 → j < ops.size - 1 → L j = true := by
  intro d
  induction d using Nat.strongRecOn with
  | ind d ih =>
    intro j hj hlt
    simp only [sinkB, List.all_eq_true, List.mem_range, List.any_eq_true, Bool.and_eq_true, decide_eq_true_eq] at h
    obtain ⟨k, hk, hjk, hw⟩ := h j hlt
    cases ho : ops[k]? with
    | none => rw [ho] at hw; cases hw
    | some o =>
      rw [ho] at hw
      by_cases e : k = ops.size - 1
      · exact hcl k o ho (.inr e) j hw
      · exact hcl k o ho (.inl (ih (ops.size - 1 - k) (by omega) k (by omega) (by omega))) j hw

/-- the last operation: from the facts of all others to what follows -/
def LastStep (P : Program) (ops : Array Oper) (Q : Exit → Act → World → Prop) (frame : (Nat → Value) → Act) (I : World → Prop) (F : Nat → Value → World → Prop) (i : Nat) (o : Oper) : Prop :=
  ∀ (f : Nat → Value) (w : World), I w → (∀ j, j < i → F j (f j) w) → ∀ K : Act → World → Prop, Hid (∀ v a' w', a' = (frame f).put o.dst v → Q .normal (frame (upd f i v)) w' → K a' w') →
    if Region.wanted o (yielded ops (frame f).tmps) = true then Oper.wp P o (frame f) w K Q else K ((frame f).put o.dst undef) w

def LSteps (P : Program) (ops : Array Oper) (Q : Exit → Act → World → Prop) (frame : (Nat → Value) → Act) (I : World → Prop) (F : Nat → Value → World → Prop) : List Oper → Nat → Prop
  | [], _ => True
  | [o], i => LastStep P ops Q frame I F i o
  | o :: o' :: l, i => RStep P ops Q frame I F i o ∧ LSteps P ops Q frame I F (o' :: l) (i + 1)

theorem LSteps.get {P : Program} {ops : Array Oper} {Q : Exit → Act → World → Prop} {frame : (Nat → Value) → Act} {I : World → Prop} {F : Nat → Value → World → Prop} : ∀ {l : List Oper} {k : Nat}, LSteps P ops Q frame I F l k → ∀ {i : Nat} {o : Oper}, l[i]? = some o → (i + 1 < l.length → RStep P ops Q frame I F (k + i) o) ∧ (i + 1 = l.length → LastStep P ops Q frame I F (k + i) o)
  | [], _, _, _, _, h => by simp at h
  | [_], _, h, 0, _, ho => by cases ho; exact ⟨fun h' => by simp at h', fun _ => h⟩
  | [_], _, _, i + 1, _, ho => by simp at ho
  | _ :: _ :: _, _, h, 0, _, ho => by cases ho; exact ⟨fun _ => h.1, fun h' => by simp at h'⟩
  | _ :: b :: l, k, h, i + 1, o, ho => by
    have := LSteps.get (l := b :: l) h.2 (i := i) (o := o) (by simpa using ho)
    rw [show k + (i + 1) = k + 1 + i from by omega]
    simp only [List.length_cons] at this ⊢
    exact ⟨fun h' => this.1 (by omega), fun h' => this.2 (by omega)⟩

theorem region_facts_last {P : Program} {ops : Array Oper} {Q : Exit → Act → World → Prop} {id : Nat} {a : Act} {w : World} (I : World → Prop) (L : List (Value → World → Prop)) (hL : StableAll L) (hm : P.follows .mixedOrders = true) (hdag : dagB ops.toList 0 = true) (hap : apartB ops.toList = true) (hsink : sinkB ops = true)
    (h0 : I w.drew) (hstep : LSteps P ops Q (frameOf a ops.toList 0) I (factOf L) ops.toList 0) (hne : 0 < ops.size) : (Code.region id ops true).wp P Q a w := by
  have hopt : ∀ {i : Nat} {o : Oper}, ops.toList[i]? = some o → ops[i]? = some o := fun h => by simpa using h
  refine region_by_inv (fun M f W => (∀ (i : Nat) (o : Oper), ops[i]? = some o → M i = true → ∀ j, waitsOn o j = true → M j = true) ∧ (M (ops.size - 1) = false → I W ∧ ∀ j, j < ops.size - 1 → M j = true → factOf L j (f j) W) ∧ (M (ops.size - 1) = true → (∀ j, j < ops.size - 1 → M j = true) ∧ Q .normal (frameOf a ops.toList 0 f) W)) hm hdag hap
    (fun f => ⟨(fun _ _ _ h => by cases h), (fun _ => ⟨h0, (fun _ _ h => by cases h)⟩), (fun h => by cases h)⟩) ?_ (fun M f W hall hG => (hG.2.2 (hall _ (by omega))).2)
  have build : ∀ (l : List Oper) (k : Nat), (∀ i o, l[i]? = some o → GStep P ops Q (frameOf a ops.toList 0) (fun M f W => (∀ (i : Nat) (o : Oper), ops[i]? = some o → M i = true → ∀ j, waitsOn o j = true → M j = true) ∧ (M (ops.size - 1) = false → I W ∧ ∀ j, j < ops.size - 1 → M j = true → factOf L j (f j) W) ∧ (M (ops.size - 1) = true → (∀ j, j < ops.size - 1 → M j = true) ∧ Q .normal (frameOf a ops.toList 0 f) W)) (k + i) o) → GSteps P ops Q (frameOf a ops.toList 0) (fun M f W => (∀ (i : Nat) (o : Oper), ops[i]? = some o → M i = true → ∀ j, waitsOn o j = true → M j = true) ∧ (M (ops.size - 1) = false → I W ∧ ∀ j, j < ops.size - 1 → M j = true → factOf L j (f j) W) ∧ (M (ops.size - 1) = true → (∀ j, j < ops.size - 1 → M j = true) ∧ Q .normal (frameOf a ops.toList 0 f) W)) l k := by
    intro l
    induction l with
    | nil => intro _ _; trivial
    | cons o l ih =>
      intro k h
      exact ⟨h 0 o rfl, ih (k + 1) fun i o' ho => by rw [show k + 1 + i = k + (i + 1) from by omega]; exact h (i + 1) o' (by simpa using ho)⟩
  refine build _ 0 fun i o ho => ?_
  rw [Nat.zero_add]
  have hi : i < ops.size := by have := (List.getElem?_eq_some_iff.1 ho).1; simpa using this
  have hg := LSteps.get hstep ho
  rw [Nat.zero_add] at hg
  simp only [Array.length_toList] at hg
  intro M f W hMi hwait hG K hK
  have hdg : ∀ j, waitsOn o j = true → j < i := fun j hj => by
    simp only [waitsOn, Array.any_eq_true', Bool.and_eq_true, beq_iff_eq] at hj
    obtain ⟨e, he, hbe, rfl⟩ := hj
    have := dagB_get hdag ho e he hbe
    omega
  have hclosed : ∀ (i' : Nat) (o' : Oper), ops[i']? = some o' → updL M i i' = true → ∀ j, waitsOn o' j = true → updL M i j = true := by
    intro i' o' ho' hi' j hj
    simp only [updL] at hi' ⊢
    split
    · rfl
    · by_cases e : i' = i
      · subst e
        rw [hopt ho] at ho'
        cases ho'
        exact hwait j hj
      · rw [if_neg e] at hi'
        exact hG.1 i' o' ho' hi' j hj
  by_cases hlast : i = ops.size - 1
  · -- the last one
    have hMl : M (ops.size - 1) = false := by rw [← hlast]; exact hMi
    have hall : ∀ j, j < ops.size - 1 → M j = true := fun j hj => sink_all hsink (L := M) (fun i' o' ho' h j hj => by
      rcases h with h | h
      · exact hG.1 i' o' ho' h j hj
      · rw [h, ← hlast, hopt ho] at ho'
        cases ho'
        exact hwait j hj) (ops.size - 1 - j) j (by omega) hj
    obtain ⟨hI, hF⟩ := hG.2.1 hMl
    refine hg.2 (by omega) f W hI (fun j hj => hF j (by omega) (hall j (by omega))) K (Lib.hid fun v a' w' ha hq => hK.out v a' w' ha ⟨hclosed, fun h => ?_, fun _ => ⟨fun j hj => ?_, hq⟩⟩)
    · simp only [updL] at h; rw [if_pos hlast.symm] at h; cases h
    · simp only [updL]; rw [if_neg (by omega)]; exact hall j hj
  · have hMl : M (ops.size - 1) = false := by
      cases hb : M (ops.size - 1) with
      | false => rfl
      | true => have := (hG.2.2 hb).1 i (by omega); rw [hMi] at this; cases this
    obtain ⟨hI, hF⟩ := hG.2.1 hMl
    refine hg.1 (by omega) f W hI (fun j hj => hF j (by have := hdg j hj; omega) (hwait j hj)) K (Lib.hid fun v a' w' ha hI' hB hf => hK.out v a' w' ha ⟨hclosed, fun _ => ⟨hI', fun j hj hjt => ?_⟩, fun h => ?_⟩)
    · simp only [updL, upd] at hjt ⊢
      by_cases e : j = i
      · subst e; rw [if_pos rfl]; exact hf
      · rw [if_neg e] at hjt ⊢
        exact factOf_stable hL j _ _ _ (hF j hj hjt) hB
    · simp only [updL] at h; rw [if_neg (fun e => hlast e.symm), hMl] at h; cases h

end Go.Proofs.YtnmhnaanpjlniaaGreat
